/-
  Words of cred: the contracts of isNameByte, isName, mayBe and of the twin's may.
-/
import Derived.Test.YtedibkcempcpnaaDoorTCor
namespace Go.Proofs.YtedibkcempcpnaaDoor.T
open Go.RowKit
def nmB (x : Nat) : Bool := decide ((97 ≤ x ∧ x ≤ 122) ∨ (48 ≤ x ∧ x ≤ 57) ∨ x = 45)
def nmR (s : ByteArray) : Bool := allN nmB s s.size && decide (1 ≤ s.size ∧ s.size ≤ 32)
structure Tn where
  name : ByteArray
  key : ByteArray
  quota : Int
def tnA (t : Tn) : Array Value := #[.string t.name, .string t.key, .int .i64 t.quota]
def tnV (t : Tn) : Value := .agg #[.string t.name, .string t.key, .int .i64 t.quota]
def okT (t : Tn) : Bool := nmR t.name && decide (1 ≤ t.key.size ∧ t.key.size ≤ 64 ∧ 0 ≤ t.quota ∧ t.quota ≤ 1048576)
set_option maxRecDepth 20000 in
set_option maxHeartbeats 1000000 in
theorem isNameByte_any (x : Nat) (w : World) : Calls Tryd.prog 58 #[.int .u8 (x : Int)] w fun e w' => e = .returned (.bool (nmB x)) ∧ w' = w := by
  rcases (by omega : (97 ≤ x ∧ x ≤ 122) ∨ (122 < x) ∨ (57 < x ∧ x < 97) ∨ (48 ≤ x ∧ x ≤ 57) ∨ (x < 48 ∧ x ≠ 45) ∨ x = 45) with g | g | g | g | g | rfl
  · rw [show nmB x = true by simp [nmB]; omega]
    have k0 : (97 : Int) ≤ (x : Int) := by omega
    have k1 : (x : Int) ≤ 122 := by omega
    clear g
    go_enter Tryd.func58, Tryd.ntmps58
    go_wp2
    go_ret
    exact ⟨rfl, rfl⟩
  · rw [show nmB x = false by simp [nmB]; omega]
    have k0 : (97 : Int) ≤ (x : Int) := by omega
    have k1 : ¬ (x : Int) ≤ 122 := by omega
    have k2 : (48 : Int) ≤ (x : Int) := by omega
    have k3 : ¬ (x : Int) ≤ 57 := by omega
    have k4 : ¬ (x : Int) = 45 := by omega
    have kb : ((x : Int) == 45) = false := by simp; omega
    clear g
    go_enter Tryd.func58, Tryd.ntmps58
    go_wp2
    go_ret
    exact ⟨rfl, rfl⟩
  · rw [show nmB x = false by simp [nmB]; omega]
    have k0 : ¬ (97 : Int) ≤ (x : Int) := by omega
    have k1 : (48 : Int) ≤ (x : Int) := by omega
    have k2 : ¬ (x : Int) ≤ 57 := by omega
    have k3 : ¬ (x : Int) = 45 := by omega
    have kb : ((x : Int) == 45) = false := by simp; omega
    clear g
    go_enter Tryd.func58, Tryd.ntmps58
    go_wp2
    go_ret
    exact ⟨rfl, rfl⟩
  · rw [show nmB x = true by simp [nmB]; omega]
    have k0 : ¬ (97 : Int) ≤ (x : Int) := by omega
    have k1 : (48 : Int) ≤ (x : Int) := by omega
    have k2 : (x : Int) ≤ 57 := by omega
    clear g
    go_enter Tryd.func58, Tryd.ntmps58
    go_wp2
    go_ret
    exact ⟨rfl, rfl⟩
  · rw [show nmB x = false by simp [nmB]; omega]
    have k0 : ¬ (97 : Int) ≤ (x : Int) := by omega
    have k1 : ¬ (48 : Int) ≤ (x : Int) := by omega
    have k2 : ¬ (x : Int) = 45 := by omega
    have kb : ((x : Int) == 45) = false := by simp; omega
    clear g
    go_enter Tryd.func58, Tryd.ntmps58
    go_wp2
    go_ret
    exact ⟨rfl, rfl⟩
  · go_enter Tryd.func58, Tryd.ntmps58
    go_wp2
    go_ret
    exact ⟨rfl, rfl⟩
set_option maxRecDepth 20000 in
set_option maxHeartbeats 2000000 in
theorem isName_any (s : ByteArray) (hs : s.size ≤ 140737488355328) (w : World) : Calls Tryd.prog 45 #[.string s] w fun e w' => e = .returned (.bool (nmR s)) ∧ w' = w := by
  obtain ⟨T, hT⟩ : ∃ T, nmR s = T := ⟨_, rfl⟩
  have HT : Hid _ := hT
  rw [hT]
  clear hT
  go_enter Tryd.func45, Tryd.ntmps45
  go_wp2_with fail
  go_loopw [6] (fun i wr => ∃ k : Nat, k ≤ s.size ∧ i = .int .i64 k ∧ Hid (allN nmB s k = true) ∧ wr = w) (fun i _ => s.size - (intOf i).toNat)
  case atStart => exact ⟨0, by omega, rfl, rfl, rfl⟩
  case round =>
    obtain ⟨k, hk, rfl, HN, rfl⟩ := hrel
    by_cases hlt : k < s.size
    · have r0 := fun W => run_byte s (i := k) (z := (k : Int)) rfl hlt W
      have hnx : allN nmB s (k + 1) = nmB (byteAt s k) := by rw [allN, HN.out, Bool.true_and]
      obtain ⟨x, hx⟩ : ∃ x, byteAt s k = x := ⟨_, rfl⟩
      rw [hx] at r0 hnx
      have H1 : Hid (∀ W : World, _) := fun W => isNameByte_any x W
      clear hx
      cases h1 : nmB x with
      | false =>
        rw [h1] at H1 hnx
        have HV : Hid _ := hnx
        clear h1 hnx
        go_wp2_with (go_at_call 58; refine (H1.out _).mono ?_; rintro e w' ⟨rfl, rfl⟩)
        go_ret
        exact ⟨by rw [← HT.out, nmR, allN_false HV.out (by omega)]; rfl, rfl⟩
      | true =>
        rw [h1] at H1 hnx
        have HV : Hid _ := hnx
        clear h1 hnx
        go_wp2_with (go_at_call 58; refine (H1.out _).mono ?_; rintro e w' ⟨rfl, rfl⟩)
        go_roundw
        case rel => exact ⟨k + 1, by omega, by go_num, HV.out, by first | rfl | trivial⟩
        case measure => simp [intOf]; omega
    · obtain rfl : k = s.size := by omega
      rcases (by omega : s.size < 1 ∨ 32 < s.size ∨ (1 ≤ s.size ∧ s.size ≤ 32)) with g | g | g
      · have HE : Hid (T = false) := by rw [Hid, ← HT.out, nmR, HN.out, decide_eq_false (by omega)]; rfl
        have q0 : ¬ (1 : Int) ≤ (s.size : Int) := by omega
        clear g
        go_wp2_with fail
        go_ret
        exact ⟨by rw [HE.out]; rfl, rfl⟩
      · have HE : Hid (T = false) := by rw [Hid, ← HT.out, nmR, HN.out, decide_eq_false (by omega)]; rfl
        have q0 : (1 : Int) ≤ (s.size : Int) := by omega
        have q1 : ¬ (s.size : Int) ≤ 32 := by omega
        clear g
        go_wp2_with fail
        go_ret
        exact ⟨by rw [HE.out]; rfl, rfl⟩
      · have HE : Hid (T = true) := by rw [Hid, ← HT.out, nmR, HN.out, decide_eq_true (by omega)]; rfl
        have q0 : (1 : Int) ≤ (s.size : Int) := by omega
        have q1 : (s.size : Int) ≤ 32 := by omega
        clear g
        go_wp2_with fail
        go_ret
        exact ⟨by rw [HE.out]; rfl, rfl⟩
set_option maxRecDepth 20000 in
set_option maxHeartbeats 4000000 in
theorem mayBe_any (t : Tn) (hz : t.name.size ≤ 140737488355328) (hk : t.key.size ≤ 140737488355328) (w : World) : Calls Tryd.prog 23 #[tnV t] w fun e w' => e = .returned (.bool (okT t)) ∧ Below w.heap.size w w' := by
  obtain ⟨nm, ky, qt⟩ := t
  simp only [tnV] at hz hk ⊢
  have hT : okT ⟨nm, ky, qt⟩ = (nmR nm && decide (1 ≤ ky.size ∧ ky.size ≤ 64 ∧ 0 ≤ qt ∧ qt ≤ 1048576)) := rfl
  have H1 : Hid (∀ W : World, _) := fun W => isName_any nm hz W
  rw [hT]
  obtain ⟨n, hn⟩ : ∃ n, nmR nm = n := ⟨_, rfl⟩
  rw [hn] at H1 ⊢
  clear hT hn
  cases n with
  | false =>
    rw [Bool.false_and]
    go_enter Tryd.func23, Tryd.ntmps23
    go_wp2_with (go_at_call 45; refine (H1.out _).mono ?_; rintro e w' ⟨rfl, rfl⟩)
    go_ret
    exact ⟨rfl, (Below.refl _ _).alloc (Nat.le_refl _) _⟩
  | true =>
    rw [Bool.true_and]
    rcases (by omega : ky.size < 1 ∨ 64 < ky.size ∨ (1 ≤ ky.size ∧ ky.size ≤ 64 ∧ qt < 0) ∨ (1 ≤ ky.size ∧ ky.size ≤ 64 ∧ 1048576 < qt) ∨ (1 ≤ ky.size ∧ ky.size ≤ 64 ∧ 0 ≤ qt ∧ qt ≤ 1048576)) with g | g | g | g | g
    · rw [decide_eq_false (by omega)]
      have q0 : ¬ (1 : Int) ≤ (ky.size : Int) := by omega
      clear g
      go_enter Tryd.func23, Tryd.ntmps23
      go_wp2_with (go_at_call 45; refine (H1.out _).mono ?_; rintro e w' ⟨rfl, rfl⟩)
      go_ret
      exact ⟨rfl, (Below.refl _ _).alloc (Nat.le_refl _) _⟩
    · rw [decide_eq_false (by omega)]
      have q0 : (1 : Int) ≤ (ky.size : Int) := by omega
      have q1 : ¬ (ky.size : Int) ≤ 64 := by omega
      clear g
      go_enter Tryd.func23, Tryd.ntmps23
      go_wp2_with (go_at_call 45; refine (H1.out _).mono ?_; rintro e w' ⟨rfl, rfl⟩)
      go_ret
      exact ⟨rfl, (Below.refl _ _).alloc (Nat.le_refl _) _⟩
    · rw [decide_eq_false (by omega)]
      have q0 : (1 : Int) ≤ (ky.size : Int) := by omega
      have q1 : (ky.size : Int) ≤ 64 := by omega
      have q2 : ¬ 0 ≤ qt := by omega
      clear g
      go_enter Tryd.func23, Tryd.ntmps23
      go_wp2_with (go_at_call 45; refine (H1.out _).mono ?_; rintro e w' ⟨rfl, rfl⟩)
      go_ret
      exact ⟨rfl, (Below.refl _ _).alloc (Nat.le_refl _) _⟩
    · rw [decide_eq_false (by omega)]
      have q0 : (1 : Int) ≤ (ky.size : Int) := by omega
      have q1 : (ky.size : Int) ≤ 64 := by omega
      have q2 : 0 ≤ qt := by omega
      have q3 : decide (qt ≤ 1048576) = false := by exact decide_eq_false (by omega)
      clear g
      go_enter Tryd.func23, Tryd.ntmps23
      go_wp2_with (go_at_call 45; refine (H1.out _).mono ?_; rintro e w' ⟨rfl, rfl⟩)
      go_ret
      exact ⟨rfl, (Below.refl _ _).alloc (Nat.le_refl _) _⟩
    · rw [decide_eq_true (by omega)]
      have q0 : (1 : Int) ≤ (ky.size : Int) := by omega
      have q1 : (ky.size : Int) ≤ 64 := by omega
      have q2 : 0 ≤ qt := by omega
      have q3 : qt ≤ 1048576 := by omega
      clear g
      go_enter Tryd.func23, Tryd.ntmps23
      go_wp2_with (go_at_call 45; refine (H1.out _).mono ?_; rintro e w' ⟨rfl, rfl⟩)
      go_ret
      exact ⟨rfl, (Below.refl _ _).alloc (Nat.le_refl _) _⟩
set_option maxRecDepth 20000 in
set_option maxHeartbeats 4000000 in
theorem qmay_any (t : Tn) (hz : t.name.size ≤ 140737488355328) (hk : t.key.size ≤ 140737488355328) (w : World) : Calls Tryd.prog 26 #[tnV t] w fun e w' => e = .returned (.bool (okT t)) ∧ Below w.heap.size w w' := by
  obtain ⟨nm, ky, qt⟩ := t
  simp only [tnV] at hz hk ⊢
  have hT : okT ⟨nm, ky, qt⟩ = ((allN nmB nm nm.size && decide (1 ≤ nm.size ∧ nm.size ≤ 32)) && decide (1 ≤ ky.size ∧ ky.size ≤ 64 ∧ 0 ≤ qt ∧ qt ≤ 1048576)) := rfl
  obtain ⟨T, hTT⟩ : ∃ T, okT ⟨nm, ky, qt⟩ = T := ⟨_, rfl⟩
  rw [hTT] at hT ⊢
  have HT : Hid _ := hT
  clear hT hTT
  rcases (by omega : nm.size < 1 ∨ (1 ≤ nm.size ∧ 32 < nm.size) ∨ (1 ≤ nm.size ∧ nm.size ≤ 32 ∧ ky.size < 1) ∨ (1 ≤ nm.size ∧ nm.size ≤ 32 ∧ 64 < ky.size) ∨ (1 ≤ nm.size ∧ nm.size ≤ 32 ∧ 1 ≤ ky.size ∧ ky.size ≤ 64 ∧ qt < 0) ∨ (1 ≤ nm.size ∧ nm.size ≤ 32 ∧ 1 ≤ ky.size ∧ ky.size ≤ 64 ∧ 1048576 < qt) ∨ (1 ≤ nm.size ∧ nm.size ≤ 32 ∧ 1 ≤ ky.size ∧ ky.size ≤ 64 ∧ 0 ≤ qt ∧ qt ≤ 1048576)) with g | g | g | g | g | g | g
  · have HR : Hid (T = false) := by rw [Hid, HT.out, show decide (1 ≤ nm.size ∧ nm.size ≤ 32) = false from decide_eq_false (by omega)]; simp
    have q0 : (nm.size : Int) < 1 := by omega
    clear g
    go_enter Tryd.func26, Tryd.ntmps26
    go_wp2_with fail
    go_ret
    exact ⟨by rw [HR.out]; rfl, (Below.refl _ _).alloc (Nat.le_refl _) _⟩
  · have HR : Hid (T = false) := by rw [Hid, HT.out, show decide (1 ≤ nm.size ∧ nm.size ≤ 32) = false from decide_eq_false (by omega)]; simp
    have q0 : ¬ (nm.size : Int) < 1 := by omega
    have q1 : (32 : Int) < (nm.size : Int) := by omega
    clear g
    go_enter Tryd.func26, Tryd.ntmps26
    go_wp2_with fail
    go_ret
    exact ⟨by rw [HR.out]; rfl, (Below.refl _ _).alloc (Nat.le_refl _) _⟩
  · have HR : Hid (T = false) := by rw [Hid, HT.out, show decide (1 ≤ ky.size ∧ ky.size ≤ 64 ∧ 0 ≤ qt ∧ qt ≤ 1048576) = false from decide_eq_false (by omega)]; simp
    have q0 : ¬ (nm.size : Int) < 1 := by omega
    have q1 : ¬ (32 : Int) < (nm.size : Int) := by omega
    have q2 : (ky.size : Int) < 1 := by omega
    clear g
    go_enter Tryd.func26, Tryd.ntmps26
    go_wp2_with fail
    go_ret
    exact ⟨by rw [HR.out]; rfl, (Below.refl _ _).alloc (Nat.le_refl _) _⟩
  · have HR : Hid (T = false) := by rw [Hid, HT.out, show decide (1 ≤ ky.size ∧ ky.size ≤ 64 ∧ 0 ≤ qt ∧ qt ≤ 1048576) = false from decide_eq_false (by omega)]; simp
    have q0 : ¬ (nm.size : Int) < 1 := by omega
    have q1 : ¬ (32 : Int) < (nm.size : Int) := by omega
    have q2 : ¬ (ky.size : Int) < 1 := by omega
    have q3 : (64 : Int) < (ky.size : Int) := by omega
    clear g
    go_enter Tryd.func26, Tryd.ntmps26
    go_wp2_with fail
    go_ret
    exact ⟨by rw [HR.out]; rfl, (Below.refl _ _).alloc (Nat.le_refl _) _⟩
  · have HR : Hid (T = false) := by rw [Hid, HT.out, show decide (1 ≤ ky.size ∧ ky.size ≤ 64 ∧ 0 ≤ qt ∧ qt ≤ 1048576) = false from decide_eq_false (by omega)]; simp
    have q0 : ¬ (nm.size : Int) < 1 := by omega
    have q1 : ¬ (32 : Int) < (nm.size : Int) := by omega
    have q2 : ¬ (ky.size : Int) < 1 := by omega
    have q3 : ¬ (64 : Int) < (ky.size : Int) := by omega
    have q4 : qt < 0 := by omega
    clear g
    go_enter Tryd.func26, Tryd.ntmps26
    go_wp2_with fail
    go_ret
    exact ⟨by rw [HR.out]; rfl, (Below.refl _ _).alloc (Nat.le_refl _) _⟩
  · have HR : Hid (T = false) := by rw [Hid, HT.out, show decide (1 ≤ ky.size ∧ ky.size ≤ 64 ∧ 0 ≤ qt ∧ qt ≤ 1048576) = false from decide_eq_false (by omega)]; simp
    have q0 : ¬ (nm.size : Int) < 1 := by omega
    have q1 : ¬ (32 : Int) < (nm.size : Int) := by omega
    have q2 : ¬ (ky.size : Int) < 1 := by omega
    have q3 : ¬ (64 : Int) < (ky.size : Int) := by omega
    have q4 : ¬ qt < 0 := by omega
    have q5 : 1048576 < qt := by omega
    clear g
    go_enter Tryd.func26, Tryd.ntmps26
    go_wp2_with fail
    go_ret
    exact ⟨by rw [HR.out]; rfl, (Below.refl _ _).alloc (Nat.le_refl _) _⟩
  · have HR : Hid (T = allN nmB nm nm.size) := by rw [Hid, HT.out, show decide (1 ≤ nm.size ∧ nm.size ≤ 32) = true from decide_eq_true (by omega), show decide (1 ≤ ky.size ∧ ky.size ≤ 64 ∧ 0 ≤ qt ∧ qt ≤ 1048576) = true from decide_eq_true (by omega)]; simp
    have q0 : ¬ (nm.size : Int) < 1 := by omega
    have q1 : ¬ (32 : Int) < (nm.size : Int) := by omega
    have q2 : ¬ (ky.size : Int) < 1 := by omega
    have q3 : ¬ (64 : Int) < (ky.size : Int) := by omega
    have q4 : ¬ qt < 0 := by omega
    have q5 : ¬ 1048576 < qt := by omega
    clear g HT
    obtain ⟨W0, hW0⟩ : ∃ W0, w.alloc (.cells #[.string nm, .string ky, .int .i64 qt] 24) = W0 := ⟨_, rfl⟩
    have HB0 : Hid (Below w.heap.size w W0) := by rw [Hid, ← hW0]; exact (Below.refl _ _).alloc (Nat.le_refl _) _
    have c0 : W0.cell? ⟨w.heap.size, 0, none⟩ = some (.string nm) := by rw [← hW0]; exact cell_of_block (block_alloc_at _ _) rfl
    have c1 : W0.cell? ⟨w.heap.size, 1, none⟩ = some (.string ky) := by rw [← hW0]; exact cell_of_block (block_alloc_at _ _) rfl
    have c2 : W0.cell? ⟨w.heap.size, 2, none⟩ = some (.int .i64 qt) := by rw [← hW0]; exact cell_of_block (block_alloc_at _ _) rfl
    go_enter Tryd.func26, Tryd.ntmps26
    go_wp2_with fail
    try rw [hW0]
    clear hW0
    go_loopw [3] (fun i wr => ∃ k : Nat, k ≤ nm.size ∧ i = .int .i64 k ∧ Hid (allN nmB nm k = true) ∧ wr = W0) (fun i _ => nm.size - (intOf i).toNat)
    case atStart => exact ⟨0, by omega, rfl, rfl, rfl⟩
    case round =>
      obtain ⟨k, hk2, rfl, HN, hwr⟩ := hrel
      rw [hwr]
      by_cases hlt : k < nm.size
      · have hlz : (k : Int) < (nm.size : Int) := by omega
        have r0 := fun W => run_byte nm (i := k) (z := (k : Int)) rfl hlt W
        have hnx : allN nmB nm (k + 1) = nmB (byteAt nm k) := by rw [allN, HN.out, Bool.true_and]
        obtain ⟨x, hx⟩ : ∃ x, byteAt nm k = x := ⟨_, rfl⟩
        rw [hx] at r0 hnx
        clear hx
        rcases (by omega : (97 ≤ x ∧ x ≤ 122) ∨ (122 < x) ∨ (57 < x ∧ x < 97) ∨ (48 ≤ x ∧ x ≤ 57) ∨ (x < 48 ∧ x ≠ 45) ∨ x = 45) with g | g | g | g | g | rfl
        · rw [show nmB x = true by simp [nmB]; omega] at hnx
          have HV : Hid _ := hnx
          have k0 : (97 : Int) ≤ (x : Int) := by omega
          have k1 : (x : Int) ≤ 122 := by omega
          clear g hnx
          go_wp2_with fail
          go_roundw
          case rel => exact ⟨k + 1, by omega, by go_num, HV.out, by first | rfl | trivial⟩
          case measure => simp [intOf]; omega
        · rw [show nmB x = false by simp [nmB]; omega] at hnx
          have HV : Hid _ := hnx
          have k0 : (97 : Int) ≤ (x : Int) := by omega
          have k1 : ¬ (x : Int) ≤ 122 := by omega
          have k2 : (48 : Int) ≤ (x : Int) := by omega
          have k3 : ¬ (x : Int) ≤ 57 := by omega
          have k4 : ¬ (x : Int) = 45 := by omega
          have kb : ((x : Int) == 45) = false := by simp; omega
          clear g hnx
          go_wp2_with fail
          go_ret
          exact ⟨by rw [HR.out, allN_false HV.out (by omega)]; rfl, HB0.out⟩
        · rw [show nmB x = false by simp [nmB]; omega] at hnx
          have HV : Hid _ := hnx
          have k0 : ¬ (97 : Int) ≤ (x : Int) := by omega
          have k1 : (48 : Int) ≤ (x : Int) := by omega
          have k2 : ¬ (x : Int) ≤ 57 := by omega
          have k3 : ¬ (x : Int) = 45 := by omega
          have kb : ((x : Int) == 45) = false := by simp; omega
          clear g hnx
          go_wp2_with fail
          go_ret
          exact ⟨by rw [HR.out, allN_false HV.out (by omega)]; rfl, HB0.out⟩
        · rw [show nmB x = true by simp [nmB]; omega] at hnx
          have HV : Hid _ := hnx
          have k0 : ¬ (97 : Int) ≤ (x : Int) := by omega
          have k1 : (48 : Int) ≤ (x : Int) := by omega
          have k2 : (x : Int) ≤ 57 := by omega
          clear g hnx
          go_wp2_with fail
          go_roundw
          case rel => exact ⟨k + 1, by omega, by go_num, HV.out, by first | rfl | trivial⟩
          case measure => simp [intOf]; omega
        · rw [show nmB x = false by simp [nmB]; omega] at hnx
          have HV : Hid _ := hnx
          have k0 : ¬ (97 : Int) ≤ (x : Int) := by omega
          have k1 : ¬ (48 : Int) ≤ (x : Int) := by omega
          have k2 : ¬ (x : Int) = 45 := by omega
          have kb : ((x : Int) == 45) = false := by simp; omega
          clear g hnx
          go_wp2_with fail
          go_ret
          exact ⟨by rw [HR.out, allN_false HV.out (by omega)]; rfl, HB0.out⟩
        · have HV : Hid (allN nmB nm (k + 1) = true) := by rw [Hid, hnx]; decide
          clear hnx
          go_wp2_with fail
          go_roundw
          case rel => exact ⟨k + 1, by omega, by go_num, HV.out, by first | rfl | trivial⟩
          case measure => simp [intOf]; omega
      · obtain rfl : k = nm.size := by omega
        have hlz : ¬ (nm.size : Int) < (nm.size : Int) := by omega
        go_wp2_with fail
        go_ret
        exact ⟨by rw [HR.out, HN.out]; rfl, HB0.out⟩
end Go.Proofs.YtedibkcempcpnaaDoor.T
