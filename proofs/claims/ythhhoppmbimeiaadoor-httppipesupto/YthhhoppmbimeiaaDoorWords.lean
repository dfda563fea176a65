/-
  The words of a head: the contracts of isMethod, isTarget and of the twin's method, target, value.
-/
import Derived.Test.YthhhoppmbimeiaaDoorRCls
namespace Go.Proofs.YthhhoppmbimeiaaDoor
open Go.RowKit
/-- The first k bytes all keep p. -/
def allN (p : Nat → Bool) (s : ByteArray) : Nat → Bool
  | 0 => true
  | k + 1 => allN p s k && p (byteAt s k)
theorem allN_false {p : Nat → Bool} {s : ByteArray} {k m : Nat} (h : allN p s k = false) (hm : k ≤ m) : allN p s m = false := by
  induction m with
  | zero => obtain rfl : k = 0 := by omega
            exact h
  | succ m ih =>
    rcases Nat.lt_or_eq_of_le hm with h1 | rfl
    · rw [allN, ih (by omega), Bool.false_and]
    · exact h
def metB (x : Nat) : Bool := decide (65 ≤ x ∧ x ≤ 90)
def tarB (x : Nat) : Bool := decide (33 ≤ x ∧ x ≤ 126)
def valB (x : Nat) : Bool := decide ((32 ≤ x ∨ x = 9) ∧ x ≠ 127)
def metR (s : ByteArray) : Bool := allN metB s s.size && decide (1 ≤ s.size ∧ s.size ≤ 16)
def tarR (s : ByteArray) : Bool := allN tarB s s.size && decide (1 ≤ s.size ∧ s.size ≤ 1024 ∧ byteAt s 0 = 47)
def valA (s : ByteArray) : Bool := allN valB s s.size
set_option maxRecDepth 20000 in
set_option maxHeartbeats 2000000 in
theorem isMethod_any (s : ByteArray) (hs : s.size ≤ 140737488355328) (w : World) : Calls Tryd.prog 42 #[.string s] w fun e w' => e = .returned (.bool (metR s)) ∧ w' = w := by
  by_cases h_short : s.size < 1
  · rw [show metR s = false by unfold metR; rw [decide_eq_false (by omega), Bool.and_false]]
    have q0 : (s.size : Int) < 1 := by omega
    go_enter Tryd.func42, Tryd.ntmps42
    go_wp2_with fail
    go_ret
    exact ⟨rfl, rfl⟩
  by_cases h_long : 16 < s.size
  · rw [show metR s = false by unfold metR; rw [decide_eq_false (by omega), Bool.and_false]]
    have q0 : ¬ (s.size : Int) < 1 := by omega
    have q1 : (s.size : Int) > 16 := by omega
    go_enter Tryd.func42, Tryd.ntmps42
    go_wp2_with fail
    go_ret
    exact ⟨rfl, rfl⟩
  obtain ⟨T, hT⟩ : ∃ T, metR s = T := ⟨_, rfl⟩
  have HT : Hid _ := hT
  rw [hT]
  clear hT
  have z0 : ¬ (s.size : Int) < 1 := by omega
  have z1 : ¬ (s.size : Int) > 16 := by omega
  have z2 : ¬ (16 : Int) < (s.size : Int) := by omega
  go_enter Tryd.func42, Tryd.ntmps42
  go_wp2_with fail
  go_loopw [14] (fun i wr => ∃ k : Nat, k ≤ s.size ∧ i = .int .i64 k ∧ Hid (allN metB s k = true) ∧ wr = w) (fun i _ => s.size - (intOf i).toNat)
  case atStart => exact ⟨0, by omega, rfl, rfl, rfl⟩
  case round =>
    obtain ⟨k, hk, rfl, HN, rfl⟩ := hrel
    by_cases hlt : k < s.size
    · have r0 := fun W => run_byte s (i := k) (z := (k : Int)) rfl hlt W
      have hnx : allN metB s (k + 1) = metB (byteAt s k) := by rw [allN, HN.out, Bool.true_and]
      obtain ⟨x, hx⟩ : ∃ x, byteAt s k = x := ⟨_, rfl⟩
      rw [hx] at r0 hnx
      clear hx
      rcases (by omega : (x < 65) ∨ (65 ≤ x ∧ x ≤ 90) ∨ (90 < x)) with g | g | g
      · rw [show metB x = false by simp [metB]; omega] at hnx
        have HV : Hid _ := hnx
        have q0 : (x : Int) < 65 := by omega
        clear g hnx
        go_wp2_with fail
        go_ret
        exact ⟨by rw [← HT.out, metR, allN_false HV.out (by omega)]; rfl, rfl⟩
      · rw [show metB x = true by simp [metB]; omega] at hnx
        have HV : Hid _ := hnx
        have q0 : ¬ (x : Int) < 65 := by omega
        have q1 : ¬ (x : Int) > 90 := by omega
        have q2 : ¬ (90 : Int) < (x : Int) := by omega
        clear g hnx
        go_wp2_with fail
        go_roundw
        case rel => exact ⟨k + 1, by omega, by go_num, HV.out, by first | rfl | trivial⟩
        case measure => simp [intOf]; omega
      · rw [show metB x = false by simp [metB]; omega] at hnx
        have HV : Hid _ := hnx
        have q0 : ¬ (x : Int) < 65 := by omega
        have q1 : (x : Int) > 90 := by omega
        clear g hnx
        go_wp2_with fail
        go_ret
        exact ⟨by rw [← HT.out, metR, allN_false HV.out (by omega)]; rfl, rfl⟩
    · obtain rfl : k = s.size := by omega
      have HE : Hid (T = true) := by rw [Hid, ← HT.out, metR, HN.out, decide_eq_true (by omega)]; rfl
      go_wp2_with fail
      go_ret
      exact ⟨by rw [HE.out]; rfl, rfl⟩
set_option maxRecDepth 20000 in
set_option maxHeartbeats 2000000 in
theorem qmethod_any (s : ByteArray) (hs : s.size ≤ 140737488355328) (w : World) : Calls Tryd.prog 32 #[.string s] w fun e w' => e = .returned (.bool (metR s)) ∧ w' = w := by
  obtain ⟨T, hT⟩ : ∃ T, metR s = T := ⟨_, rfl⟩
  have HT : Hid _ := hT
  rw [hT]
  clear hT
  go_enter Tryd.func32, Tryd.ntmps32
  go_wp2_with fail
  go_loopw [3] (fun i wr => ∃ k : Nat, k ≤ s.size ∧ i = .int .i64 k ∧ Hid (allN metB s k = true) ∧ wr = w) (fun i _ => s.size - (intOf i).toNat)
  case atStart => exact ⟨0, by omega, rfl, rfl, rfl⟩
  case round =>
    obtain ⟨k, hk, rfl, HN, rfl⟩ := hrel
    by_cases hlt : k < s.size
    · have r0 := fun W => run_byte s (i := k) (z := (k : Int)) rfl hlt W
      have hnx : allN metB s (k + 1) = metB (byteAt s k) := by rw [allN, HN.out, Bool.true_and]
      obtain ⟨x, hx⟩ : ∃ x, byteAt s k = x := ⟨_, rfl⟩
      rw [hx] at r0 hnx
      clear hx
      rcases (by omega : (x < 65) ∨ (65 ≤ x ∧ x ≤ 90) ∨ (90 < x)) with g | g | g
      · rw [show metB x = false by simp [metB]; omega] at hnx
        have HV : Hid _ := hnx
        have q0 : (x : Int) < 65 := by omega
        clear g hnx
        go_wp2_with fail
        go_ret
        exact ⟨by rw [← HT.out, metR, allN_false HV.out (by omega)]; rfl, rfl⟩
      · rw [show metB x = true by simp [metB]; omega] at hnx
        have HV : Hid _ := hnx
        have q0 : ¬ (x : Int) < 65 := by omega
        have q1 : ¬ (x : Int) > 90 := by omega
        have q2 : ¬ (90 : Int) < (x : Int) := by omega
        clear g hnx
        go_wp2_with fail
        go_roundw
        case rel => exact ⟨k + 1, by omega, by go_num, HV.out, by first | rfl | trivial⟩
        case measure => simp [intOf]; omega
      · rw [show metB x = false by simp [metB]; omega] at hnx
        have HV : Hid _ := hnx
        have q0 : ¬ (x : Int) < 65 := by omega
        have q1 : (x : Int) > 90 := by omega
        clear g hnx
        go_wp2_with fail
        go_ret
        exact ⟨by rw [← HT.out, metR, allN_false HV.out (by omega)]; rfl, rfl⟩
    · obtain rfl : k = s.size := by omega
      rcases (by omega : (s.size < 1) ∨ (1 ≤ s.size ∧ s.size ≤ 16) ∨ (16 < s.size)) with g | g | g
      · have HE : Hid (T = false) := by rw [Hid, ← HT.out, metR, HN.out, decide_eq_false (by omega)]; rfl
        have q0 : ¬ (1 : Int) ≤ (s.size : Int) := by omega
        have q1 : ¬ (s.size : Int) ≥ 1 := by omega
        clear g
        go_wp2_with fail
        go_ret
        exact ⟨by rw [HE.out]; first | rfl | trivial, rfl⟩
      · have HE : Hid (T = true) := by rw [Hid, ← HT.out, metR, HN.out, decide_eq_true (by omega)]; rfl
        have q0 : (1 : Int) ≤ (s.size : Int) := by omega
        have q1 : (s.size : Int) ≤ 16 := by omega
        clear g
        go_wp2_with fail
        go_ret
        exact ⟨by rw [HE.out]; first | rfl | trivial, rfl⟩
      · have HE : Hid (T = false) := by rw [Hid, ← HT.out, metR, HN.out, decide_eq_false (by omega)]; rfl
        have q0 : (1 : Int) ≤ (s.size : Int) := by omega
        have q1 : ¬ (s.size : Int) ≤ 16 := by omega
        clear g
        go_wp2_with fail
        go_ret
        exact ⟨by rw [HE.out]; first | rfl | trivial, rfl⟩
set_option maxRecDepth 20000 in
set_option maxHeartbeats 2000000 in
theorem qtarget_any (s : ByteArray) (hs : s.size ≤ 140737488355328) (w : World) : Calls Tryd.prog 33 #[.string s] w fun e w' => e = .returned (.bool (tarR s)) ∧ w' = w := by
  obtain ⟨T, hT⟩ : ∃ T, tarR s = T := ⟨_, rfl⟩
  have HT : Hid _ := hT
  rw [hT]
  clear hT
  go_enter Tryd.func33, Tryd.ntmps33
  go_wp2_with fail
  go_loopw [3] (fun i wr => ∃ k : Nat, k ≤ s.size ∧ i = .int .i64 k ∧ Hid (allN tarB s k = true) ∧ wr = w) (fun i _ => s.size - (intOf i).toNat)
  case atStart => exact ⟨0, by omega, rfl, rfl, rfl⟩
  case round =>
    obtain ⟨k, hk, rfl, HN, rfl⟩ := hrel
    by_cases hlt : k < s.size
    · have r0 := fun W => run_byte s (i := k) (z := (k : Int)) rfl hlt W
      have hnx : allN tarB s (k + 1) = tarB (byteAt s k) := by rw [allN, HN.out, Bool.true_and]
      obtain ⟨x, hx⟩ : ∃ x, byteAt s k = x := ⟨_, rfl⟩
      rw [hx] at r0 hnx
      clear hx
      rcases (by omega : (x < 33) ∨ (33 ≤ x ∧ x ≤ 126) ∨ (126 < x)) with g | g | g
      · rw [show tarB x = false by simp [tarB]; omega] at hnx
        have HV : Hid _ := hnx
        have q0 : (x : Int) < 33 := by omega
        clear g hnx
        go_wp2_with fail
        go_ret
        exact ⟨by rw [← HT.out, tarR, allN_false HV.out (by omega)]; rfl, rfl⟩
      · rw [show tarB x = true by simp [tarB]; omega] at hnx
        have HV : Hid _ := hnx
        have q0 : ¬ (x : Int) < 33 := by omega
        have q1 : ¬ (x : Int) > 126 := by omega
        have q2 : ¬ (126 : Int) < (x : Int) := by omega
        clear g hnx
        go_wp2_with fail
        go_roundw
        case rel => exact ⟨k + 1, by omega, by go_num, HV.out, by first | rfl | trivial⟩
        case measure => simp [intOf]; omega
      · rw [show tarB x = false by simp [tarB]; omega] at hnx
        have HV : Hid _ := hnx
        have q0 : ¬ (x : Int) < 33 := by omega
        have q1 : (x : Int) > 126 := by omega
        clear g hnx
        go_wp2_with fail
        go_ret
        exact ⟨by rw [← HT.out, tarR, allN_false HV.out (by omega)]; rfl, rfl⟩
    · obtain rfl : k = s.size := by omega
      rcases (by omega : (s.size < 1) ∨ (1024 < s.size) ∨ (1 ≤ s.size ∧ s.size ≤ 1024)) with g | g | g
      · have HE : Hid (T = false) := by rw [Hid, ← HT.out, tarR, HN.out, decide_eq_false (by omega)]; rfl
        have q0 : ¬ (1 : Int) ≤ (s.size : Int) := by omega
        have q1 : ¬ (s.size : Int) ≥ 1 := by omega
        clear g
        go_wp2_with fail
        go_ret
        exact ⟨by rw [HE.out]; first | rfl | trivial, rfl⟩
      · have HE : Hid (T = false) := by rw [Hid, ← HT.out, tarR, HN.out, decide_eq_false (by omega)]; rfl
        have q0 : (1 : Int) ≤ (s.size : Int) := by omega
        have q1 : ¬ (s.size : Int) ≤ 1024 := by omega
        clear g
        go_wp2_with fail
        go_ret
        exact ⟨by rw [HE.out]; first | rfl | trivial, rfl⟩
      · have r1 := fun W => run_byte s (i := 0) (z := 0) rfl (by omega) W
        have q0 : (1 : Int) ≤ (s.size : Int) := by omega
        have q1 : (s.size : Int) ≤ 1024 := by omega
        obtain ⟨x, hx⟩ : ∃ x, byteAt s 0 = x := ⟨_, rfl⟩
        rw [hx] at r1
        by_cases h47 : x = 47
        · have HE : Hid (T = true) := by rw [Hid, ← HT.out, tarR, HN.out, hx, decide_eq_true (by omega)]; rfl
          subst h47
          clear g hx
          go_wp2_with fail
          go_ret
          exact ⟨by rw [HE.out]; first | rfl | trivial, rfl⟩
        · have HE : Hid (T = false) := by rw [Hid, ← HT.out, tarR, HN.out, hx, decide_eq_false (by omega)]; rfl
          have q2 : ¬ (x : Int) = 47 := by omega
          clear g hx h47
          go_wp2_with fail
          go_ret
          exact ⟨by rw [HE.out]; first | rfl | (simp [q2]), rfl⟩
set_option maxRecDepth 20000 in
set_option maxHeartbeats 2000000 in
theorem qvalue_any (s : ByteArray) (hs : s.size ≤ 140737488355328) (w : World) : Calls Tryd.prog 37 #[.string s] w fun e w' => e = .returned (.bool (valA s)) ∧ w' = w := by
  obtain ⟨T, hT⟩ : ∃ T, valA s = T := ⟨_, rfl⟩
  have HT : Hid _ := hT
  rw [hT]
  clear hT
  go_enter Tryd.func37, Tryd.ntmps37
  go_wp2_with fail
  go_loopw [3] (fun i wr => ∃ k : Nat, k ≤ s.size ∧ i = .int .i64 k ∧ Hid (allN valB s k = true) ∧ wr = w) (fun i _ => s.size - (intOf i).toNat)
  case atStart => exact ⟨0, by omega, rfl, rfl, rfl⟩
  case round =>
    obtain ⟨k, hk, rfl, HN, rfl⟩ := hrel
    by_cases hlt : k < s.size
    · have r0 := fun W => run_byte s (i := k) (z := (k : Int)) rfl hlt W
      have hnx : allN valB s (k + 1) = valB (byteAt s k) := by rw [allN, HN.out, Bool.true_and]
      obtain ⟨x, hx⟩ : ∃ x, byteAt s k = x := ⟨_, rfl⟩
      rw [hx] at r0 hnx
      clear hx
      rcases (by omega : (x < 32 ∧ x ≠ 9) ∨ (x = 9) ∨ (32 ≤ x ∧ x ≠ 127) ∨ (x = 127)) with g | g | g | g
      · rw [show valB x = false by simp [valB]; omega] at hnx
        have HV : Hid _ := hnx
        have q0 : (x : Int) < 32 := by omega
        have q1 : ¬ (x : Int) = 9 := by omega
        clear g hnx
        go_wp2_with fail
        go_ret
        exact ⟨by rw [← HT.out, valA, allN_false HV.out (by omega)]; rfl, rfl⟩
      · rw [show valB x = true by simp [valB]; omega] at hnx
        have HV : Hid _ := hnx
        have q0 : (x : Int) < 32 := by omega
        have q1 : (x : Int) = 9 := by omega
        have q2 : ¬ (x : Int) = 127 := by omega
        clear g hnx
        go_wp2_with fail
        go_roundw
        case rel => exact ⟨k + 1, by omega, by go_num, HV.out, by first | rfl | trivial⟩
        case measure => simp [intOf]; omega
      · rw [show valB x = true by simp [valB]; omega] at hnx
        have HV : Hid _ := hnx
        have q0 : ¬ (x : Int) < 32 := by omega
        have q1 : ¬ (x : Int) = 127 := by omega
        clear g hnx
        go_wp2_with fail
        go_roundw
        case rel => exact ⟨k + 1, by omega, by go_num, HV.out, by first | rfl | trivial⟩
        case measure => simp [intOf]; omega
      · rw [show valB x = false by simp [valB]; omega] at hnx
        have HV : Hid _ := hnx
        have q0 : ¬ (x : Int) < 32 := by omega
        have q1 : (x : Int) = 127 := by omega
        clear g hnx
        go_wp2_with fail
        go_ret
        exact ⟨by rw [← HT.out, valA, allN_false HV.out (by omega)]; rfl, rfl⟩
    · obtain rfl : k = s.size := by omega
      have HE : Hid (T = true) := by rw [Hid, ← HT.out, valA, HN.out]
      go_wp2_with fail
      go_ret
      exact ⟨by rw [HE.out]; rfl, rfl⟩
end Go.Proofs.YthhhoppmbimeiaaDoor
