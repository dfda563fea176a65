/-
  Words of cookies: the contracts of isSeen, isBare, unmarked, readPair, printPair, isPath, and of the twin's octets, bare, pair.
-/
import Derived.Test.YtimabpfahhbadaaDoorCkq
namespace Go.Proofs.YtimabpfahhbadaaDoor
open Go.RowKit
def seenB (x : Nat) : Bool := decide (33 ≤ x ∧ x ≤ 126)
def noV : ByteArray := ⟨#[34, 44, 59, 92]⟩
theorem oct_eq {x : Nat} (hx : x < 256) : octB x = (seenB x && !mark noV x) := by
  have h : ∀ y : Fin 256, octB y.val = (seenB y.val && !mark noV y.val) := by decide +kernel
  exact h ⟨x, hx⟩
set_option maxRecDepth 20000 in
set_option maxHeartbeats 1000000 in
theorem isSeen_any (x : Nat) (w : World) : Calls Tryd.prog 45 #[.int .u8 (x : Int)] w fun e w' => e = .returned (.bool (seenB x)) ∧ w' = w := by
  rcases (by omega : (x < 33) ∨ (33 ≤ x ∧ x ≤ 126) ∨ (126 < x)) with g | g | g
  · rw [show seenB x = false by simp [seenB]; omega]
    have k0 : ¬ (33 : Int) ≤ (x : Int) := by omega
    clear g
    go_enter Tryd.func45, Tryd.ntmps45
    go_wp2
    go_ret
    exact ⟨rfl, rfl⟩
  · rw [show seenB x = true by simp [seenB]; omega]
    have k0 : (33 : Int) ≤ (x : Int) := by omega
    have k1 : (x : Int) ≤ 126 := by omega
    clear g
    go_enter Tryd.func45, Tryd.ntmps45
    go_wp2
    go_ret
    exact ⟨rfl, rfl⟩
  · rw [show seenB x = false by simp [seenB]; omega]
    have k0 : (33 : Int) ≤ (x : Int) := by omega
    have k1 : ¬ (x : Int) ≤ 126 := by omega
    clear g
    go_enter Tryd.func45, Tryd.ntmps45
    go_wp2
    go_ret
    exact ⟨rfl, rfl⟩
set_option maxRecDepth 20000 in
set_option maxHeartbeats 2000000 in
theorem isBare_any (s : ByteArray) (hs : s.size ≤ 140737488355328) (w : World) : Calls Tryd.prog 25 #[.string s] w fun e w' => e = .returned (.bool (octR s)) ∧ w' = w := by
  obtain ⟨T, hT⟩ : ∃ T, octR s = T := ⟨_, rfl⟩
  have HT : Hid _ := hT
  rw [hT]
  clear hT
  go_enter Tryd.func25, Tryd.ntmps25
  go_wp2_with fail
  go_loopw [6] (fun i wr => ∃ k : Nat, k ≤ s.size ∧ i = .int .i64 k ∧ Hid (allN octB s k = true) ∧ wr = w) (fun i _ => s.size - (intOf i).toNat)
  case atStart => exact ⟨0, by omega, rfl, rfl, rfl⟩
  case round =>
    obtain ⟨k, hk, rfl, HN, rfl⟩ := hrel
    by_cases hlt : k < s.size
    · have r0 := fun W => run_byte s (i := k) (z := (k : Int)) rfl hlt W
      have hnx : allN octB s (k + 1) = octB (byteAt s k) := by rw [allN, HN.out, Bool.true_and]
      rw [oct_eq (byteAt_lt s k)] at hnx
      obtain ⟨x, hx⟩ : ∃ x, byteAt s k = x := ⟨_, rfl⟩
      rw [hx] at r0 hnx
      have H1 : Hid (∀ W : World, _) := fun W => isSeen_any x W
      have H3 : Hid (∀ W : World, _) := fun W => index_any noV x W
      have hm : mark noV x = decide (0 ≤ Lib.indexByte noV.data.toList (UInt8.ofNat x)) := rfl
      obtain ⟨m, hmm⟩ : ∃ m, Lib.indexByte noV.data.toList (UInt8.ofNat x) = m := ⟨_, rfl⟩
      rw [hmm] at H3 hm
      rw [show noV = (⟨#[34, 44, 59, 92]⟩ : ByteArray) from rfl] at H3
      rw [hm] at hnx
      have HNX : Hid _ := hnx
      clear hm hmm hx hnx
      have hcut : decide (0 ≤ m) = true ∨ decide (0 ≤ m) = false := by cases decide (0 ≤ m) <;> simp
      cases h1 : seenB x <;> rcases hcut with h3 | h3
      all_goals
        rw [h1] at H1
        have HV := HNX.out
        rw [h1, h3] at HV
        have HVV : Hid _ := HV
        have h5 : decide (m < 0) = !decide (0 ≤ m) := by
          by_cases q : 0 ≤ m
          · rw [decide_eq_true q, decide_eq_false (by omega)]; rfl
          · rw [decide_eq_false q, decide_eq_true (by omega)]; rfl
        rw [h3] at h5
        first | (replace h5 : decide (m < 0) = true := h5) | (replace h5 : decide (m < 0) = false := h5)
        clear h1 HV HNX
        go_wp2_with (first
          | (go_at_call 45; refine (H1.out _).mono ?_; rintro e w' ⟨rfl, rfl⟩)
          | (go_at_call 44; refine (H3.out _).mono ?_; rintro e w' ⟨rfl, rfl⟩))
        first
          | (go_roundw
             case rel => exact ⟨k + 1, by omega, by go_num, HVV.out, by first | rfl | trivial⟩
             case measure => simp [intOf]; omega)
          | (go_ret
             exact ⟨by rw [← HT.out, octR, allN_false HVV.out (by omega)]; rfl, rfl⟩)
    · obtain rfl : k = s.size := by omega
      have HE : Hid (T = true) := by rw [Hid, ← HT.out, octR, HN.out]
      go_wp2_with fail
      go_ret
      exact ⟨by rw [HE.out]; rfl, rfl⟩
set_option maxRecDepth 20000 in
set_option maxHeartbeats 2000000 in
theorem octets_any (s : ByteArray) (hs : s.size ≤ 140737488355328) (w : World) : Calls Tryd.prog 30 #[.string s] w fun e w' => e = .returned (.bool (octR s)) ∧ w' = w := by
  obtain ⟨T, hT⟩ : ∃ T, octR s = T := ⟨_, rfl⟩
  have HT : Hid _ := hT
  rw [hT]
  clear hT
  go_enter Tryd.func30, Tryd.ntmps30
  go_wp2_with fail
  go_loopw [3] (fun i wr => ∃ k : Nat, k ≤ s.size ∧ i = .int .i64 k ∧ Hid (allN octB s k = true) ∧ wr = w) (fun i _ => s.size - (intOf i).toNat)
  case atStart => exact ⟨0, by omega, rfl, rfl, rfl⟩
  case round =>
    obtain ⟨k, hk, rfl, HN, rfl⟩ := hrel
    by_cases hlt : k < s.size
    · have r0 := fun W => run_byte s (i := k) (z := (k : Int)) rfl hlt W
      have hnx : allN octB s (k + 1) = octB (byteAt s k) := by rw [allN, HN.out, Bool.true_and]
      obtain ⟨x, hx⟩ : ∃ x, byteAt s k = x := ⟨_, rfl⟩
      rw [hx] at r0 hnx
      clear hx
      rcases (by omega : (x < 33) ∨ (126 < x) ∨ x = 34 ∨ x = 44 ∨ x = 59 ∨ x = 92 ∨ (33 ≤ x ∧ x ≤ 126 ∧ x ≠ 34 ∧ x ≠ 44 ∧ x ≠ 59 ∧ x ≠ 92)) with g | g | rfl | rfl | rfl | rfl | g
      · rw [show octB x = false by simp [octB]; omega] at hnx
        have HV : Hid _ := hnx
        have q0 : (x : Int) < 33 := by omega
        clear g hnx
        go_wp2_with fail
        go_ret
        exact ⟨by rw [← HT.out, octR, allN_false HV.out (by omega)]; rfl, rfl⟩
      · rw [show octB x = false by simp [octB]; omega] at hnx
        have HV : Hid _ := hnx
        have q0 : ¬ (x : Int) < 33 := by omega
        have q1 : (x : Int) > 126 := by omega
        have q2 : (126 : Int) < (x : Int) := by omega
        clear g hnx
        go_wp2_with fail
        go_ret
        exact ⟨by rw [← HT.out, octR, allN_false HV.out (by omega)]; rfl, rfl⟩
      iterate 4
        · have HV : Hid _ := hnx
          clear hnx
          go_wp2_with fail
          go_ret
          exact ⟨by rw [← HT.out, octR, allN_false (HV.out.trans (by decide)) (by omega)]; rfl, rfl⟩
      · rw [show octB x = true by simp [octB]; omega] at hnx
        have HV : Hid _ := hnx
        have q0 : ¬ (x : Int) < 33 := by omega
        have q1 : ¬ (x : Int) > 126 := by omega
        have q2 : ¬ (126 : Int) < (x : Int) := by omega
        have q3 : ((x : Int) == 34) = false := by simp; omega
        have q4 : ((x : Int) == 44) = false := by simp; omega
        have q5 : ((x : Int) == 59) = false := by simp; omega
        have q6 : ((x : Int) == 92) = false := by simp; omega
        have p3 : ¬ (x : Int) = 34 := by omega
        have p4 : ¬ (x : Int) = 44 := by omega
        have p5 : ¬ (x : Int) = 59 := by omega
        have p6 : ¬ (x : Int) = 92 := by omega
        clear g hnx
        go_wp2_with fail
        go_roundw
        case rel => exact ⟨k + 1, by omega, by go_num, HV.out, by first | rfl | trivial⟩
        case measure => simp [intOf]; omega
    · obtain rfl : k = s.size := by omega
      have HE : Hid (T = true) := by rw [Hid, ← HT.out, octR, HN.out]
      go_wp2_with fail
      go_ret
      exact ⟨by rw [HE.out]; rfl, rfl⟩
theorem pre_one (s : ByteArray) (c : UInt8) : Lib.hasPrefix s.data.toList [c] = decide (1 ≤ s.size ∧ byteAt s 0 = c.toNat) := by
  have h : Lib.hasPrefix s.data.toList [c] = Lib.occAt s.data.toList [c] 0 := by unfold Lib.hasPrefix Lib.occAt; rfl
  rw [h, occ1, decide_eq_decide]
  omega
theorem suf_one (s : ByteArray) (c : UInt8) : Lib.hasSuffix s.data.toList [c] = decide (1 ≤ s.size ∧ byteAt s (s.size - 1) = c.toNat) := by
  have hl : s.data.toList.length = s.size := by simp
  unfold Lib.hasSuffix byteAt
  rw [← hl]
  rcases List.eq_nil_or_concat s.data.toList with h | ⟨l, x, h⟩
  · rw [h]; rfl
  · rw [h, List.concat_eq_append, Bool.eq_iff_iff, List.isSuffixOf_iff_suffix, decide_eq_true_eq]
    rw [List.length_append, List.length_singleton, Nat.add_sub_cancel, List.getD_eq_getElem?_getD, List.getElem?_append_right (Nat.le_refl _), Nat.sub_self]
    simp only [List.getElem?_cons_zero, Option.getD_some]
    constructor
    · rintro ⟨t, ht⟩
      have := List.append_inj_right' ht rfl
      rw [List.cons.injEq] at this
      exact ⟨by omega, by rw [this.1]⟩
    · rintro ⟨_, e⟩
      rw [UInt8.toNat_inj.1 e]
      exact ⟨l, rfl⟩
set_option maxRecDepth 20000 in
set_option maxHeartbeats 2000000 in
theorem unmarked_any (s : ByteArray) (hs : s.size ≤ 140737488355328) (w : World) : Calls Tryd.prog 26 #[.string s] w fun e w' => e = .returned (.string (bareB s)) ∧ w' = w := by
  have H1 : Hid (∀ W : World, _) := fun W => Tryd.strings_HasPrefix s ⟨#[34]⟩ W
  have H2 : Hid (∀ W : World, _) := fun W => Tryd.strings_HasSuffix s ⟨#[34]⟩ W (by omega)
  have e1 := pre_one s 34
  have e2 := suf_one s 34
  rw [show (34 : UInt8).toNat = 34 from rfl] at e1 e2
  rw [show (⟨#[34]⟩ : ByteArray).data.toList = [34] from rfl] at H1 H2
  rw [e1] at H1
  rw [e2] at H2
  clear e1 e2
  by_cases h0 : 2 ≤ s.size
  · have q0 : (2 : Int) ≤ (s.size : Int) := by omega
    by_cases h1 : byteAt s 0 = 34
    · rw [decide_eq_true ⟨by omega, h1⟩] at H1
      by_cases h2 : byteAt s (s.size - 1) = 34
      · rw [decide_eq_true ⟨by omega, h2⟩] at H2
        have HE : Hid (bareB s = s.extract 1 (s.size - 1)) := by rw [Hid, bareB, if_pos (show markedB s = true from decide_eq_true ⟨h0, h1, h2⟩)]
        have q1 : (1 : Int) ≤ (s.size : Int) - 1 := by omega
        have q2 : (s.size : Int) - 1 ≤ (s.size : Int) := by omega
        have q3 : ((s.size : Int) - 1).toNat = s.size - 1 := by omega
        obtain ⟨T, hT⟩ : ∃ T, bareB s = T := ⟨_, rfl⟩
        rw [hT] at HE ⊢
        clear hT h1 h2
        go_enter Tryd.func26, Tryd.ntmps26
        go_wp2_with (first
          | (go_at_call 46; refine (H1.out _).mono ?_; rintro e w' ⟨rfl, rfl⟩)
          | (go_at_call 47; refine (H2.out _).mono ?_; rintro e w' ⟨rfl, rfl⟩))
        go_ret
        exact ⟨by rw [HE.out]; first | rfl | (rw [q3]; rfl) | (simp [q3]; rfl), rfl⟩
      · rw [decide_eq_false (by omega)] at H2
        have HE : Hid (bareB s = s) := by rw [Hid, bareB, if_neg (by simp [markedB]; omega)]
        obtain ⟨T, hT⟩ : ∃ T, bareB s = T := ⟨_, rfl⟩
        rw [hT] at HE ⊢
        clear hT h1 h2
        go_enter Tryd.func26, Tryd.ntmps26
        go_wp2_with (first
          | (go_at_call 46; refine (H1.out _).mono ?_; rintro e w' ⟨rfl, rfl⟩)
          | (go_at_call 47; refine (H2.out _).mono ?_; rintro e w' ⟨rfl, rfl⟩))
        go_ret
        exact ⟨by rw [HE.out]; rfl, rfl⟩
    · rw [decide_eq_false (by omega)] at H1
      have HE : Hid (bareB s = s) := by rw [Hid, bareB, if_neg (by simp [markedB]; omega)]
      obtain ⟨T, hT⟩ : ∃ T, bareB s = T := ⟨_, rfl⟩
      rw [hT] at HE ⊢
      clear hT h1
      go_enter Tryd.func26, Tryd.ntmps26
      go_wp2_with (first
          | (go_at_call 46; refine (H1.out _).mono ?_; rintro e w' ⟨rfl, rfl⟩))
      go_ret
      exact ⟨by rw [HE.out]; rfl, rfl⟩
  · have q0 : ¬ (2 : Int) ≤ (s.size : Int) := by omega
    have HE : Hid (bareB s = s) := by rw [Hid, bareB, if_neg (by simp [markedB]; omega)]
    obtain ⟨T, hT⟩ : ∃ T, bareB s = T := ⟨_, rfl⟩
    rw [hT] at HE ⊢
    clear hT
    go_enter Tryd.func26, Tryd.ntmps26
    go_wp2_with fail
    go_ret
    exact ⟨by rw [HE.out]; rfl, rfl⟩
set_option maxRecDepth 20000 in
set_option maxHeartbeats 2000000 in
theorem qbare_any (s : ByteArray) (hs : s.size ≤ 140737488355328) (w : World) : Calls Tryd.prog 31 #[.string s] w fun e w' => e = .returned (.string (bareB s)) ∧ w' = w := by
  by_cases h0 : 2 ≤ s.size
  · have q0 : (2 : Int) ≤ (s.size : Int) := by omega
    have r0 := fun W => run_byte s (i := 0) (z := 0) rfl (by omega) W
    have r1 := fun W => run_byte s (i := s.size - 1) (z := (s.size : Int) - 1) (by omega) (by omega) W
    obtain ⟨x, hx⟩ : ∃ x, byteAt s 0 = x := ⟨_, rfl⟩
    obtain ⟨y, hy⟩ : ∃ y, byteAt s (s.size - 1) = y := ⟨_, rfl⟩
    rw [hx] at r0
    rw [hy] at r1
    by_cases h1 : x = 34
    · subst h1
      by_cases h2 : y = 34
      · subst h2
        have HE : Hid (bareB s = s.extract 1 (s.size - 1)) := by rw [Hid, bareB, if_pos (show markedB s = true from decide_eq_true ⟨h0, hx, hy⟩)]
        have q1 : (1 : Int) ≤ (s.size : Int) - 1 := by omega
        have q2 : (s.size : Int) - 1 ≤ (s.size : Int) := by omega
        have q3 : ((s.size : Int) - 1).toNat = s.size - 1 := by omega
        obtain ⟨T, hT⟩ : ∃ T, bareB s = T := ⟨_, rfl⟩
        rw [hT] at HE ⊢
        clear hT hx hy
        go_enter Tryd.func31, Tryd.ntmps31
        go_wp2_with fail
        go_ret
        exact ⟨by rw [HE.out]; first | rfl | (rw [q3]; rfl) | (simp [q3]; rfl), rfl⟩
      · have HE : Hid (bareB s = s) := by rw [Hid, bareB, if_neg (by simp [markedB]; omega)]
        have q1 : ((y : Int) == 34) = false := by simp; omega
        have q2 : ¬ (y : Int) = 34 := by omega
        obtain ⟨T, hT⟩ : ∃ T, bareB s = T := ⟨_, rfl⟩
        rw [hT] at HE ⊢
        clear hT hx hy h2
        go_enter Tryd.func31, Tryd.ntmps31
        go_wp2_with fail
        go_ret
        exact ⟨by rw [HE.out]; rfl, rfl⟩
    · have HE : Hid (bareB s = s) := by rw [Hid, bareB, if_neg (by simp [markedB]; omega)]
      have q1 : ((x : Int) == 34) = false := by simp; omega
      have q2 : ¬ (x : Int) = 34 := by omega
      obtain ⟨T, hT⟩ : ∃ T, bareB s = T := ⟨_, rfl⟩
      rw [hT] at HE ⊢
      clear hT hx hy h1
      go_enter Tryd.func31, Tryd.ntmps31
      go_wp2_with fail
      go_ret
      exact ⟨by rw [HE.out]; rfl, rfl⟩
  · have q0 : ¬ (2 : Int) ≤ (s.size : Int) := by omega
    have HE : Hid (bareB s = s) := by rw [Hid, bareB, if_neg (by simp [markedB]; omega)]
    obtain ⟨T, hT⟩ : ∃ T, bareB s = T := ⟨_, rfl⟩
    rw [hT] at HE ⊢
    clear hT
    go_enter Tryd.func31, Tryd.ntmps31
    go_wp2_with fail
    go_ret
    exact ⟨by rw [HE.out]; rfl, rfl⟩
set_option maxRecDepth 20000 in
set_option maxHeartbeats 2000000 in
theorem printPair_any (n v : ByteArray) (hz : n.size + v.size ≤ 9223372036854775806) (w : World) : Calls Tryd.prog 27 #[.string n, .string v] w fun e w' => e = .returned (.string (prt ⟨n, v⟩)) ∧ w' = w := by
  go_enter Tryd.func27, Tryd.ntmps27
  have q0 : ¬ 9223372036854775807 < n.size + 1 := by omega
  have q1 : ¬ 9223372036854775807 < n.size + 1 + v.size := by omega
  go_wp2_with fail
  go_ret
  exact ⟨rfl, rfl⟩
end Go.Proofs.YtimabpfahhbadaaDoor
