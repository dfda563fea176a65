/-
  The contracts of isTarget, isValue, isNumber.
-/
import Derived.Test.YthhhoppmbimeiaaDoorWords
import Derived.Test.YthhhoppmbimeiaaDoorTrimC
namespace Go.Proofs.YthhhoppmbimeiaaDoor
open Go.RowKit
theorem slash_eq (s : ByteArray) : Lib.hasPrefix s.data.toList [47] = decide (1 ≤ s.size ∧ byteAt s 0 = 47) := by
  have hl : s.data.toList.length = s.size := by simp
  unfold Lib.hasPrefix byteAt
  cases hq : s.data.toList with
  | nil => rw [hq] at hl; simp at hl ⊢
  | cons c r =>
    rw [hq] at hl
    simp only [List.length_cons] at hl
    have h1 : 1 ≤ s.size := by omega
    have hc : ∀ c : UInt8, (47 == c) = decide (c.toNat = 47) := by
      intro c
      have : ∀ c : Fin 256, ((47 : UInt8) == UInt8.ofNat c.val) = decide ((UInt8.ofNat c.val).toNat = 47) := by decide +kernel
      have h := this ⟨c.toNat, c.toNat_lt⟩
      simpa using h
    simp only [List.isPrefixOf, Bool.and_true, List.getD_cons_zero, hc]
    by_cases h : c.toNat = 47
    · rw [decide_eq_true h, decide_eq_true ⟨h1, h⟩]
    · rw [decide_eq_false h, decide_eq_false (fun e => h e.2)]
set_option maxRecDepth 20000 in
set_option maxHeartbeats 2000000 in
theorem isTarget_any (s : ByteArray) (hs : s.size ≤ 140737488355328) (w : World) : Calls Tryd.prog 43 #[.string s] w fun e w' => e = .returned (.bool (tarR s)) ∧ w' = w := by
  have H1 : Hid (∀ W : World, _) := fun W => Tryd.strings_HasPrefix s ⟨#[47]⟩ W
  rw [show (⟨#[47]⟩ : ByteArray).data.toList = [47] from rfl, slash_eq] at H1
  by_cases h_no : ¬ (1 ≤ s.size ∧ byteAt s 0 = 47)
  · rw [show tarR s = false by unfold tarR; rw [decide_eq_false (fun e => h_no ⟨e.1, e.2.2⟩), Bool.and_false]]
    rw [decide_eq_false h_no] at H1
    clear h_no
    go_enter Tryd.func43, Tryd.ntmps43
    go_wp2_with (go_at_call 62; refine (H1.out _).mono ?_; rintro e w' ⟨rfl, rfl⟩)
    go_ret
    exact ⟨rfl, rfl⟩
  replace h_no : 1 ≤ s.size ∧ byteAt s 0 = 47 := Decidable.not_not.1 h_no
  rw [decide_eq_true h_no] at H1
  by_cases h_long : 1024 < s.size
  · rw [show tarR s = false by unfold tarR; rw [decide_eq_false (by omega), Bool.and_false]]
    have q0 : (s.size : Int) > 1024 := by omega
    clear h_no
    go_enter Tryd.func43, Tryd.ntmps43
    go_wp2_with (go_at_call 62; refine (H1.out _).mono ?_; rintro e w' ⟨rfl, rfl⟩)
    go_ret
    exact ⟨rfl, rfl⟩
  obtain ⟨T, hT⟩ : ∃ T, tarR s = T := ⟨_, rfl⟩
  have HT : Hid _ := hT
  rw [hT]
  clear hT
  have z1 : ¬ (s.size : Int) > 1024 := by omega
  have z2 : ¬ (1024 : Int) < (s.size : Int) := by omega
  have HO : Hid (1 ≤ s.size ∧ s.size ≤ 1024 ∧ byteAt s 0 = 47) := ⟨h_no.1, by omega, h_no.2⟩
  clear h_no
  go_enter Tryd.func43, Tryd.ntmps43
  go_wp2_with (go_at_call 62; refine (H1.out _).mono ?_; rintro e w' ⟨rfl, hw⟩; obtain rfl := hw.symm)
  clear H1
  go_loopw [14] (fun i wr => ∃ k : Nat, k ≤ s.size ∧ i = .int .i64 k ∧ Hid (allN tarB s k = true) ∧ wr = w) (fun i _ => s.size - (intOf i).toNat)
  case atStart => exact ⟨0, by omega, rfl, rfl, rfl⟩
  case round =>
    obtain ⟨k, hk, rfl, HN, rfl⟩ := hrel
    by_cases hlt : k < s.size
    · have r0 := fun W => run_byte s (i := k) (z := (k : Int)) rfl hlt W
      have hnx : allN tarB s (k + 1) = tarB (byteAt s k) := by rw [allN, HN.out, Bool.true_and]
      obtain ⟨x, hx⟩ : ∃ x, byteAt s k = x := ⟨_, rfl⟩
      rw [hx] at r0 hnx
      clear hx
      rcases (by omega : (x < 33) ∨ (33 ≤ x ∧ x ≤ 126) ∨ (126 < x)) with g | g | g
      · rw [show tarB x = false by simp [tarB]; omega] at hnx
        have HV : Hid _ := hnx
        have q0 : (x : Int) < 33 := by omega
        clear g hnx
        go_wp2_with fail
        go_ret
        exact ⟨by rw [← HT.out, tarR, allN_false HV.out (by omega)]; rfl, rfl⟩
      · rw [show tarB x = true by simp [tarB]; omega] at hnx
        have HV : Hid _ := hnx
        have q0 : ¬ (x : Int) < 33 := by omega
        have q1 : ¬ (x : Int) > 126 := by omega
        have q2 : ¬ (126 : Int) < (x : Int) := by omega
        clear g hnx
        go_wp2_with fail
        go_roundw
        case rel => exact ⟨k + 1, by omega, by go_num, HV.out, by first | rfl | trivial⟩
        case measure => simp [intOf]; omega
      · rw [show tarB x = false by simp [tarB]; omega] at hnx
        have HV : Hid _ := hnx
        have q0 : ¬ (x : Int) < 33 := by omega
        have q1 : (x : Int) > 126 := by omega
        clear g hnx
        go_wp2_with fail
        go_ret
        exact ⟨by rw [← HT.out, tarR, allN_false HV.out (by omega)]; rfl, rfl⟩
    · obtain rfl : k = s.size := by omega
      have HE : Hid (T = true) := by rw [Hid, ← HT.out, tarR, HN.out, decide_eq_true HO.out]; rfl
      go_wp2_with fail
      go_ret
      exact ⟨by rw [HE.out]; rfl, rfl⟩
/-- A text may be a field's value. -/
def valR (s : ByteArray) : Bool := valA s && ((trimT s).toList == s.toList)
set_option maxRecDepth 20000 in
set_option maxHeartbeats 2000000 in
theorem isValue_any (s : ByteArray) (hs : s.size ≤ 140737488355328) (w : World) : Calls Tryd.prog 67 #[.string s] w fun e w' => e = .returned (.bool (valR s)) ∧ Below w.heap.size w w' := by
  obtain ⟨T, hT⟩ : ∃ T, valR s = T := ⟨_, rfl⟩
  have HT : Hid _ := hT
  rw [hT]
  clear hT
  go_enter Tryd.func67, Tryd.ntmps67
  go_wp2_with fail
  go_loopw [6] (fun i wr => ∃ k : Nat, k ≤ s.size ∧ i = .int .i64 k ∧ Hid (allN valB s k = true) ∧ wr = w) (fun i _ => s.size - (intOf i).toNat)
  case atStart => exact ⟨0, by omega, rfl, rfl, rfl⟩
  case round =>
    obtain ⟨k, hk, rfl, HN, rfl⟩ := hrel
    by_cases hlt : k < s.size
    · have r0 := fun W => run_byte s (i := k) (z := (k : Int)) rfl hlt W
      have hnx : allN valB s (k + 1) = valB (byteAt s k) := by rw [allN, HN.out, Bool.true_and]
      obtain ⟨x, hx⟩ : ∃ x, byteAt s k = x := ⟨_, rfl⟩
      rw [hx] at r0 hnx
      clear hx
      rcases (by omega : (x < 32 ∧ x ≠ 9) ∨ (x = 9) ∨ (32 ≤ x ∧ x ≠ 127) ∨ (x = 127)) with g | g | g | g
      · rw [show valB x = false by simp [valB]; omega] at hnx
        have HV : Hid _ := hnx
        have q0 : (x : Int) < 32 := by omega
        have q1 : ((x : Int) != 9) = true := by simp; omega
        clear g hnx
        go_wp2_with fail
        go_ret
        exact ⟨by rw [← HT.out, valR, valA, allN_false HV.out (by omega)]; rfl, Below.refl _ _⟩
      · rw [show valB x = true by simp [valB]; omega] at hnx
        have HV : Hid _ := hnx
        have q0 : (x : Int) < 32 := by omega
        have q1 : ((x : Int) != 9) = false := by simp; omega
        have q2 : ((x : Int) == 127) = false := by simp; omega
        clear g hnx
        go_wp2_with fail
        go_roundw
        case rel => exact ⟨k + 1, by omega, by go_num, HV.out, by first | rfl | trivial⟩
        case measure => simp [intOf]; omega
      · rw [show valB x = true by simp [valB]; omega] at hnx
        have HV : Hid _ := hnx
        have q0 : ¬ (x : Int) < 32 := by omega
        have q1 : ((x : Int) == 127) = false := by simp; omega
        clear g hnx
        go_wp2_with fail
        go_roundw
        case rel => exact ⟨k + 1, by omega, by go_num, HV.out, by first | rfl | trivial⟩
        case measure => simp [intOf]; omega
      · rw [show valB x = false by simp [valB]; omega] at hnx
        have HV : Hid _ := hnx
        have q0 : ¬ (x : Int) < 32 := by omega
        have q1 : ((x : Int) == 127) = true := by simp; omega
        clear g hnx
        go_wp2_with fail
        go_ret
        exact ⟨by rw [← HT.out, valR, valA, allN_false HV.out (by omega)]; rfl, Below.refl _ _⟩
    · obtain rfl : k = s.size := by omega
      have H : Hid (∀ W : World, _) := fun W => trim_any s hs W
      obtain ⟨t, ht⟩ : ∃ t, trimT s = t := ⟨_, rfl⟩
      rw [ht] at H
      have HE : Hid (T = (t.toList == s.toList)) := by rw [Hid, ← HT.out, valR, valA, HN.out, ht, Bool.true_and]
      clear ht
      go_wp2_with fail
      refine (H.out _).mono ?_
      rintro e w1 ⟨rfl, b1⟩
      go_wp2_with fail
      go_ret
      exact ⟨by rw [HE.out]; first | rfl | trivial, b1⟩
end Go.Proofs.YthhhoppmbimeiaaDoor
