/-
  Tokens: the contracts of both Tokens.
-/
import Derived.Test.YtimabpfahhbadaaDoorRCls
namespace Go.Proofs.YtimabpfahhbadaaDoor
open Go.RowKit
def tokenMarks : ByteArray := ⟨#[33, 35, 36, 37, 38, 39, 42, 43, 45, 46, 94, 95, 96, 124, 126]⟩
def tokB (x : Nat) : Bool := isLet x || isDig x || mark tokenMarks x
/-- The first k bytes are all a token's. -/
def tokN (s : ByteArray) : Nat → Bool
  | 0 => true
  | k + 1 => tokN s k && tokB (byteAt s k)
def tokR (s : ByteArray) : Bool := tokN s s.size && decide (0 < s.size)
theorem tokN_false {s : ByteArray} {k m : Nat} (h : tokN s k = false) (hm : k ≤ m) : tokN s m = false := by
  induction m with
  | zero => obtain rfl : k = 0 := by omega
            exact h
  | succ m ih =>
    rcases Nat.lt_or_eq_of_le hm with h1 | rfl
    · rw [tokN, ih (by omega), Bool.false_and]
    · exact h
theorem empty_no {t : ByteArray} (h : 0 < t.size) : t.toList.isEmpty = false := by
  rw [ByteArray.toList_eq]
  cases hq : t.data.toList with
  | nil => have : t.data.toList.length = t.size := by simp
           rw [hq] at this
           simp at this
           omega
  | cons _ _ => rfl
theorem empty_yes {t : ByteArray} (h : ¬ 0 < t.size) : t.toList.isEmpty = true := by
  rw [ByteArray.toList_eq]
  have h1 : t.data.toList.length = t.size := by simp
  have h2 : t.data.toList = [] := List.eq_nil_of_length_eq_zero (by omega)
  rw [h2]
  rfl
set_option maxRecDepth 20000 in
set_option maxHeartbeats 2000000 in
theorem token_any (s : ByteArray) (hs : s.size ≤ 140737488355328) (w : World) : Calls Tryd.prog 24 #[.string s] w fun e w' => e = .returned (.bool (tokR s)) ∧ w' = w := by
  obtain ⟨T, hT⟩ : ∃ T, tokR s = T := ⟨_, rfl⟩
  have HT : Hid _ := hT
  rw [hT]
  clear hT
  go_enter Tryd.func24, Tryd.ntmps24
  go_wp2_with fail
  go_loopw [6] (fun i wr => ∃ k : Nat, k ≤ s.size ∧ i = .int .i64 k ∧ Hid (tokN s k = true) ∧ wr = w) (fun i _ => s.size - (intOf i).toNat)
  case atStart => exact ⟨0, by omega, rfl, rfl, rfl⟩
  case round =>
    obtain ⟨k, hk, rfl, HN, rfl⟩ := hrel
    by_cases hlt : k < s.size
    · have r0 := fun W => run_byte s (i := k) (z := (k : Int)) rfl hlt W
      have hnx : tokN s (k + 1) = tokB (byteAt s k) := by rw [tokN, HN.out, Bool.true_and]
      obtain ⟨x, hx⟩ : ∃ x, byteAt s k = x := ⟨_, rfl⟩
      rw [hx] at r0 hnx
      have H1 : Hid (∀ W : World, _) := fun W => isLetter_any x W
      have H2 : Hid (∀ W : World, _) := fun W => isDigit_any x W
      have H3 : Hid (∀ W : World, _) := fun W => index_any tokenMarks x W
      have hm : mark tokenMarks x = decide (0 ≤ Lib.indexByte tokenMarks.data.toList (UInt8.ofNat x)) := rfl
      obtain ⟨m, hmm⟩ : ∃ m, Lib.indexByte tokenMarks.data.toList (UInt8.ofNat x) = m := ⟨_, rfl⟩
      rw [hmm] at H3 hm
      rw [show tokenMarks = (⟨#[33, 35, 36, 37, 38, 39, 42, 43, 45, 46, 94, 95, 96, 124, 126]⟩ : ByteArray) from rfl] at H3
      rw [tokB, hm] at hnx
      have HNX : Hid _ := hnx
      clear hm hmm hx hnx
      have hcut : decide (0 ≤ m) = true ∨ decide (0 ≤ m) = false := by cases decide (0 ≤ m) <;> simp
      cases h1 : isLet x <;> cases h2 : isDig x <;> rcases hcut with h3 | h3
      all_goals
        rw [h1] at H1
        rw [h2] at H2
        have HV := HNX.out
        rw [h1, h2, h3] at HV
        have HVV : Hid _ := HV
        have h4 : (m < 0) ∨ ¬ (m < 0) := by omega
        have h5 : decide (m < 0) = !decide (0 ≤ m) := by
          by_cases q : 0 ≤ m
          · rw [decide_eq_true q, decide_eq_false (by omega)]; rfl
          · rw [decide_eq_false q, decide_eq_true (by omega)]; rfl
        rw [h3] at h5
        first | (replace h5 : decide (m < 0) = true := h5) | (replace h5 : decide (m < 0) = false := h5)
        clear h1 h2 HV h4 HNX h3
        go_wp2_with (first
          | (go_at_call 42; refine (H1.out _).mono ?_; rintro e w' ⟨rfl, rfl⟩)
          | (go_at_call 43; refine (H2.out _).mono ?_; rintro e w' ⟨rfl, rfl⟩)
          | (go_at_call 44; refine (H3.out _).mono ?_; rintro e w' ⟨rfl, rfl⟩))
        first
          | (go_roundw
             case rel => exact ⟨k + 1, by omega, by go_num, HVV.out, by first | rfl | trivial⟩
             case measure => simp [intOf]; omega)
          | (go_ret
             exact ⟨by rw [← HT.out, tokR, tokN_false HVV.out (by omega)]; rfl, rfl⟩)
    · obtain rfl : k = s.size := by omega
      by_cases h0 : 0 < s.size
      · have he := empty_no h0
        have HE : Hid (T = true) := by rw [Hid, ← HT.out, tokR, HN.out]; simp [h0]
        go_wp2_with fail
        go_ret
        exact ⟨by rw [HE.out]; rfl, rfl⟩
      · have he := empty_yes h0
        have HE : Hid (T = false) := by rw [Hid, ← HT.out, tokR, HN.out]; simp [h0]
        go_wp2_with fail
        go_ret
        exact ⟨by rw [HE.out]; rfl, rfl⟩
set_option maxRecDepth 20000 in
set_option maxHeartbeats 2000000 in
theorem rtoken_any (s : ByteArray) (hs : s.size ≤ 140737488355328) (w : World) : Calls Tryd.prog 29 #[.string s] w fun e w' => e = .returned (.bool (tokR s)) ∧ w' = w := by
  obtain ⟨T, hT⟩ : ∃ T, tokR s = T := ⟨_, rfl⟩
  have HT : Hid _ := hT
  rw [hT]
  clear hT
  go_enter Tryd.func29, Tryd.ntmps29
  go_wp2_with fail
  go_loopw [3] (fun i wr => ∃ k : Nat, k ≤ s.size ∧ i = .int .i64 k ∧ Hid (tokN s k = true) ∧ wr = w) (fun i _ => s.size - (intOf i).toNat)
  case atStart => exact ⟨0, by omega, rfl, rfl, rfl⟩
  case round =>
    obtain ⟨k, hk, rfl, HN, rfl⟩ := hrel
    by_cases hlt : k < s.size
    · have r0 := fun W => run_byte s (i := k) (z := (k : Int)) rfl hlt W
      have hnx : tokN s (k + 1) = tokB (byteAt s k) := by rw [tokN, HN.out, Bool.true_and]
      have hxl := byteAt_lt s k
      obtain ⟨x, hx⟩ : ∃ x, byteAt s k = x := ⟨_, rfl⟩
      rw [hx] at r0 hnx hxl
      have H1 : Hid (∀ W : World, _) := fun W => rletter_any x W
      have H2 : Hid (∀ W : World, _) := fun W => rdigit_any x W
      have H3 : Hid (∀ W : World, _) := fun W => among_any tokenMarks x hxl (by decide) W
      rw [show tokenMarks = (⟨#[33, 35, 36, 37, 38, 39, 42, 43, 45, 46, 94, 95, 96, 124, 126]⟩ : ByteArray) from rfl] at H3
      rw [tokB, show tokenMarks = (⟨#[33, 35, 36, 37, 38, 39, 42, 43, 45, 46, 94, 95, 96, 124, 126]⟩ : ByteArray) from rfl] at hnx
      have HNX : Hid _ := hnx
      clear hx hnx
      cases h1 : isLet x <;> cases h2 : isDig x <;> cases h3 : mark ⟨#[33, 35, 36, 37, 38, 39, 42, 43, 45, 46, 94, 95, 96, 124, 126]⟩ x
      all_goals
        rw [h1] at H1
        rw [h2] at H2
        rw [h3] at H3
        have HV := HNX.out
        rw [h1, h2, h3] at HV
        have HVV : Hid _ := HV
        clear h1 h2 h3 HV HNX
        go_wp2_with (first
          | (go_at_call 51; refine (H1.out _).mono ?_; rintro e w' ⟨rfl, rfl⟩)
          | (go_at_call 52; refine (H2.out _).mono ?_; rintro e w' ⟨rfl, rfl⟩)
          | (go_at_call 53; refine (H3.out _).mono ?_; rintro e w' ⟨rfl, rfl⟩))
        first
          | (go_roundw
             case rel => exact ⟨k + 1, by omega, by go_num, HVV.out, by first | rfl | trivial⟩
             case measure => simp [intOf]; omega)
          | (go_ret
             exact ⟨by rw [← HT.out, tokR, tokN_false HVV.out (by omega)]; rfl, rfl⟩)
    · obtain rfl : k = s.size := by omega
      by_cases h0 : 0 < s.size
      · have he : (0 : Int) < (s.size : Int) := by omega
        have HE : Hid (T = true) := by rw [Hid, ← HT.out, tokR, HN.out]; simp [h0]
        go_wp2_with fail
        go_ret
        exact ⟨by rw [HE.out]; rfl, rfl⟩
      · have he : decide ((0 : Int) < (s.size : Int)) = false := decide_eq_false (by omega)
        have HE : Hid (T = false) := by rw [Hid, ← HT.out, tokR, HN.out]; simp [h0]
        go_wp2_with fail
        go_ret
        exact ⟨by rw [HE.out]; first | rfl | simp [he], rfl⟩
end Go.Proofs.YtimabpfahhbadaaDoor
