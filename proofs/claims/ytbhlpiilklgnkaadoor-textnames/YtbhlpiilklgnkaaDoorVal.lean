/-
  Right texts: the contracts of HasPrefix, isWrong and Valid.
-/
import Derived.Test.YtbhlpiilklgnkaaDoorDecMath
namespace Go.Proofs.YtbhlpiilklgnkaaDoor
open Go.RowKit
theorem sbeq_eq {a b : ByteArray} (h : a = b) : (a.toList == b.toList) = true := by rw [h]; simp
theorem sbeq_ne {a b : ByteArray} (h : ¬ a = b) : (a.toList == b.toList) = false := by
  rw [ByteArray.toList_eq, ByteArray.toList_eq]
  cases hq : (a.data.toList == b.data.toList) with
  | false => rfl
  | true => exact absurd (ByteArray.ext (Array.toList_inj.1 (by simpa using hq))) h
/-- A text's bytes from a place on begin with the UTF-8 of FFFD. -/
def fffd (s : ByteArray) : Bool := decide (3 ≤ s.size ∧ s.extract 0 3 = ⟨#[239, 191, 189]⟩)
theorem fffd_iff (s : ByteArray) : fffd s = true ↔ 3 ≤ s.size ∧ byteAt s 0 = 239 ∧ byteAt s 1 = 191 ∧ byteAt s 2 = 189 := by
  simp only [fffd, decide_eq_true_eq]
  constructor
  · rintro ⟨h, e⟩
    rw [ext3 h] at e
    simp only [ByteArray.mk.injEq, Array.mk.injEq, List.cons.injEq, and_true] at e
    exact ⟨h, ofNat_inj8' (byteAt_lt s 0) (by decide) e.1, ofNat_inj8' (byteAt_lt s 1) (by decide) e.2.1, ofNat_inj8' (byteAt_lt s 2) (by decide) e.2.2⟩
  · rintro ⟨h, h0, h1, h2⟩
    exact ⟨h, by rw [ext3 h, h0, h1, h2]; rfl⟩
theorem wrong_iff (s : ByteArray) : ((Utf8.decode s 0).1 = 65533 ∧ fffd s = false) ↔ Utf8.decode s 0 = (65533, 1) := by
  have e := dec_eq s
  have l0 := byteAt_lt s 0
  have hf := fffd_iff s
  have h2 : fffd s = false ↔ ¬ (3 ≤ s.size ∧ byteAt s 0 = 239 ∧ byteAt s 1 = 191 ∧ byteAt s 2 = 189) := by rw [← hf]; simp
  rw [h2]
  generalize Utf8.decode s 0 = d at e ⊢
  obtain ⟨d1, d2⟩ := d
  unfold ok2 ok3 ok4 num2 num3 num4 at e
  simp only [Prod.mk.injEq]
  simp only at e
  repeat' split at e
  all_goals simp only [Prod.mk.injEq] at e
  all_goals omega
set_option maxRecDepth 20000 in
set_option maxHeartbeats 1000000 in
theorem lite_any (s : ByteArray) (hs : s.size ≤ 140737488355328) (w : World) : Calls Tryd.prog 41 #[.string s, .string ⟨#[239, 191, 189]⟩] w fun e w' => e = .returned (.bool (fffd s)) ∧ w' = w := by
  by_cases h3 : 3 ≤ s.size
  · have h3' : (3 : Int) ≤ (s.size : Int) := by omega
    by_cases he : s.extract 0 3 = ⟨#[239, 191, 189]⟩
    · rw [show fffd s = true by simp [fffd, h3, he]]
      have hq := sbeq_eq he
      obtain ⟨X, hX⟩ : ∃ X, s.extract 0 3 = X := ⟨_, rfl⟩
      rw [hX, show (⟨#[239, 191, 189]⟩ : ByteArray).toList = [239, 191, 189] by rw [ByteArray.toList_eq]] at hq
      clear he
      go_enter Tryd.func41, Tryd.ntmps41
      go_wp2_with fail
      go_ret
      exact ⟨rfl, rfl⟩
    · rw [show fffd s = false by simp [fffd, he]]
      have hq := sbeq_ne he
      obtain ⟨X, hX⟩ : ∃ X, s.extract 0 3 = X := ⟨_, rfl⟩
      rw [hX, show (⟨#[239, 191, 189]⟩ : ByteArray).toList = [239, 191, 189] by rw [ByteArray.toList_eq]] at hq
      clear he
      go_enter Tryd.func41, Tryd.ntmps41
      go_wp2_with fail
      go_ret
      exact ⟨rfl, rfl⟩
  · have h3' : ¬ (3 : Int) ≤ (s.size : Int) := by omega
    rw [show fffd s = false by simp [fffd, h3]]
    clear h3
    go_enter Tryd.func41, Tryd.ntmps41
    go_wp2_with fail
    go_ret
    exact ⟨rfl, rfl⟩
set_option maxRecDepth 20000 in
theorem hasPrefix_any (s : ByteArray) (hs : s.size ≤ 140737488355328) (w : World) : Calls Tryd.prog 31 #[.string s, .string ⟨#[239, 191, 189]⟩] w fun e w' => e = .returned (.bool (fffd s)) ∧ w' = w := by
  have H : Hid (∀ W : World, _) := fun W => lite_any s hs W
  go_enter Tryd.func31, Tryd.ntmps31
  go_wp2_with (go_at_call 41; refine (H.out _).mono ?_; rintro e w' ⟨rfl, rfl⟩)
  go_ret
  exact ⟨rfl, rfl⟩
set_option maxRecDepth 20000 in
theorem isWrong_any (r : Nat) (s : ByteArray) (hs : s.size ≤ 140737488355328) (w : World) : Calls Tryd.prog 17 #[.int .i32 (r : Int), .string s] w fun e w' => e = .returned (.bool (decide (r = 65533 ∧ fffd s = false))) ∧ w' = w := by
  have H : Hid (∀ W : World, _) := fun W => hasPrefix_any s hs W
  by_cases hr : r = 65533
  · subst hr
    cases hf : fffd s with
    | true =>
      rw [hf] at H
      rw [show decide ((65533 : Nat) = 65533 ∧ true = false) = false by decide]
      go_enter Tryd.func17, Tryd.ntmps17
      go_wp2_with (go_at_call 31; refine (H.out _).mono ?_; rintro e w' ⟨rfl, rfl⟩)
      go_ret
      exact ⟨rfl, rfl⟩
    | false =>
      rw [hf] at H
      rw [show decide ((65533 : Nat) = 65533 ∧ false = false) = true by decide]
      go_enter Tryd.func17, Tryd.ntmps17
      go_wp2_with (go_at_call 31; refine (H.out _).mono ?_; rintro e w' ⟨rfl, rfl⟩)
      go_ret
      exact ⟨rfl, rfl⟩
  · rw [show decide (r = 65533 ∧ fffd s = false) = false by simp [hr]]
    have hq : ((r : Int) == 65533) = false := by simp; omega
    clear hr
    go_enter Tryd.func17, Tryd.ntmps17
    go_wp2_with fail
    go_ret
    exact ⟨rfl, rfl⟩
/-- From a place on no byte is wrong. -/
def validF (s : ByteArray) : Nat → Nat → Bool
  | 0, _ => true
  | fuel + 1, pos => if pos < s.size then (if Utf8.decode s pos = (65533, 1) then false else validF s fuel (pos + (Utf8.decode s pos).2)) else true
def validB (s : ByteArray) : Bool := validF s s.size 0
theorem validF_end {s : ByteArray} {pos : Nat} (fuel : Nat) (h : ¬ pos < s.size) : validF s fuel pos = true := by
  cases fuel with
  | zero => rfl
  | succ f => rw [validF, if_neg h]
theorem validF_bad {s : ByteArray} {pos : Nat} (fuel : Nat) (h : pos < s.size) (hd : Utf8.decode s pos = (65533, 1)) : validF s (fuel + 1) pos = false := by rw [validF, if_pos h, if_pos hd]
theorem validF_next {s : ByteArray} {pos : Nat} (fuel : Nat) (h : pos < s.size) (hd : ¬ Utf8.decode s pos = (65533, 1)) : validF s (fuel + 1) pos = validF s fuel (pos + (Utf8.decode s pos).2) := by rw [validF, if_pos h, if_neg hd]
theorem wrong_at (s : ByteArray) (pos : Nat) : decide ((Utf8.decode s pos).1 = 65533 ∧ fffd (s.extract pos s.size) = false) = decide (Utf8.decode s pos = (65533, 1)) := by
  have := wrong_iff (s.extract pos s.size)
  rw [decode_tail] at this
  exact decide_eq_decide.2 this
end Go.Proofs.YtbhlpiilklgnkaaDoor
