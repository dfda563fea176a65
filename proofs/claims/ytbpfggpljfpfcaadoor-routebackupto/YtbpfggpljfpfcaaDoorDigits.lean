/-
  The contract of Digits.
-/
import Derived.Test.YtbpfggpljfpfcaaDoorSmall
namespace Go.Proofs.YtbpfggpljfpfcaaDoor
open Go.RowKit
/-- The number of a text's first k bytes, if they are digits. -/
def digN (s : ByteArray) : Nat → Option Nat
  | 0 => some 0
  | k + 1 => match digN s k with
    | some n => if isDig (byteAt s k) = true then some (10 * n + (byteAt s k - 48)) else none
    | none => none
def digBad (s : ByteArray) : Bool := decide (s.size < 1 ∨ 18 < s.size ∨ (1 < s.size ∧ byteAt s 0 = 48))
/-- The number and the error. -/
def digR (s : ByteArray) (most : Int) : Int × Int := if digBad s = true then (0, 150) else match digN s s.size with
  | none => (0, 150)
  | some n => if most < (n : Int) then (0, 3) else ((n : Int), 0)
theorem digR_bad {s : ByteArray} {most : Int} (h : digBad s = true) : digR s most = (0, 150) := by rw [digR, if_pos h]
theorem digR_good {s : ByteArray} {most : Int} (h : digBad s = false) : digR s most = match digN s s.size with
  | none => (0, 150)
  | some n => if most < (n : Int) then (0, 3) else ((n : Int), 0) := by rw [digR, if_neg (by simp [h])]
theorem digN_step {s : ByteArray} {k n : Nat} (h : digN s k = some n) : digN s (k + 1) = if isDig (byteAt s k) = true then some (10 * n + (byteAt s k - 48)) else none := by rw [digN, h]
theorem digN_lt {s : ByteArray} : ∀ k n, digN s k = some n → n < 10 ^ k
  | 0, n, h => by simp only [digN, Option.some.injEq] at h; subst h; decide
  | k + 1, n, h => by
    cases e : digN s k with
    | none => rw [digN, e] at h; cases h
    | some m =>
      have ih := digN_lt k m e
      rw [digN_step e] at h
      split at h
      · rename_i hd
        simp only [isDig, decide_eq_true_eq] at hd
        simp only [Option.some.injEq] at h
        subst h
        rw [Nat.pow_succ]
        omega
      · cases h
theorem digN_none {s : ByteArray} {k m : Nat} (h : digN s k = none) (hm : k ≤ m) : digN s m = none := by
  induction m with
  | zero => obtain rfl : k = 0 := by omega
            exact h
  | succ m ih =>
    rcases Nat.lt_or_eq_of_le hm with h1 | rfl
    · rw [digN, ih (by omega)]
    · exact h
set_option maxRecDepth 20000 in
set_option maxHeartbeats 2000000 in
theorem digits_any (s : ByteArray) (most : Int) (hs : s.size ≤ 140737488355328) (w : World) : Calls Tryd.prog 77 #[.string s, .int .i64 most] w fun e w' => e = .returned (.tuple #[.int .i64 (digR s most).1, .int .i64 (digR s most).2]) ∧ w' = w := by
  by_cases hb : digBad s = true
  · rw [digR_bad hb]
    simp only [digBad, decide_eq_true_eq] at hb
    rcases hb with h | h | ⟨h, h2⟩
    · have h' : (s.size : Int) < 1 := by omega
      clear h
      go_enter Tryd.func77, Tryd.ntmps77
      go_wp2
      go_ret2
      exact ⟨rfl, rfl⟩
    · have h0 : ¬ (s.size : Int) < 1 := by omega
      have h' : (18 : Int) < (s.size : Int) := by omega
      clear h
      go_enter Tryd.func77, Tryd.ntmps77
      go_wp2
      go_ret2
      exact ⟨rfl, rfl⟩
    · by_cases h8 : 18 < s.size
      · have h0 : ¬ (s.size : Int) < 1 := by omega
        have h' : (18 : Int) < (s.size : Int) := by omega
        clear h h2 h8
        go_enter Tryd.func77, Tryd.ntmps77
        go_wp2
        go_ret2
        exact ⟨rfl, rfl⟩
      · have h0 : ¬ (s.size : Int) < 1 := by omega
        have h' : ¬ (18 : Int) < (s.size : Int) := by omega
        have h1 : (1 : Int) < (s.size : Int) := by omega
        have r0 := fun W => run_byte s (i := 0) (z := 0) rfl (by omega) W
        rw [h2] at r0
        clear h h2 h8
        go_enter Tryd.func77, Tryd.ntmps77
        go_wp2
        go_ret2
        exact ⟨rfl, rfl⟩
  · have hb2 : digBad s = false := by simpa using hb
    have HG := digR_good (most := most) hb2
    simp only [digBad, decide_eq_true_eq] at hb
    have h18 : s.size ≤ 18 := by omega
    have h0 : ¬ (s.size : Int) < 1 := by omega
    have h' : ¬ (18 : Int) < (s.size : Int) := by omega
    have r0 := fun W => run_byte s (i := 0) (z := 0) rfl (by omega) W
    obtain ⟨y0, hy0⟩ : ∃ y0, byteAt s 0 = y0 := ⟨_, rfl⟩
    have h48 : ((1 : Int) < (s.size : Int)) → ((y0 : Int) == 48) = false := fun q => by
      have : y0 ≠ 48 := fun e => hb (Or.inr (Or.inr ⟨by omega, by omega⟩))
      simp; omega
    rw [hy0] at r0
    have HD : Hid (∀ (x : Nat) (W : World), _) := fun x W => isDigit_any x W
    obtain ⟨D, hD⟩ : ∃ D, digR s most = D := ⟨_, rfl⟩
    rw [hD] at HG ⊢
    have HGG : Hid _ := HG
    clear hb hb2 hy0 hD HG
    by_cases h1 : (1 : Int) < (s.size : Int)
    case' pos => have h48' := h48 h1
    all_goals
      clear h48
      go_enter Tryd.func77, Tryd.ntmps77
      go_wp2
      go_loopw [6, 28] (fun v i wr => ∃ k n : Nat, k ≤ s.size ∧ i = .int .i64 k ∧ v = .int .i64 n ∧ Hid (digN s k = some n) ∧ wr = w) (fun v i _ => s.size - (intOf i).toNat)
      case atStart => exact ⟨0, 0, by omega, rfl, rfl, rfl, rfl⟩
      case round =>
        obtain ⟨k, n, hk, rfl, rfl, HN, rfl⟩ := hrel
        by_cases hlt : k < s.size
        · have rk := fun W => run_byte s (i := k) (z := (k : Int)) rfl hlt W
          have hstep := digN_step (s := s) (k := k) HN.out
          have hn17 : n < 100000000000000000 := Nat.lt_of_lt_of_le (digN_lt k n HN.out) (Nat.pow_le_pow_right (n := 10) (by decide) (by omega : k ≤ 17))
          have hyl := byteAt_lt s k
          obtain ⟨y, hy⟩ : ∃ y, byteAt s k = y := ⟨_, rfl⟩
          rw [hy] at rk hstep hyl
          have HC := HD.out y
          by_cases hyd : isDig y = true
          · rw [hyd] at HC hstep
            have HCC : Hid _ := HC
            have HS : Hid _ := hstep
            have y1 : (48 : Int) ≤ (y : Int) := by simp [isDig] at hyd; omega
            have y2 : (y : Int) ≤ 57 := by simp [isDig] at hyd; omega
            have n0 : (0 : Int) ≤ (n : Int) := by omega
            have n1 : (n : Int) < 100000000000000000 := by omega
            clear hyd hy HC hstep hn17 hyl
            go_wp2_with (go_at_call 73; refine (HCC.out _).mono ?_; rintro e w' ⟨rfl, rfl⟩)
            go_roundw
            case rel => exact ⟨k + 1, 10 * n + (y - 48), by omega, by go_num, val_int (by omega), HS.out, by first | rfl | trivial⟩
            case measure => simp [intOf]; omega
          · have hyd' : isDig y = false := by simpa using hyd
            rw [hyd'] at HC hstep
            have HCC : Hid _ := HC
            have HB : Hid (D = (0, 150)) := by rw [Hid, HGG.out, digN_none hstep (by omega : k + 1 ≤ s.size)]
            clear hyd hyd' hy HC hstep hn17 hyl
            go_wp2_with (go_at_call 73; refine (HCC.out _).mono ?_; rintro e w' ⟨rfl, rfl⟩)
            go_ret2
            exact ⟨by rw [HB.out]; rfl, rfl⟩
        · obtain rfl : k = s.size := by omega
          by_cases hm : most < (n : Int)
          · have HB : Hid (D = (0, 3)) := by rw [Hid, HGG.out, HN.out]; simp [hm]
            go_wp2
            go_ret2
            exact ⟨by rw [HB.out]; rfl, rfl⟩
          · have HB : Hid (D = ((n : Int), 0)) := by rw [Hid, HGG.out, HN.out]; simp [hm]
            go_wp2
            go_ret2
            exact ⟨by rw [HB.out]; rfl, rfl⟩
end Go.Proofs.YtbpfggpljfpfcaaDoor
