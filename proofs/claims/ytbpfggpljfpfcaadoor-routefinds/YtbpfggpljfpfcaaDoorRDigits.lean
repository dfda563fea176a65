/-
  The contract of the twin's Digits.
-/
import Derived.Test.YtbpfggpljfpfcaaDoorRDig
import Derived.Test.YtbpfggpljfpfcaaDoorDigits
namespace Go.Proofs.YtbpfggpljfpfcaaDoor
open Go.RowKit
set_option maxRecDepth 20000 in
set_option maxHeartbeats 2000000 in
theorem rdigits_any (s : ByteArray) (most : Int) (hs : s.size ≤ 140737488355328) (w : World) : Calls Tryd.prog 27 #[.string s, .int .i64 most] w fun e w' => e = .returned (.tuple #[.int .i64 (digR s most).1, .int .i64 (digR s most).2]) ∧ w' = w := by
  by_cases hb : digBad s = true
  · rw [digR_bad hb]
    simp only [digBad, decide_eq_true_eq] at hb
    rcases hb with h | h | ⟨h, h2⟩
    · have h' : (s.size : Int) < 1 := by omega
      clear h
      go_enter Tryd.func27, Tryd.ntmps27
      go_wp2
      go_ret2
      exact ⟨rfl, rfl⟩
    · have h0 : ¬ (s.size : Int) < 1 := by omega
      have h' : (18 : Int) < (s.size : Int) := by omega
      clear h
      go_enter Tryd.func27, Tryd.ntmps27
      go_wp2
      go_ret2
      exact ⟨rfl, rfl⟩
    · by_cases h8 : 18 < s.size
      · have h0 : ¬ (s.size : Int) < 1 := by omega
        have h' : (18 : Int) < (s.size : Int) := by omega
        clear h h2 h8
        go_enter Tryd.func27, Tryd.ntmps27
        go_wp2
        go_ret2
        exact ⟨rfl, rfl⟩
      · have h0 : ¬ (s.size : Int) < 1 := by omega
        have h' : ¬ (18 : Int) < (s.size : Int) := by omega
        have h1 : (1 : Int) < (s.size : Int) := by omega
        have r0 := fun W => run_byte s (i := 0) (z := 0) rfl (by omega) W
        rw [h2] at r0
        clear h h2 h8
        go_enter Tryd.func27, Tryd.ntmps27
        go_wp2
        go_ret2
        exact ⟨rfl, rfl⟩
  · have hb2 : digBad s = false := by simpa using hb
    have HG := digR_good (most := most) hb2
    simp only [digBad, decide_eq_true_eq] at hb
    have h18 : s.size ≤ 18 := by omega
    have h0 : ¬ (s.size : Int) < 1 := by omega
    have h' : ¬ (18 : Int) < (s.size : Int) := by omega
    have r0 := fun W => run_byte s (i := 0) (z := 0) rfl (by omega) W
    obtain ⟨y0, hy0⟩ : ∃ y0, byteAt s 0 = y0 := ⟨_, rfl⟩
    have h48 : ((1 : Int) < (s.size : Int)) → ((y0 : Int) == 48) = false := fun q => by
      have : y0 ≠ 48 := fun e => hb (Or.inr (Or.inr ⟨by omega, by omega⟩))
      simp; omega
    rw [hy0] at r0
    have HD : Hid (∀ (x : Nat) (W : World), _) := fun x W => rdigit_any x W
    obtain ⟨D, hD⟩ : ∃ D, digR s most = D := ⟨_, rfl⟩
    rw [hD] at HG ⊢
    have HGG : Hid _ := HG
    clear hb hb2 hy0 hD HG
    by_cases h1 : (1 : Int) < (s.size : Int)
    case' pos => have h48' := h48 h1
    all_goals
      clear h48
      go_enter Tryd.func27, Tryd.ntmps27
      go_wp2
      go_loopw [6, 7] (fun v i wr => ∃ k n : Nat, k ≤ s.size ∧ i = .int .i64 k ∧ v = .int .i64 n ∧ Hid (digN s k = some n) ∧ wr = w) (fun v i _ => s.size - (intOf i).toNat)
      case atStart => exact ⟨0, 0, by omega, rfl, rfl, rfl, rfl⟩
      case round =>
        obtain ⟨k, n, hk, rfl, rfl, HN, rfl⟩ := hrel
        by_cases hlt : k < s.size
        · have rk := fun W => run_byte s (i := k) (z := (k : Int)) rfl hlt W
          have hstep := digN_step (s := s) (k := k) HN.out
          have hn17 : n < 100000000000000000 := Nat.lt_of_lt_of_le (digN_lt k n HN.out) (Nat.pow_le_pow_right (n := 10) (by decide) (by omega : k ≤ 17))
          have hyl := byteAt_lt s k
          obtain ⟨y, hy⟩ : ∃ y, byteAt s k = y := ⟨_, rfl⟩
          rw [hy] at rk hstep hyl
          have HC := HD.out y
          by_cases hyd : isDig y = true
          · rw [hyd] at HC hstep
            have HCC : Hid _ := HC
            have HS : Hid _ := hstep
            have y1 : (48 : Int) ≤ (y : Int) := by simp [isDig] at hyd; omega
            have y2 : (y : Int) ≤ 57 := by simp [isDig] at hyd; omega
            have n0 : (0 : Int) ≤ (n : Int) := by omega
            have n1 : (n : Int) < 100000000000000000 := by omega
            clear hyd hy HC hstep hn17 hyl
            go_wp2_with (go_at_call 42; refine (HCC.out _).mono ?_; rintro e w' ⟨rfl, rfl⟩)
            go_roundw
            case rel => exact ⟨k + 1, 10 * n + (y - 48), by omega, by go_num, val_int (by omega), HS.out, by first | rfl | trivial⟩
            case measure => simp [intOf]; omega
          · have hyd' : isDig y = false := by simpa using hyd
            rw [hyd'] at HC hstep
            have HCC : Hid _ := HC
            have HB : Hid (D = (0, 150)) := by rw [Hid, HGG.out, digN_none hstep (by omega : k + 1 ≤ s.size)]
            clear hyd hyd' hy HC hstep hn17 hyl
            go_wp2_with (go_at_call 42; refine (HCC.out _).mono ?_; rintro e w' ⟨rfl, rfl⟩)
            go_ret2
            exact ⟨by rw [HB.out]; rfl, rfl⟩
        · obtain rfl : k = s.size := by omega
          by_cases hm : most < (n : Int)
          · have HB : Hid (D = (0, 3)) := by rw [Hid, HGG.out, HN.out]; simp [hm]
            go_wp2
            go_ret2
            exact ⟨by rw [HB.out]; rfl, rfl⟩
          · have HB : Hid (D = ((n : Int), 0)) := by rw [Hid, HGG.out, HN.out]; simp [hm]
            go_wp2
            go_ret2
            exact ⟨by rw [HB.out]; rfl, rfl⟩
end Go.Proofs.YtbpfggpljfpfcaaDoor
