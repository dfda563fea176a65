/-
  The contracts of the twin's small functions.
-/
import Derived.Test.YtbpfggpljfpfcaaDoorRDig
namespace Go.Proofs.YtbpfggpljfpfcaaDoor
open Go.RowKit
set_option maxRecDepth 20000 in
set_option maxHeartbeats 1000000 in
theorem rhex_any (x : Nat) (hx : x < 256) (w : World) : Calls Tryd.prog 41 #[.int .u8 (x : Int)] w fun e w' => e = .returned (.int .i64 (hexV x)) ∧ w' = w := by
  by_cases h0 : 48 ≤ x ∧ x ≤ 57
  · have hd : isDig x = true := by simp [isDig]; omega
    have hv : hexV x = (x : Int) - 48 := by unfold hexV;  rw [if_pos (by omega)]
    have g0 : (48 : Int) ≤ (x : Int) := by omega
    have g1 : (x : Int) ≤ 57 := by omega
    have HC : Hid (∀ W : World, _) := fun W => rdigit_any x W
    rw [hd] at HC
    rw [hv]
    clear hd hv h0
    go_enter Tryd.func41, Tryd.ntmps41
    go_wp2_with (go_at_call 42; refine (HC.out _).mono ?_; rintro e w' ⟨rfl, rfl⟩)
    go_ret
    exact ⟨ret_int (by first | rfl | omega | (go_simp; omega)), rfl⟩
  by_cases h1 : 65 ≤ x ∧ x ≤ 70
  · have hd : isDig x = false := by simp [isDig]; omega
    have hv : hexV x = (x : Int) - 55 := by unfold hexV; rw [if_neg (by omega)]; rw [if_pos (by omega)]
    have g0 : (65 : Int) ≤ (x : Int) := by omega
    have g1 : (x : Int) ≤ 70 := by omega
    have HC : Hid (∀ W : World, _) := fun W => rdigit_any x W
    rw [hd] at HC
    rw [hv]
    clear hd hv h0 h1
    go_enter Tryd.func41, Tryd.ntmps41
    go_wp2_with (go_at_call 42; refine (HC.out _).mono ?_; rintro e w' ⟨rfl, rfl⟩)
    go_ret
    exact ⟨ret_int (by first | rfl | omega | (go_simp; omega)), rfl⟩
  by_cases h2 : 97 ≤ x ∧ x ≤ 102
  · have hd : isDig x = false := by simp [isDig]; omega
    have hv : hexV x = (x : Int) - 87 := by unfold hexV; rw [if_neg (by omega)]; rw [if_neg (by omega)]; rw [if_pos (by omega)]
    have g0 : ¬ (x : Int) ≤ 70 := by omega
    have g1 : (97 : Int) ≤ (x : Int) := by omega
    have g2 : (x : Int) ≤ 102 := by omega
    have HC : Hid (∀ W : World, _) := fun W => rdigit_any x W
    rw [hd] at HC
    rw [hv]
    clear hd hv h0 h1 h2
    go_enter Tryd.func41, Tryd.ntmps41
    go_wp2_with (go_at_call 42; refine (HC.out _).mono ?_; rintro e w' ⟨rfl, rfl⟩)
    go_ret
    exact ⟨ret_int (by first | rfl | omega | (go_simp; omega)), rfl⟩
  have hd : isDig x = false := by simp [isDig]; omega
  have hv : hexV x = -1 := by unfold hexV; rw [if_neg (by omega), if_neg (by omega), if_neg (by omega)]
  have HC : Hid (∀ W : World, _) := fun W => rdigit_any x W
  rw [hd] at HC
  rw [hv]
  rcases (by omega : x < 65 ∨ (65 ≤ x ∧ 70 < x ∧ x < 97) ∨ (97 ≤ x ∧ 102 < x)) with g | g | g
  · have k0 : ¬ (65 : Int) ≤ (x : Int) := by omega
    have k1 : ¬ (97 : Int) ≤ (x : Int) := by omega
    clear hd hv h0 h1 h2 g
    go_enter Tryd.func41, Tryd.ntmps41
    go_wp2_with (go_at_call 42; refine (HC.out _).mono ?_; rintro e w' ⟨rfl, rfl⟩)
    go_ret
    exact ⟨rfl, rfl⟩
  · have k0 : (65 : Int) ≤ (x : Int) := by omega
    have k1 : ¬ (x : Int) ≤ 70 := by omega
    have k2 : ¬ (97 : Int) ≤ (x : Int) := by omega
    clear hd hv h0 h1 h2 g
    go_enter Tryd.func41, Tryd.ntmps41
    go_wp2_with (go_at_call 42; refine (HC.out _).mono ?_; rintro e w' ⟨rfl, rfl⟩)
    go_ret
    exact ⟨rfl, rfl⟩
  · have k0 : (65 : Int) ≤ (x : Int) := by omega
    have k1 : ¬ (x : Int) ≤ 70 := by omega
    have k2 : (97 : Int) ≤ (x : Int) := by omega
    have k3 : ¬ (x : Int) ≤ 102 := by omega
    clear hd hv h0 h1 h2 g
    go_enter Tryd.func41, Tryd.ntmps41
    go_wp2_with (go_at_call 42; refine (HC.out _).mono ?_; rintro e w' ⟨rfl, rfl⟩)
    go_ret
    exact ⟨rfl, rfl⟩
end Go.Proofs.YtbpfggpljfpfcaaDoor
