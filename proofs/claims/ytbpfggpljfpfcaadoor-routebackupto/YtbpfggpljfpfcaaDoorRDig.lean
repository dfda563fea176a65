/-
  The contracts of the twin's small functions.
-/
import Derived.Test.YtbpfggpljfpfcaaDoorSmall
namespace Go.Proofs.YtbpfggpljfpfcaaDoor
open Go.RowKit
set_option maxRecDepth 20000 in
theorem rdigit_any (x : Nat) (w : World) : Calls Tryd.prog 42 #[.int .u8 (x : Int)] w fun e w' => e = .returned (.bool (isDig x)) ∧ w' = w := by
  by_cases h1 : 48 ≤ x
  · by_cases h2 : x ≤ 57
    · have h3 : (48 : Int) ≤ (x : Int) := by omega
      have h4 : (x : Int) ≤ 57 := by omega
      rw [show isDig x = true by simp [isDig]; omega]
      go_enter Tryd.func42, Tryd.ntmps42
      go_wp2
      go_ret
      exact ⟨rfl, rfl⟩
    · have h3 : (48 : Int) ≤ (x : Int) := by omega
      have h4 : ¬ (x : Int) ≤ 57 := by omega
      rw [show isDig x = false by simp [isDig]; omega]
      go_enter Tryd.func42, Tryd.ntmps42
      go_wp2
      go_ret
      exact ⟨rfl, rfl⟩
  · have h3 : ¬ (48 : Int) ≤ (x : Int) := by omega
    rw [show isDig x = false by simp [isDig]; omega]
    go_enter Tryd.func42, Tryd.ntmps42
    go_wp2
    go_ret
    exact ⟨rfl, rfl⟩
end Go.Proofs.YtbpfggpljfpfcaaDoor
