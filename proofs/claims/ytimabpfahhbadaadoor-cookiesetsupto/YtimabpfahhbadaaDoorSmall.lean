/-
  The contracts of the small functions: digits, letters, what a digit says, what is a rune: of both.
-/
import Derived.Test.YtimabpfahhbadaaDoorBase
namespace Go.Proofs.YtimabpfahhbadaaDoor
open Go.RowKit
def isDig (x : Nat) : Bool := decide (48 ≤ x ∧ x ≤ 57)
def hexV (x : Nat) : Int := if 48 ≤ x ∧ x ≤ 57 then (x : Int) - 48 else if 65 ≤ x ∧ x ≤ 70 then (x : Int) - 55 else if 97 ≤ x ∧ x ≤ 102 then (x : Int) - 87 else -1
def isRn (z : Int) : Bool := decide (0 ≤ z ∧ z ≤ 1114111 ∧ (z < 55296 ∨ 57343 < z))
set_option maxRecDepth 20000 in
theorem isDigit_any (x : Nat) (w : World) : Calls Tryd.prog 43 #[.int .u8 (x : Int)] w fun e w' => e = .returned (.bool (isDig x)) ∧ w' = w := by
  by_cases h1 : 48 ≤ x
  · by_cases h2 : x ≤ 57
    · have h3 : (48 : Int) ≤ (x : Int) := by omega
      have h4 : (x : Int) ≤ 57 := by omega
      rw [show isDig x = true by simp [isDig]; omega]
      go_enter Tryd.func43, Tryd.ntmps43
      go_wp2
      go_ret
      exact ⟨rfl, rfl⟩
    · have h3 : (48 : Int) ≤ (x : Int) := by omega
      have h4 : ¬ (x : Int) ≤ 57 := by omega
      rw [show isDig x = false by simp [isDig]; omega]
      go_enter Tryd.func43, Tryd.ntmps43
      go_wp2
      go_ret
      exact ⟨rfl, rfl⟩
  · have h3 : ¬ (48 : Int) ≤ (x : Int) := by omega
    rw [show isDig x = false by simp [isDig]; omega]
    go_enter Tryd.func43, Tryd.ntmps43
    go_wp2
    go_ret
    exact ⟨rfl, rfl⟩
end Go.Proofs.YtimabpfahhbadaaDoor
