/-
  The contracts of the small functions: digits, letters, what a digit says, what is a rune: of both.
-/
import Derived.Test.YtedibkcempcpnaaDoorTBase
namespace Go.Proofs.YtedibkcempcpnaaDoor.T
open Go.RowKit
def isDig (x : Nat) : Bool := decide (48 ≤ x ∧ x ≤ 57)
def hexV (x : Nat) : Int := if 48 ≤ x ∧ x ≤ 57 then (x : Int) - 48 else if 65 ≤ x ∧ x ≤ 70 then (x : Int) - 55 else if 97 ≤ x ∧ x ≤ 102 then (x : Int) - 87 else -1
def isRn (z : Int) : Bool := decide (0 ≤ z ∧ z ≤ 1114111 ∧ (z < 55296 ∨ 57343 < z))
end Go.Proofs.YtedibkcempcpnaaDoor.T
