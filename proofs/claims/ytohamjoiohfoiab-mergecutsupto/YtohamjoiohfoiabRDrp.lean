/-
  The twin's Drop.
-/
import Derived.Test.YtohamjoiohfoiabRVis
namespace Go.Proofs.Ytohamjoiohfoiab
open Go.RowKit
/-- What the twin has told of the first cells. -/
def rdTo (l : List Cl) (seq : Nat) (bt : Bool) : Nat → List Cl
  | 0 => []
  | k + 1 => rdTo l seq bt k ++ match l[k]? with
    | some c => if decide (seq < c.seq) || (fstB seq (l.take k) c && !(bt && c.gone)) then [c] else []
    | none => []
theorem rdTo_succ {l : List Cl} {seq k : Nat} {bt : Bool} {c : Cl} (h : l[k]? = some c) : rdTo l seq bt (k + 1) = rdTo l seq bt k ++ if decide (seq < c.seq) || (fstB seq (l.take k) c && !(bt && c.gone)) then [c] else [] := by rw [rdTo, h]
theorem rdTo_len (l : List Cl) (seq : Nat) (bt : Bool) : ∀ k, (rdTo l seq bt k).length ≤ k
  | 0 => by simp [rdTo]
  | k + 1 => by
    have := rdTo_len l seq bt k
    rw [rdTo, List.length_append]
    split
    · split <;> simp <;> omega
    · simp; omega
end Go.Proofs.Ytohamjoiohfoiab
