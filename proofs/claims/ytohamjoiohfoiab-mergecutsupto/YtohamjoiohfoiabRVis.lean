/-
  The twin's Visible.
-/
import Derived.Test.YtohamjoiohfoiabVis
namespace Go.Proofs.Ytohamjoiohfoiab
open Go.RowKit
/-- Is a cell up to a moment, and none of its key ahead of it is? -/
def fstB (seq : Nat) (pre : List Cl) (c : Cl) : Bool := decide (c.seq ≤ seq) && pre.all (fun d => !(sameK d c && decide (d.seq ≤ seq)))
theorem fstB_nil (seq : Nat) (c : Cl) : fstB seq [] c = decide (c.seq ≤ seq) := by simp [fstB]
theorem fstB_succ {seq k : Nat} {l : List Cl} {c d : Cl} (h : l[k]? = some d) : fstB seq (l.take (k + 1)) c = (fstB seq (l.take k) c && !(sameK d c && decide (d.seq ≤ seq))) := by
  unfold fstB
  rw [List.take_add_one, h]
  simp [Bool.and_assoc]
/-- What the twin has told of the first cells. -/
def rvTo (l : List Cl) (seq : Nat) : Nat → List Cl
  | 0 => []
  | k + 1 => rvTo l seq k ++ match l[k]? with
    | some c => if fstB seq (l.take k) c && !c.gone then [c] else []
    | none => []
theorem rvTo_succ {l : List Cl} {seq k : Nat} {c : Cl} (h : l[k]? = some c) : rvTo l seq (k + 1) = rvTo l seq k ++ if fstB seq (l.take k) c && !c.gone then [c] else [] := by rw [rvTo, h]
theorem rvTo_len (l : List Cl) (seq : Nat) : ∀ k, (rvTo l seq k).length ≤ k
  | 0 => by simp [rvTo]
  | k + 1 => by
    have := rvTo_len l seq k
    rw [rvTo, List.length_append]
    split
    · split <;> simp <;> omega
    · simp; omega
theorem cellUp {w W : World} {a : Addr} {v : Value} (k : Below w.heap.size w W) (h : w.cell? a = some v) : W.cell? a = some v := (k.cell (p := a) (World.block_lt_of_cell? w _ h)).trans h
end Go.Proofs.Ytohamjoiohfoiab
