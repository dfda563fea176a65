/-
  Where the rows of both loops lie behind a further task.
-/
import Derived.Test.YtefmhghdehokcaaNewAt
import Derived.Test.YtefmhghdehokcaaMaddF
namespace Go.Proofs.Ytefmhghdehokcaa
open Go.RowKit
/-- What a further task adds to the loops' blocks is new. -/
def Ups (w : World) (S : LS) (va vT : Value) (t : Tk) (vs' vw' va' vT' : Value) : Prop := t.vt = .slice none 0 0 ∧ w.heap.size ≤ t.q ∧ (∀ k, vs'.ownBlock = some k → S.vs.ownBlock = some k ∨ w.heap.size ≤ k) ∧ (∀ k, vw'.ownBlock = some k → S.vw.ownBlock = some k ∨ w.heap.size ≤ k) ∧ (∀ k, va'.ownBlock = some k → va.ownBlock = some k ∨ w.heap.size ≤ k) ∧ (∀ k, vT'.ownBlock = some k → vT.ownBlock = some k ∨ w.heap.size ≤ k)
end Go.Proofs.Ytefmhghdehokcaa
