/-
  A call of the statement's, opened.
-/
import Derived.Test.YtdgmjmohfpjlnaaOpn
namespace Go.Proofs.Ytdgmjmohfpjlnaa
open Go.RowKit Go.Deep
theorem cells35 : Try.prog.cellsOf 35 = 7 := by kernel_rfl
theorem cells3 : Try.prog.cellsOf 3 = 1 := by kernel_rfl
theorem op_arg {H : Type} {enc : TypeId × Value → H} {W : World} {cs : List Value} {fuel : Nat} {x : DataW H × List MemPlace} (hf : DataW.trod enc Try.prog W 0 (fun _ => true) true fuel 35 cs = some x) :
    ∃ (k : Int) (c : Cl) (tw : ByteArray) (n : Int), cs = [.int .i64 k, .string c.key, .int .u64 (c.seq : Nat), .string c.val, .bool c.gone, .string tw, .int .i64 n] ∧ (Lit.int .i64 k).wf = true ∧ (Lit.int .i64 n).wf = true := by
  obtain ⟨y0, y1, y2, y3, k, hD, hlen, g0, g1, g2, g3⟩ := Go.Joins.trod_struct4 Try.underlying35 hf
  rw [cells35] at hlen
  match cs, hlen with
  | [v0, v1, v2, v3, v4, v5, v6], _ =>
    simp [cells9, cells3, cells33] at g0 g1 g2 g3
    obtain ⟨a0, e0, _, w0⟩ := DataW.trod_int Try.underlying3 g0
    obtain ⟨c, e1⟩ := cell_arg g1
    obtain ⟨a2, e2, _, _⟩ := DataW.trod_string Try.underlying9 g2
    obtain ⟨a3, e3, _, w3⟩ := DataW.trod_int Try.underlying3 g3
    simp at e0 e1 e2 e3
    obtain ⟨e10, e11, e12, e13⟩ := e1
    subst e0 e10 e11 e12 e13 e2 e3
    exact ⟨a0, c, a2, a3, rfl, w0, w3⟩
end Go.Proofs.Ytdgmjmohfpjlnaa
