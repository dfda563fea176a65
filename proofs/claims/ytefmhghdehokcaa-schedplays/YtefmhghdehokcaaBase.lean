/-
  Rows of values in memory; what is kept but for some blocks.
-/
import Derived.Test.YtefmhghdehokcaaChecked
import Derived.LoopTactic
import Derived.RegionTactic
import Derived.BigQuiet
import Derived.BigRegion
import Derived.Deep.QuietTactic
import Derived.Deep.RegionWith
import Derived.Deep.CutRange
import Derived.RangeFuncBox
import Derived.WalkKit
import Derived.Laws.MakeOwn
import Derived.Laws.AppendOwn
import Derived.Laws.AppendOwnNone
import Derived.LoopN
namespace Go.Proofs.Ytefmhghdehokcaa
open Go.RowKit
theorem info3 : (Try.prog.info? 3).map (fun i => (i.zero, i.size, i.bytes)) = some (some (.int .i64 0), 1, 8) := by kernel_rfl
theorem info45 : (Try.prog.info? 45).map (fun i => (i.zero, i.size, i.bytes)) = some (some (.int .u64 0), 1, 8) := by kernel_rfl
theorem info86 : (Try.prog.info? 86).map (fun i => (i.zero, i.size, i.bytes)) = some (some .nilIface, 1, 16) := by kernel_rfl
theorem info54 : (Try.prog.info? 54).map (fun i => (i.zero, i.size, i.bytes)) = some (some (.agg #[.int .i64 0, .int .i64 0]), 2, 16) := by kernel_rfl
/-- Values in memory, from a slice's address on, in blocks below B. -/
def VA (B : Nat) (w : World) (a : Option Addr) (vs : List Value) : Prop :=
  ∀ j v, vs[j]? = some v → ∃ b off, a = some ⟨b, off, none⟩ ∧ b < B ∧ w.cell? ⟨b, off + j, none⟩ = some v
theorem VA.below {B : Nat} {w w' : World} {a : Option Addr} {vs : List Value} (h : VA B w a vs) (k : ∀ b, b < B → w'.heap[b]? = w.heap[b]?) : VA B w' a vs := by
  intro j v hj
  obtain ⟨b, off, ha, hb, h0⟩ := h j v hj
  refine ⟨b, off, ha, hb, ?_⟩
  simp only [World.cell?] at h0 ⊢
  rw [k b hb]
  exact h0
theorem VA.nil (B : Nat) (w : World) (a : Option Addr) : VA B w a [] := fun j v h => by simp at h
/-- All is kept but what lies in some blocks. -/
structure Kb (S : Nat → Prop) (w w' : World) : Prop where
  os : w'.os = w.os
  tape : w'.tape = w.tape
  output : w'.output = w.output
  size : w.heap.size ≤ w'.heap.size
  block : ∀ b, b < w.heap.size → ¬ S b → w'.heap[b]? = w.heap[b]?
theorem addr_add (b off j : Nat) : (⟨b, off, none⟩ : Addr).add j = ⟨b, off + j, none⟩ := by by_cases hi0 : j = 0 <;> simp [Addr.add, hi0]
theorem belD (w : World) (q : Nat) : Below w.heap.size w (w.drewN q) := ⟨rfl, rfl, rfl, Nat.le_refl _, fun _ _ => rfl⟩
def iV (x : Int) : Value := .int .i64 x
def uV (x : Nat) : Value := .int .u64 (x : Nat)
end Go.Proofs.Ytefmhghdehokcaa
