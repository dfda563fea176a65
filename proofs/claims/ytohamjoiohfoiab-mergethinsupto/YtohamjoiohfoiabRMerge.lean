/-
  The twin's Merge.
-/
import Derived.Test.YtohamjoiohfoiabWith
import Derived.Test.YtohamjoiohfoiabLists
namespace Go.Proofs.Ytohamjoiohfoiab
open Go.RowKit
/-- Cells, one behind the other, laid into one list. -/
def layC (cs : List Cl) : List Cl := cs.foldl insC []
theorem lay_snoc (cs : List Cl) (c : Cl) : layC (cs ++ [c]) = insC (layC cs) c := by simp [layC]
theorem fold_len : ∀ (cs o : List Cl), (cs.foldl insC o).length ≤ o.length + cs.length
  | [], o => by simp
  | c :: cs, o => by
    have h1 := fold_len cs (insC o c)
    have h2 := ins_len o c
    simp only [List.foldl_cons, List.length_cons]
    omega
theorem lay_len (cs : List Cl) : (layC cs).length ≤ cs.length := by have := fold_len cs []; simpa [layC] using this
/-- A list that the twin has made so far. -/
def SoFar (W : World) (v : Value) (L : List Cl) : Prop := ∃ a c, v = .slice a L.length c ∧ L.length ≤ c ∧ CA W.heap.size W a L ∧ (L = [] → a = none ∧ c = 0)
theorem SoFar.up {W V : World} {v : Value} {L : List Cl} (h : SoFar W v L) (k : Below W.heap.size W V) : SoFar V v L := by
  obtain ⟨a, c, h1, h2, h3, h4⟩ := h
  exact ⟨a, c, h1, h2, (h3.below (fun b hb => k.block b hb)).up k.size, h4⟩
/-- All cells of the first j lists. -/
def flatS (ls : List Sl) (j : Nat) : List Cl := ((ls.map Sl.cs).take j).flatten
theorem flat_succ {ls : List Sl} {j : Nat} {s : Sl} (h : ls[j]? = some s) : flatS ls (j + 1) = flatS ls j ++ s.cs := by
  unfold flatS
  rw [List.take_add_one, List.getElem?_map, h]
  simp
theorem flat_le (ls : List Sl) : ∀ j, (flatS ls j).length ≤ ((ls.map Sl.cs).flatten).length := fun j => by
  unfold flatS
  have : ((ls.map Sl.cs).flatten) = ((ls.map Sl.cs).take j).flatten ++ ((ls.map Sl.cs).drop j).flatten := by rw [← List.flatten_append, List.take_append_drop]
  rw [this, List.length_append]
  omega
/-- What the twin's Merge tells. -/
def mergeQ (ls : List Sl) : List Cl := if allS ls then layC ((ls.map Sl.cs).flatten) else []
end Go.Proofs.Ytohamjoiohfoiab
