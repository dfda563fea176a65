/-
  Cut's variables: the pieces so far, and what is left of the last one's room.
-/
import Derived.Test.YtohamjoiohfoiaaCells
import Derived.Test.YtohamjoiohfoiaaWeight
namespace Go.Proofs.Ytohamjoiohfoiaa
open Go.RowKit
/-- A key's versions at the end of the last piece. -/
def onLast (pcs : List (List Cl)) (k : List Cl) : List (List Cl) := match pcs.getLast? with
  | some p => pcs.dropLast ++ [p ++ k]
  | none => []
/-- A new piece, where one is begun. -/
def cutNew (most : Int) (st : List (List Cl) × Int) (k : List Cl) : List (List Cl) × Int := if st.1.length = 0 ∨ st.2 < wtI k then (st.1 ++ [[]], most) else st
def cutStep (most : Int) (st : List (List Cl) × Int) (k : List Cl) : List (List Cl) × Int := (onLast (cutNew most st k).1 k, wrap64 ((cutNew most st k).2 - wtI k))
def cutP (l : List Cl) (most : Int) (pre : List (Nat × Nat)) : List (List Cl) × Int := pre.foldl (fun st y => cutStep most st (cutL l y)) ([], 0)
theorem cutP_snoc (l : List Cl) (most : Int) (pre : List (Nat × Nat)) (y : Nat × Nat) : cutP l most (pre ++ [y]) = cutStep most (cutP l most pre) (cutL l y) := by simp [cutP]
/-- The pieces in memory: each in a row of its own, the last one's younger than all others. -/
structure CutI (w : World) (s t5 t6 : Nat) (pcs : List (List Cl)) (left : Int) (W : World) : Prop where
  ex : ∃ (v : Value) (vs : List Value) (β : Nat), Boxed W t5 32 v ∧ W.ownsRow s 25 1 v pcs.length vs ∧ (pcs = [] → v = .slice none 0 0) ∧ s ≤ β ∧ β ≤ W.heap.size ∧
    (∀ (i : Nat) (p : List Cl), pcs[i]? = some p → ∃ u, vs[i]? = some u ∧ W.ownsRow s 24 4 u p.length (flC p) ∧ ∀ g, u.ownBlock = some g → (i + 1 < pcs.length → g < β) ∧ (i + 1 = pcs.length → β ≤ g))
  lft : Boxed W t6 3 (.int .i64 left)
  bel : Below s w W
theorem CutI.row_not {W : World} {s : Nat} {pcs : List (List Cl)} {v : Value} {vs : List Value} {ob : Option Nat} (hob : ∀ b, ob = some b → b < s) (h4 : W.ownsRow s 25 1 v pcs.length vs) (h0 : pcs = [] → v = .slice none 0 0)
    (hp : ∀ (i : Nat) (p : List Cl), pcs[i]? = some p → ∃ u, vs[i]? = some u ∧ W.ownsRow s 24 4 u p.length (flC p)) : ∀ g o, v.ownBlock = some g → W.heap[g]? = some o → ¬ BoxOf ob o := by
  rintro g o hg ho ⟨bl, off, m, c, f, e1, rfl⟩
  rcases h4.2 with ⟨rfl, _⟩ | ⟨g', cap, cur, rfl, hB, hh, hn, hcm, hcs, htk⟩
  · cases hg
  · simp only [Value.ownBlock, Option.some.injEq] at hg
    subst hg
    rw [hh] at ho
    simp only [Option.some.injEq, Obj.cells.injEq] at ho
    obtain ⟨rfl, _, _⟩ := ho
    have hc1 : cap = 1 := by simp at hcs; omega
    have hne : pcs ≠ [] := fun e => by have := h0 e; cases this
    have hl : 0 < pcs.length := List.length_pos_iff.2 hne
    obtain ⟨u, hu, hr⟩ := hp 0 pcs[0] (List.getElem?_eq_getElem hl)
    have hl1 : pcs.length = 1 := by omega
    rw [hl1] at htk
    simp at htk
    rw [← htk] at hu
    simp only [List.getElem?_cons_zero, Option.some.injEq] at hu
    subst hu
    have := (hr.lt bl rfl).1
    have := hob bl e1
    omega
theorem CutI.keep {w W W' : World} {s t5 t6 : Nat} {pcs : List (List Cl)} {left : Int} {ob : Option Nat} (h : CutI w s t5 t6 pcs left W) (hob : ∀ b, ob = some b → b < s) (hk : ∀ (k : Nat) c t f, W.heap[k]? = some (.cells c t f) → ¬ BoxOf ob (.cells c t f) → W'.heap[k]? = some (.cells c t f)) (hb : Below s w W') (hsz : W.heap.size ≤ W'.heap.size) : CutI w s t5 t6 pcs left W' := by
  obtain ⟨⟨v, vs, β, h1, h2, h3, h4, h5, h6⟩, hl, _⟩ := h
  have hnr := CutI.row_not hob h2 h3 (fun i p hp => by obtain ⟨u, a, b, _⟩ := h6 i p hp; exact ⟨u, a, b⟩)
  refine ⟨⟨v, vs, β, hk t5 _ _ _ h1 (by rintro ⟨_, _, _, _, _, _, e⟩; simp at e), owns_same h2 (fun g hg => ?_), h3, h4, Nat.le_trans h5 hsz, fun i p hp => ?_⟩, hk t6 _ _ _ hl (by rintro ⟨_, _, _, _, _, _, e⟩; simp at e), hb⟩
  · rcases h2.2 with ⟨ev, _⟩ | ⟨g', cap, cur, ev, _, hh, _⟩
    · rw [ev] at hg; cases hg
    · have hg' := hg
      rw [ev] at hg'
      simp only [Value.ownBlock, Option.some.injEq] at hg'
      subst hg'
      rw [hh]
      exact hk _ _ _ _ hh (hnr _ _ hg hh)
  · obtain ⟨u, a, b, c⟩ := h6 i p hp
    refine ⟨u, a, owns_same b (fun g hg => ?_), c⟩
    rcases b.2 with ⟨ev, _⟩ | ⟨g', cap, cur, ev, _, hh, _⟩
    · rw [ev] at hg; cases hg
    · rw [ev] at hg
      simp only [Value.ownBlock, Option.some.injEq] at hg
      subst hg
      rw [hh]
      exact hk _ _ _ _ hh (by rintro ⟨_, _, _, _, _, _, e⟩; simp at e)
theorem cut_rk {w : World} {s t5 t6 z : Nat} {ob : Option Nat} {pcs : List (List Cl)} {left : Int} (hs : s ≤ w.heap.size) (hz : s ≤ z) (hob : ∀ b, ob = some b → b < s) {A B : World} (h : CutI w s t5 t6 pcs left A) (k : RkC z ob A B) : CutI w s t5 t6 pcs left B := by
  refine h.keep hob (fun j c t f ho hn => k.block j _ ho (Or.inr hn)) ⟨k.os.trans h.bel.os, k.tape.trans h.bel.tape, k.output.trans h.bel.output, Nat.le_trans h.bel.size k.size, fun b hb2 => ?_⟩ k.size
  have hlt : b < A.heap.size := by have := h.bel.size; omega
  exact (k.block b _ (Array.getElem?_eq_getElem hlt) (Or.inl (by omega))).trans ((Array.getElem?_eq_getElem hlt).symm.trans (h.bel.block b hb2))
theorem cut_own {w : World} {s t5 t6 B : Nat} {F : List (Nat × Nat) → List (List Cl) × Int} (hs : s ≤ w.heap.size) (hB : s ≤ B) : OwnFrom B (fun pre W => CutI w s t5 t6 (F pre).1 (F pre).2 W) := by
  rintro pre A A' row h hg hrow
  exact h.keep (ob := none) (fun b e => by cases e) (fun k c t f ho _ => (own_block ho hg hrow).trans ho) (h.bel.grown hg (Nat.le_trans hs h.bel.size) (fun k e => Nat.le_trans hB (hrow k e).1)) hg.size
theorem cut_below {w : World} {s t5 t6 : Nat} {pcs : List (List Cl)} {left : Int} (hs : s ≤ w.heap.size) {A B : World} (h : CutI w s t5 t6 pcs left A) (k : Below A.heap.size A B) : CutI w s t5 t6 pcs left B :=
  h.keep (ob := none) (fun b e => by cases e) (fun j c t f ho _ => (k.block j (Array.getElem?_eq_some_iff.1 ho).1).trans ho) (h.bel.trans (k.mono (Nat.le_trans hs h.bel.size))) k.size
end Go.Proofs.Ytohamjoiohfoiaa
