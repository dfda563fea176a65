/-
  The twin's Cut: pieces so far, in memory and as lists.
-/
import Derived.Test.YtohamjoiohfoiabCut
import Derived.Test.YtohamjoiohfoiabSize
import Derived.Test.YtohamjoiohfoiabLists
namespace Go.Proofs.Ytohamjoiohfoiab
open Go.RowKit
theorem rows_apart {W : World} {B B' n m size size' : Nat} {t t' : TypeId} {u v : Value} {xs ys : List Value} (h : W.ownsRow B t size u n xs) (k : W.ownsRow B' t' size' v m ys) (ht : t ≠ t') : u.ownBlock = none ∨ u.ownBlock ≠ v.ownBlock := by
  rcases h.2 with ⟨rfl, _⟩ | ⟨g, cap, cur, rfl, _, hg, _⟩
  · exact Or.inl rfl
  · right
    intro e
    rcases k.2 with ⟨rfl, _⟩ | ⟨g', cap', cur', rfl, _, hg', _⟩
    · cases e
    · simp only [Value.ownBlock, Option.some.injEq] at e
      subst e
      rw [hg] at hg'
      simp only [Option.some.injEq, Obj.cells.injEq] at hg'
      exact ht hg'.2.1
/-- The pieces that are done, each in a row of its own; the one that is being made, in a younger one. -/
structure TI (w : World) (s : Nat) (W : World) (v u : Value) (pcs : List (List Cl)) (p : List Cl) : Prop where
  ex : ∃ (vs : List Value) (β : Nat), W.ownsRow s 22 1 v pcs.length vs ∧ s ≤ β ∧ β ≤ W.heap.size ∧ (∀ (i : Nat) (q : List Cl), pcs[i]? = some q → ∃ z, vs[i]? = some z ∧ W.ownsRow s 29 4 z q.length (flC q) ∧ ∀ g, z.ownBlock = some g → g < β) ∧ W.ownsRow β 29 4 u p.length (flC p)
  bel : Below s w W
theorem TI.start (w : World) : TI w w.heap.size w (.slice none 0 0) (.slice none 0 0) [] [] :=
  ⟨⟨[], w.heap.size, World.ownsRow_nil _ _ _ _, Nat.le_refl _, Nat.le_refl _, fun i q h => by simp at h, World.ownsRow_nil _ _ _ _⟩, Below.refl _ _⟩
theorem TI.below {w W W' : World} {s : Nat} {v u : Value} {pcs : List (List Cl)} {p : List Cl} (h : TI w s W v u pcs p) (k : Below W.heap.size W W') : TI w s W' v u pcs p := by
  obtain ⟨⟨vs, β, h1, h2, h3, h4, h5⟩, h6⟩ := h
  have hs : s ≤ W.heap.size := Nat.le_trans h2 h3
  refine ⟨⟨vs, β, owns_same h1 (fun g e => k.block g (h1.lt g e).2), h2, Nat.le_trans h3 k.size, fun i q hq => ?_, owns_same h5 (fun g e => k.block g (h5.lt g e).2)⟩, h6.trans (k.mono hs)⟩
  obtain ⟨z, e1, e2, e3⟩ := h4 i q hq
  exact ⟨z, e1, owns_same e2 (fun g e => k.block g (e2.lt g e).2), e3⟩
/-- More cells at the end of the piece that is being made. -/
theorem TI.grow {w W w3 : World} {s β np r : Nat} {v u u2 : Value} {vs : List Value} {pcs : List (List Cl)} {p k : List Cl} (hp : p.length = np) (hk : k.length = r)
    (h1 : W.ownsRow s 22 1 v pcs.length vs) (h2 : s ≤ β) (h3 : β ≤ W.heap.size) (h4 : ∀ (i : Nat) (q : List Cl), pcs[i]? = some q → ∃ z, vs[i]? = some z ∧ W.ownsRow s 29 4 z q.length (flC q) ∧ ∀ g, z.ownBlock = some g → g < β) (h5 : W.ownsRow β 29 4 u np (flC p)) (h6 : Below s w W)
    (g1 : w3.ownsRow β 29 4 u2 (np + r) (flC p ++ flC k)) (g2 : W.grownBy w3 u.ownBlock) : TI w s w3 v u2 pcs (p ++ k) := by
  have hs : s ≤ W.heap.size := Nat.le_trans h2 h3
  refine ⟨⟨vs, β, h1.kept g2 (rows_apart h1 h5 (by decide)), h2, Nat.le_trans h3 g2.size, fun i q hq => ?_, by rw [List.length_append, hp, hk, flC_app]; exact g1⟩, h6.grown g2 hs (fun k e => Nat.le_trans h2 (h5.lt k e).1)⟩
  obtain ⟨z, e1, e2, e3⟩ := h4 i q hq
  refine ⟨z, e1, e2.kept g2 ?_, e3⟩
  cases ez : z.ownBlock with
  | none => exact Or.inl rfl
  | some g =>
    right
    intro e
    have := e3 g ez
    have := (h5.lt g e.symm).1
    omega
/-- A piece is done. -/
theorem TI.push {w W w3 : World} {s β n np : Nat} {v u v2 : Value} {vs : List Value} {pcs : List (List Cl)} {p : List Cl} (hn : pcs.length = n) (hp : p.length = np)
    (h1 : W.ownsRow s 22 1 v n vs) (h2 : s ≤ β) (h3 : β ≤ W.heap.size) (h4 : ∀ (i : Nat) (q : List Cl), pcs[i]? = some q → ∃ z, vs[i]? = some z ∧ W.ownsRow s 29 4 z q.length (flC q) ∧ ∀ g, z.ownBlock = some g → g < β) (h5 : W.ownsRow β 29 4 u np (flC p)) (h6 : Below s w W)
    (g1 : w3.ownsRow s 22 1 v2 (n + 1) (vs ++ [u])) (g2 : (W.alloc (.cells #[u] 22)).grownBy w3 v.ownBlock) : TI w s w3 v2 (.slice none 0 0) (pcs ++ [p]) [] := by
  have hs : s ≤ W.heap.size := Nat.le_trans h2 h3
  have hvs : vs.length = n := by have := h1.1; omega
  have hA : Below s w (W.alloc (.cells #[u] 22)) := h6.alloc hs _
  have hsz : W.heap.size ≤ w3.heap.size := by have := g2.size; simp at this; omega
  have keep : ∀ {B m : Nat} {z : Value} {xs : List Value}, W.ownsRow B 29 4 z m xs → w3.ownsRow B 29 4 z m xs := fun {B m z xs} hz => (hz.alloc _).kept g2 (rows_apart hz h1 (by decide))
  refine ⟨⟨vs ++ [u], w3.heap.size, by rw [List.length_append, hn]; exact g1, Nat.le_trans hs hsz, Nat.le_refl _, fun i q hq => ?_, World.ownsRow_nil _ _ _ _⟩, hA.grown g2 (by simp; omega) (fun k e => (h1.lt k e).1)⟩
  by_cases hi : i < n
  · rw [List.getElem?_append_left (by omega)] at hq
    obtain ⟨z, e1, e2, e3⟩ := h4 i q hq
    refine ⟨z, by rw [List.getElem?_append_left (by omega)]; exact e1, keep e2, fun g e => ?_⟩
    have := (e2.lt g e).2
    omega
  · have hin : i = n := by have := (List.getElem?_eq_some_iff.1 hq).1; simp at this; omega
    subst hin
    rw [List.getElem?_append_right (by omega)] at hq ⊢
    rw [hn, Nat.sub_self] at hq
    rw [hvs, Nat.sub_self]
    simp at hq
    subst hq
    refine ⟨u, rfl, ?_, fun g e => ?_⟩
    · have := keep h5
      rw [hp]
      rcases this with ⟨k1, k2 | ⟨g, cap, cur, k2, k3, k4⟩⟩
      · exact ⟨k1, Or.inl k2⟩
      · exact ⟨k1, Or.inr ⟨g, cap, cur, k2, Nat.le_trans h2 k3, k4⟩⟩
    · have := (h5.lt g e).2
      omega
/-! ### As lists -/
/-- One key's versions more. -/
def refStep (most : Int) (st : List (List Cl) × List Cl) (k : List Cl) : List (List Cl) × List Cl := if st.2.length ≠ 0 ∧ most < wrap64 (wtI st.2 + wtI k) then (st.1 ++ [st.2], k) else (st.1, st.2 ++ k)
def refP (l : List Cl) (most : Int) (pre : List (Nat × Nat)) : List (List Cl) × List Cl := pre.foldl (fun st y => refStep most st (cutL l y)) ([], [])
theorem refP_snoc (l : List Cl) (most : Int) (pre : List (Nat × Nat)) (y : Nat × Nat) : refP l most (pre ++ [y]) = refStep most (refP l most pre) (cutL l y) := by simp [refP]
/-- What the twin's Cut tells. -/
def cutQ (l : List Cl) (most : Int) : List (List Cl) := if most < 1 then [] else if (refP l most (allG l)).2.length = 0 then (refP l most (allG l)).1 else (refP l most (allG l)).1 ++ [(refP l most (allG l)).2]
/-- The bytes of cells. -/
def wN (l : List Cl) : Nat := (l.map (fun c => c.key.size + c.val.size + 16)).sum
theorem wN_app (a b : List Cl) : wN (a ++ b) = wN a + wN b := by simp [wN]
theorem wt_fold : ∀ (l : List Cl) (s : Nat), s + wN l < 4000000000000000000 → l.foldl wtStep (s : Int) = ((s + wN l : Nat) : Int)
  | [], s, _ => by simp [wN]
  | c :: l, s, h => by
    have hw : wN (c :: l) = c.key.size + c.val.size + 16 + wN l := by simp [wN]
    rw [hw] at h
    have e : wtStep (s : Int) c = ((s + (c.key.size + c.val.size + 16) : Nat) : Int) := by
      unfold wtStep wrap64
      omega
    rw [List.foldl_cons, e, wt_fold l _ (by omega), hw]
    omega
theorem wtI_nat {l : List Cl} (h : wN l < 4000000000000000000) : wtI l = (wN l : Int) := by
  have := wt_fold l 0 (by omega)
  rw [wtI]
  simpa using this
end Go.Proofs.Ytohamjoiohfoiab
