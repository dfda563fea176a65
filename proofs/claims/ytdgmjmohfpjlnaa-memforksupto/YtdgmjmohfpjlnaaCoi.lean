/-
  Collecting in one of several variables.
-/
import Derived.Test.YtdgmjmohfpjlnaaLes
namespace Go.Proofs.Ytdgmjmohfpjlnaa
open Go.RowKit Go.Shelf
/-- A collecting loop's rounds: the variable, and what else is kept. -/
structure CoI (s : Nat) (w : World) (t z M : Nat) (ob : Nat → Prop) (L : List Cl) (W0 W : World) : Prop where
  col : ColM s w t z M ob L W
  kept : ∀ q, ob q → W.heap[q]? = W0.heap[q]?
  size : W0.heap.size ≤ W.heap.size
theorem coI_own {s : Nat} {w : World} {t z M : Nat} {ob : Nat → Prop} {L : List Cl → List Cl} {W0 : World} (hs : s ≤ w.heap.size) (hB : s ≤ W0.heap.size) (hob : ∀ q, ob q → q < W0.heap.size) : OwnFrom W0.heap.size (fun pre W => CoI s w t z M ob (L pre) W0 W) := by
  rintro pre A A' row ⟨h1, h2, h3⟩ hg hr
  refine ⟨col_own (L := L) hs hB pre A A' row h1 hg hr, fun q hq => ?_, Nat.le_trans h3 hg.size⟩
  refine (hg.block q (Nat.lt_of_lt_of_le (hob q hq) h3) (fun e => ?_)).trans (h2 q hq)
  have := (hr q e.symm).1
  have := hob q hq
  omega
theorem coI_step {s : Nat} {w W W2 W0 : World} {t z M : Nat} {ob ob' : Nat → Prop} {L : List Cl} {c : Cl} (h2 : ∀ q, ob q → W.heap[q]? = W0.heap[q]?) (h3 : W0.heap.size ≤ W.heap.size) (hsub : ∀ q, ob' q → ob q)
    (h : KeepsOthers W W2 ∧ KpM ob z M W W2 ∧ ColM s w t z M ob (L ++ [c]) W2 ∧ ∀ x tx vx, Boxed W x tx vx → x ≠ t → tx ≠ 33 → Boxed W2 x tx vx) (B : Nat) :
    KeepsFrom B W W2 ∧ KpM ob' z M W W2 ∧ CoI s w t z M ob (L ++ [c]) W0 W2 :=
  ⟨h.1.from B, fun q hq => h.2.1 q (by rcases hq with hq | hq; exact .inl (hsub q hq); exact .inr hq), h.2.2.1, fun q hq => (h.2.1 q (.inl hq)).trans (h2 q hq), Nat.le_trans h3 h.1.size⟩
theorem three_new (W : World) (p : Option Addr) (a c : ByteArray) (V : World) (h : V = ((W.alloc (.cells #[.pointer p] 23)).alloc (.cells #[.string a] 9)).alloc (.cells #[.string c] 9)) :
    Below W.heap.size W V ∧ Boxed V W.heap.size 23 (.pointer p) ∧ Boxed V (W.heap.size + 1) 9 (.string a) ∧ Boxed V (W.heap.size + 2) 9 (.string c) ∧ V.heap.size = W.heap.size + 3 := by
  obtain ⟨A3, e3⟩ : ∃ A, W.alloc (.cells #[.pointer p] 23) = A := ⟨_, rfl⟩
  obtain ⟨A4, e4⟩ : ∃ A, A3.alloc (.cells #[.string a] 9) = A := ⟨_, rfl⟩
  rw [e3, e4] at h
  have s3 : A3.heap.size = W.heap.size + 1 := by rw [← e3]; simp
  have s4 : A4.heap.size = W.heap.size + 2 := by rw [← e4]; simp; omega
  have b3 : Boxed A3 W.heap.size 23 (.pointer p) := by rw [← e3]; exact Boxed.new _ _ _
  have b4 : Boxed A4 (W.heap.size + 1) 9 (.string a) := by rw [← e4, ← s3]; exact Boxed.new _ _ _
  have b5 : Boxed V (W.heap.size + 2) 9 (.string c) := by rw [h, ← s4]; exact Boxed.new _ _ _
  have a4 : ∀ {x t v}, Boxed A3 x t v → Boxed A4 x t v := fun h => by rw [← e4]; exact h.alloc _
  have a5 : ∀ {x t v}, Boxed A4 x t v → Boxed V x t v := fun h' => by rw [h]; exact h'.alloc _
  refine ⟨?_, a5 (a4 b3), a5 b4, b5, by rw [h]; simp; omega⟩
  rw [h, ← e4, ← e3]
  exact (((Below.refl _ W).alloc (Nat.le_refl _) _).alloc (by simp) _).alloc (by simp; omega) _
theorem three_boxes (wr : World) (p : Option Addr) (a c : ByteArray) (V : World) (h : V = ((((wr.alloc (.cells #[.slice none 0 0] 27)).alloc (.cells #[.slice none 0 0] 27)).alloc (.cells #[.pointer p] 23)).alloc (.cells #[.string a] 9)).alloc (.cells #[.string c] 9)) :
    Below wr.heap.size wr V ∧ Boxed V wr.heap.size 27 (.slice none 0 0) ∧ Boxed V (wr.heap.size + 1) 27 (.slice none 0 0) ∧ Boxed V (wr.heap.size + 2) 23 (.pointer p) ∧ Boxed V (wr.heap.size + 3) 9 (.string a) ∧ Boxed V (wr.heap.size + 4) 9 (.string c) ∧ V.heap.size = wr.heap.size + 5 := by
  obtain ⟨A1, e1⟩ : ∃ A, wr.alloc (.cells #[.slice none 0 0] 27) = A := ⟨_, rfl⟩
  obtain ⟨A2, e2⟩ : ∃ A, A1.alloc (.cells #[.slice none 0 0] 27) = A := ⟨_, rfl⟩
  rw [e1, e2] at h
  have s1 : A1.heap.size = wr.heap.size + 1 := by rw [← e1]; simp
  have s2 : A2.heap.size = wr.heap.size + 2 := by rw [← e2]; simp; omega
  have b1 : Boxed A1 wr.heap.size 27 (.slice none 0 0) := by rw [← e1]; exact Boxed.new _ _ _
  have b2 : Boxed A2 (wr.heap.size + 1) 27 (.slice none 0 0) := by rw [← e2, ← s1]; exact Boxed.new _ _ _
  have a2 : ∀ {x t v}, Boxed A1 x t v → Boxed A2 x t v := fun h => by rw [← e2]; exact h.alloc _
  obtain ⟨h1, h2, h3, h4, h5⟩ := three_new A2 p a c V h
  rw [s2] at h2 h3 h4 h5
  refine ⟨?_, (h1.block _ (by omega)).trans (a2 b1), (h1.block _ (by omega)).trans b2, h2, h3, h4, by omega⟩
  refine Below.trans ?_ (h1.mono (by omega))
  rw [← e2, ← e1]
  exact ((Below.refl _ wr).alloc (Nat.le_refl _) _).alloc (by simp) _
/-- A row's own block is none that is known to be another thing. -/
theorem row_not {W : World} {s n : Nat} {v : Value} {xs : List Value} (h : W.ownsRow s 33 4 v n xs) {q : Nat} {o : Obj} (ho : W.heap[q]? = some o) (hne : ∀ c f, o ≠ .cells c 33 f) : ∀ g, v.ownBlock = some g → g ≠ q := by
  intro g hg e
  rcases h.2 with ⟨ev, _⟩ | ⟨g', cap, cur, ev, _, hh, _⟩
  · rw [ev] at hg; cases hg
  · rw [ev] at hg
    simp only [Value.ownBlock, Option.some.injEq] at hg
    rw [hg, e, ho] at hh
    cases hh
    exact hne _ _ rfl
/-- A row's own block is none of a table's. -/
theorem row_table {W : World} {s n B g b cap : Nat} {st : St} {v : Value} {xs : List Value} (h : W.ownsRow s 33 4 v n xs) (hM : MA B W g b cap st) : ∀ q, v.ownBlock = some q → q ≠ g ∧ q ≠ b := by
  intro q hq
  refine ⟨row_not h hM.blk (fun c f e => by simp at e) q hq, ?_⟩
  rcases hM.row.2 with ⟨ev, _⟩ | ⟨g', cp, cur, ev, _, hh, _⟩
  · cases ev
  · have e1 : b = g' := by
      injection ev with h1 h2 h3
      injection h1 with h1
      injection h1
    exact row_not h (q := b) (by rw [e1]; exact hh) (fun c f e => by simp at e) q hq
end Go.Proofs.Ytdgmjmohfpjlnaa
