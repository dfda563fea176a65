/-
  Whether an iterator goes over the cells that it should.
-/
import Derived.Test.YtohamjoiohfoiaaCalls
import Derived.LoopNIn
namespace Go.Proofs.Ytohamjoiohfoiaa
open Go.RowKit
attribute [local go_sem] Oper.semAt_some
theorem boxed_cell {W : World} {B : Nat} {t : TypeId} {v : Value} (h : Boxed W B t v) : W.cell? ⟨B, 0, none⟩ = some v := by have := cells_of_block h 0; simpa using this
theorem boxed_frozen {W : World} {B : Nat} {t : TypeId} {v : Value} (h : Boxed W B t v) : W.frozen? ⟨B, 0, none⟩ = false := by simp [World.frozen?, show W.heap[B]? = _ from h]
theorem boxed_below {W W' : World} {B N : Nat} {t : TypeId} {v : Value} (h : Boxed W B t v) (k : Below N W W') (hN : B < N) : Boxed W' B t v := (k.block B hN).trans h
theorem own_of_below {α : Type} {z : Nat} {I : α → World → Prop} (hs : ∀ x A, I x A → z ≤ A.heap.size) (h : ∀ x A B, I x A → Below z A B → I x B) : OwnFrom z I := fun x X Y _ hi hg hr =>
  h x X Y hi ((Below.refl z X).grown hg (hs x X hi) (fun k e => (hr k e).1))
theorem wpIn_rangeFunc_boxes2 {F : Fence} {n : Nat} {P : Program} {α : Type} {g : Operand} {ps : Array Tmp} {assign body : Code} {Q : Exit → Act → World → Prop} {a : Act} {w : World}
    (hro : F.round = none) (h1 : 1 ≤ n) {gf : Nat} {pa lb : Array Value} (hg : a.eval g = .func (.func gf) pa lb) (hFg : F.fn gf) (eg : ∀ args w, (callFunc gf args).run P w = .ok (.enter gf args) w)
    {encs : α → Array Value} {Rk Kc : World → World → Prop} (hRk : ∀ A B, Rk A B → KeepsOthers A B) (hKt : ∀ A B C, Kc A B → Kc B C → Kc A C) (hKp : ∀ (A : World) (l : Nat) (o o' : Obj), A.heap[l]? = some o → o.isCells = false → Kc A (A.putObj l o')) {Pr : List α → α → Prop} {S Sp : List α → Prop} (hseq : ∀ o, SeqK F (n - 1) P gf pa lb encs Rk Kc Pr S Sp ((w.alloc (.deferred (some []))).alloc o))
    (hps : ∀ x, (encs x).size = ps.size)
    (I : List α → World → Prop) (Ix : Code → List α → World → Prop) (hI : OwnFrom w.heap.size I) (hIx : ∀ c, OwnFrom w.heap.size (Ix c))
    (hIR : ∀ s A B, I s A → Rk A B → I s B) (hIxR : ∀ c s A B, Ix c s A → Rk A B → Ix c s B) (h0 : I [] w) (hKa : ∀ (A : World) (o : Obj), Kc A (A.alloc o)) (ob : α → Obj) (a₁ : α → Nat → Act)
    (hassign : ∀ (l : Nat) (x : α) (W : World) (A : Nat), W.heap.size = A → ∀ (K : Act → World → Prop), K (a₁ x A) (W.alloc (ob x)) →
      assign.wpIn (F.inRound l) (n - 1 - 1) P (Exit.then K (fun _ _ _ => False)) { tmps := (ps.zip (encs x)).foldl (fun t (p, v) => t.setIfInBounds p v) a.tmps, defers := [] } W)
    (hbody : ∀ (l : Nat) (pre : List α) (x : α) (A : Nat) (W : World), I pre W → Pr pre x → W.heap[A]? = some (ob x) → body.wpIn (F.inRound l) (n - 1 - 1) P (ownPostK Kc I Ix (pre ++ [x]) W) (a₁ x A) W)
    (hdone : ∀ (D : Nat) (xs : List α) (W : World), w.heap.size ≤ D → S xs → I xs W → W.heap[D]? = some (.deferred (some [])) → Q .normal { a with defers := { target := .collected D, args := #[] } :: a.defers } W)
    (hstop : ∀ (D : Nat) (c : Code) (pre : List α) (W : World), w.heap.size ≤ D → Sp pre → Ix c pre W → W.heap[D]? = some (.deferred (some [])) → c.wpIn F n P Q { a with defers := { target := .collected D, args := #[] } :: a.defers } W) :
    (Code.rangeFunc g ps assign body).wpIn F n P Q a w :=
  wpIn_rangeFunc_boxes hro h1 hg hFg eg hRk hKt hKp hseq hps I Ix hI hIx hIR hIxR h0 hKa ob a₁ (fun l x W K hK => hassign l x W _ rfl K hK) hbody hdone hstop
/-- What a round over the cells holds on to. -/
structure GI (w : World) (s z b7 b8 k : Nat) (ds : List Nat) (xa : Option Addr) (n xc : Nat) (st : Int) (pre : List Cl) (W : World) : Prop where
  bel : Below s w W
  sz : z ≤ W.heap.size
  q4 : Boxed W s 25 (.slice xa n xc)
  q5 : Boxed W (s + 1) 3 (.int .i64 st)
  q6 : Boxed W (s + 2) 4 (.bool false)
  q7 : Boxed W b7 3 (.int .i64 (k : Nat))
  q8 : Boxed W b8 3 (.int .i64 (pre.length : Nat))
  dq : ∀ D ∈ ds, s ≤ D ∧ D < b7 ∧ W.heap[D]? = some (.deferred (some []))
structure GL (s z b7 b8 : Nat) : Prop where
  h0 : s + 3 ≤ b7
  h1 : b7 < b8
  h2 : b8 < z
section
variable {w W W' : World} {s z b7 b8 k : Nat} {ds : List Nat} {xa : Option Addr} {n xc : Nat} {st : Int} {pre : List Cl}
theorem GI.below (h : GI w s z b7 b8 k ds xa n xc st pre W) (hk : Below z W W') (hL : GL s z b7 b8) : GI w s z b7 b8 k ds xa n xc st pre W' := by
  have h0 := hL.h0
  have h1 := hL.h1
  have h2 := hL.h2
  refine ⟨h.bel.trans (hk.mono (by omega)), Nat.le_trans h.sz hk.size, boxed_below h.q4 hk (by omega), boxed_below h.q5 hk (by omega), boxed_below h.q6 hk (by omega), boxed_below h.q7 hk (by omega), boxed_below h.q8 hk (by omega), fun D hD => ?_⟩
  obtain ⟨e1, e2, e3⟩ := h.dq D hD
  exact ⟨e1, e2, (hk.block D (by omega)).trans e3⟩
theorem GI.rk (h : GI w s z b7 b8 k ds xa n xc st pre W) (hk : RkM s W W') (hs : s ≤ W.heap.size) : GI w s z b7 b8 k ds xa n xc st pre W' := by
  have keep : ∀ {j : Nat} {o : Obj}, W.heap[j]? = some o → (∀ c f, o ≠ .cells c 69 f) ∧ (∀ c f, o ≠ .cells c 72 f) → W'.heap[j]? = some o := fun {j o} ho hn => hk.block j o ho (Or.inr hn)
  have box : ∀ {j : Nat} {t : TypeId} {v : Value}, Boxed W j t v → t ≠ 69 → t ≠ 72 → Boxed W' j t v := fun {j t v} hb h1 h2 => keep hb ⟨fun c f e => by simp only [Obj.cells.injEq] at e; exact h1 e.2.1, fun c f e => by simp only [Obj.cells.injEq] at e; exact h2 e.2.1⟩
  refine { bel := h.bel.trans ⟨hk.os, hk.tape, hk.output, hk.size, fun j hj => ?_⟩, sz := Nat.le_trans h.sz hk.size, q4 := box h.q4 (by decide) (by decide), q5 := box h.q5 (by decide) (by decide), q6 := box h.q6 (by decide) (by decide), q7 := box h.q7 (by decide) (by decide), q8 := box h.q8 (by decide) (by decide), dq := fun D hD => ?_ }
  · have hlt : j < W.heap.size := by omega
    have ho := Array.getElem?_eq_getElem hlt
    rw [ho]
    exact hk.block j _ ho (Or.inl hj)
  · obtain ⟨e1, e2, e3⟩ := h.dq D hD
    exact ⟨e1, e2, keep e3 ⟨fun c f e => (by cases e), fun c f e => (by cases e)⟩⟩
theorem GI.step (h : GI w s z b7 b8 k ds xa n xc st pre W) (hL : GL s z b7 b8) (c : Cl) {m : Nat} (hm : pre.length = m) : GI w s z b7 b8 k ds xa n xc st (pre ++ [c]) (W.setCell ⟨b8, 0, none⟩ (.int .i64 ((m : Int) + 1))) := by
  have hb : Below b8 W (W.setCell ⟨b8, 0, none⟩ (.int .i64 ((m : Int) + 1))) := (Below.refl _ W).setCell (p := ⟨b8, 0, none⟩) (Nat.le_refl _) _
  have h0 := hL.h0
  have h1 := hL.h1
  refine ⟨h.bel.trans (hb.mono (by omega)), Nat.le_trans h.sz hb.size, boxed_below h.q4 hb (by omega), boxed_below h.q5 hb (by omega), boxed_below h.q6 hb (by omega), boxed_below h.q7 hb (by omega), ?_, fun D hD => ?_⟩
  · rw [List.length_append, hm]
    exact Boxed.set (.int .i64 ((m : Int) + 1)) h.q8
  · obtain ⟨e1, e2, e3⟩ := h.dq D hD
    exact ⟨e1, e2, (hb.block D (by omega)).trans e3⟩
theorem GI.kc (h : GI w s z b7 b8 k ds xa n xc st pre W) (hL : GL s z b7 b8) (v : Value) : KcM s W (W.setCell ⟨b8, 0, none⟩ v) := by
  have h0 := hL.h0
  have h1 := hL.h1
  refine ⟨(KeepsWalks.setCell W _ v).size, fun j o hj ho _ => (Below.heap_setCell _ _ _ j (by show j ≠ b8; omega)).trans ho, fun j c t f ho ht => (Below.heap_setCell _ _ _ j (fun e => ?_)).trans ho⟩
  have e' : j = b8 := e
  subst e'
  have := h.q8
  rw [show W.heap[j]? = some (.cells #[.int .i64 (pre.length : Nat)] 3 (0, 0)) from this] at ho
  simp only [Option.some.injEq, Obj.cells.injEq] at ho
  rcases ht with rfl | rfl
  · exact absurd ho.2.1 (by decide)
  · exact absurd ho.2.1 (by decide)
end
end Go.Proofs.Ytohamjoiohfoiaa
