/-
  What is collected in a variable by one who ranges over keys.
-/
import Derived.Test.YtohamjoiohfoiaaGroups
import Derived.Shelf.Abstract
import Derived.BigRegionIn
namespace Go.Proofs.Ytohamjoiohfoiaa
open Go.RowKit Go.Shelf
attribute [local go_sem] Oper.semAt_some
theorem info24 : (Try.prog.info? 24).map (fun i => (i.zero, i.size, i.bytes)) = some (some (.agg #[.string ByteArray.empty, .int .u64 0, .string ByteArray.empty, .bool false]), 4, 48) := by kernel_rfl
/-- What is seen of a key's versions. -/
def pickV (vs : List Cl) (seq : Nat) : List Cl := match vs[newN vs seq]? with
  | some c => if c.gone then [] else [c]
  | none => []
def visP (l : List Cl) (seq : Nat) (pre : List (Nat × Nat)) : List Cl := pre.flatMap (fun y => pickV (cutL l y) seq)
theorem visP_snoc (l : List Cl) (seq : Nat) (pre : List (Nat × Nat)) (y : Nat × Nat) : visP l seq (pre ++ [y]) = visP l seq pre ++ pickV (cutL l y) seq := by simp [visP]
theorem flC_app (a b : List Cl) : flC (a ++ b) = flC a ++ flC b := by simp [flC]
theorem owns_same {W W' : World} {base : Nat} {e : TypeId} {size : Nat} {v : Value} {n : Nat} {xs : List Value} (h : W.ownsRow base e size v n xs) (k : ∀ g, v.ownBlock = some g → W'.heap[g]? = W.heap[g]?) : W'.ownsRow base e size v n xs := by
  rcases h with ⟨h1, ⟨hv, h0⟩ | ⟨g, cap, cur, hv, hB, hh, hr⟩⟩
  · exact ⟨h1, Or.inl ⟨hv, h0⟩⟩
  · exact ⟨h1, Or.inr ⟨g, cap, cur, hv, hB, (k g (by rw [hv]; rfl)).trans hh, hr⟩⟩
theorem own_block {W W' : World} {row : Option Nat} {k : Nat} {c : Array Value} {t : TypeId} {f : Nat × Nat} {B : Nat} (h : W.heap[k]? = some (.cells c t f)) (hg : W.grownBy W' row) (hr : ∀ r, row = some r → B ≤ r ∧ ∃ o : Obj, W.heap[r]? = some o ∧ o.isCells = false) : W'.heap[k]? = W.heap[k]? := by
  refine hg.block k (Array.getElem?_eq_some_iff.1 h).1 (fun e => ?_)
  obtain ⟨_, o, ho, hn⟩ := hr k e.symm
  rw [h] at ho
  cases ho
  cases hn
theorem row_form4 {W : World} {B n size : Nat} {e : TypeId} {v : Value} {xs : List Value} (h : W.ownsRow B e size v n xs) : ∃ a c, v = .slice a n c := by
  rcases h.2 with ⟨rfl, h0⟩ | ⟨g, cap', cur, rfl, _⟩
  · exact ⟨none, 0, by rw [h0]⟩
  · exact ⟨_, _, rfl⟩
/-- What the loop holds: a variable with what has been collected. -/
structure ColI (w : World) (s t : Nat) (L : List Cl) (W : World) : Prop where
  col : ∃ v, Boxed W t 25 v ∧ W.ownsRow s 24 4 v L.length (flC L)
  bel : Below s w W
theorem col_rk {w : World} {s t z : Nat} {ob : Option Nat} {L : List Cl} (hs : s ≤ w.heap.size) (hz : s ≤ z) (ht : t < z) {A B : World} (h : ColI w s t L A) (k : RkC z ob A B) : ColI w s t L B := by
  obtain ⟨⟨v, hv, hr⟩, hb⟩ := h
  refine ⟨⟨v, k.block t _ hv (Or.inl ht), owns_same hr (fun g hg => ?_)⟩, ⟨k.os.trans hb.os, k.tape.trans hb.tape, k.output.trans hb.output, Nat.le_trans hb.size k.size, fun b hb2 => ?_⟩⟩
  · rcases hr.2 with ⟨ev, _⟩ | ⟨g', cap, cur, ev, _, hh, _⟩
    · rw [ev] at hg; cases hg
    · rw [ev] at hg
      simp only [Value.ownBlock, Option.some.injEq] at hg
      subst hg
      rw [k.block g' _ hh (Or.inr (by rintro ⟨bl, off, m, c, f, e1, e2⟩; simp at e2)), hh]
  · have hlt : b < A.heap.size := by have := hb.size; omega
    exact (k.block b _ (Array.getElem?_eq_getElem hlt) (Or.inl (by omega))).trans ((Array.getElem?_eq_getElem hlt).symm.trans (hb.block b hb2))
theorem col_own {w : World} {s t B : Nat} {L : List (Nat × Nat) → List Cl} (hs : s ≤ w.heap.size) (hB : s ≤ B) : OwnFrom B (fun pre W => ColI w s t (L pre) W) := by
  rintro pre A A' row ⟨⟨v, hv, hr⟩, hb⟩ hg hrow
  refine ⟨⟨v, (own_block hv hg hrow).trans hv, ?_⟩, hb.grown hg (Nat.le_trans hs hb.size) (fun k e => Nat.le_trans hB (hrow k e).1)⟩
  rcases hr.2 with ⟨rfl, _⟩ | ⟨g', cap, cur, rfl, _, hh, _⟩
  · exact owns_same hr (fun g hg => by cases hg)
  · exact owns_same hr (fun g hg' => by
      simp only [Value.ownBlock, Option.some.injEq] at hg'
      subst hg'
      exact own_block hh hg hrow)
theorem col_below {w : World} {s t : Nat} {L : List Cl} (hs : s ≤ w.heap.size) {A B : World} (h : ColI w s t L A) (k : Below A.heap.size A B) : ColI w s t L B := by
  obtain ⟨⟨v, hv, hr⟩, hb⟩ := h
  exact ⟨⟨v, (k.block t hv.lt).trans hv, owns_same hr (fun g e => k.block g (hr.lt g e).2)⟩, hb.trans (k.mono (Nat.le_trans hs hb.size))⟩
theorem KcC.of_below {ob : Option Nat} {A B : World} (k : Below A.heap.size A B) : KcC ob A B := ⟨k.size, fun bl _ _ ho _ => (k.block bl (Array.getElem?_eq_some_iff.1 ho).1).trans ho, fun j _ ho _ => (k.block j (Array.getElem?_eq_some_iff.1 ho).1).trans ho⟩
theorem others_below {A B : World} (k : Below A.heap.size A B) : KeepsOthers A B := ⟨k.size, fun j _ ho _ => (k.block j (Array.getElem?_eq_some_iff.1 ho).1).trans ho⟩
theorem flC_len (l : List Cl) : (flC l).length = l.length * 4 := by
  induction l with
  | nil => rfl
  | cons c l ih => rw [show c :: l = [c] ++ l from rfl, flC_app, List.length_append, ih, List.length_append, List.length_singleton]; simp [flC, clL]; omega
theorem clL_one (c : Cl) : ∀ u ∈ clL c, u.oneCell' = true := by
  intro u hu
  simp only [clL, List.mem_cons, List.not_mem_nil, or_false] at hu
  rcases hu with rfl | rfl | rfl | rfl <;> simp [Value.oneCell']
theorem flC_one (l : List Cl) : ∀ u ∈ flC l, u.oneCell' = true := by
  intro u hu
  obtain ⟨c, _, hc⟩ := List.mem_flatMap.1 hu
  exact clL_one c u hc
/-- Cells behind those that have been collected, in the variable. -/
theorem col_step {w W V w3 : World} {s t n m : Nat} {ob : Option Nat} {L cs : List Cl} {v v2 : Value} {X : World} (hs : s ≤ w.heap.size) (hob : ∀ b, ob = some b → b < s) (ht : s ≤ t) (hL : L.length = n) (hm : cs.length = m) (kV : Below W.heap.size W V) (hbW : Boxed W t 25 v) (hrW : W.ownsRow s 24 4 v n (flC L)) (hbel : Below s w W)
    (kX : Below V.heap.size V X) (hown2 : w3.ownsRow s 24 4 v2 (n + m) (flC L ++ flC cs)) (hg2 : X.grownBy w3 v.ownBlock) :
    ∃ a2 c2, v2 = .slice a2 (n + m) c2 ∧ w3.cell? ⟨t, 0, none⟩ = some v ∧ w3.frozen? ⟨t, 0, none⟩ = false ∧
      Hid (KeepsOthers W (w3.setCell ⟨t, 0, none⟩ v2) ∧ KcC ob W (w3.setCell ⟨t, 0, none⟩ v2) ∧ ColI w s t (L ++ cs) (w3.setCell ⟨t, 0, none⟩ v2) ∧ ∀ x tx vx, Boxed W x tx vx → x ≠ t → tx ≠ 24 → Boxed (w3.setCell ⟨t, 0, none⟩ v2) x tx vx) := by
  have kWX : Below W.heap.size W X := kV.trans (kX.mono kV.size)
  have hvX : Boxed X t 25 v := (kWX.block t hbW.lt).trans hbW
  have hrX : X.ownsRow s 24 4 v n (flC L) := owns_same hrW (fun g e => kWX.block g (hrW.lt g e).2)
  have hv3 : Boxed w3 t 25 v := hvX.kept hg2 (hvX.not_row (by decide) hrX)
  obtain ⟨a2, c2, e2⟩ := row_form4 hown2
  have keep : ∀ (k : Nat) (o : Obj), W.heap[k]? = some o → k ≠ t → (∀ c f, o ≠ .cells c 24 f) → (w3.setCell ⟨t, 0, none⟩ v2).heap[k]? = some o := fun k o ho hkt hn => by
    have h1 : X.heap[k]? = some o := (kWX.block k (Array.getElem?_eq_some_iff.1 ho).1).trans ho
    have h2 : w3.heap[k]? = X.heap[k]? := hg2.block k (Array.getElem?_eq_some_iff.1 h1).1 (fun e => by
      rcases hrX.2 with ⟨ev, _⟩ | ⟨g, cap, cur, ev, _, hh, _⟩
      · rw [ev] at e; cases e
      · rw [ev] at e
        simp only [Value.ownBlock, Option.some.injEq] at e
        rw [e, hh] at h1
        cases h1
        exact hn _ _ rfl)
    exact (Below.heap_setCell _ _ _ k (fun e => hkt e)).trans (h2.trans h1)
  have nb : ¬ BoxOf ob (.cells #[v] 25 (0, 0)) := by
    rintro ⟨bl, off, m', c, f, e1, e2⟩
    simp only [Obj.cells.injEq] at e2
    obtain ⟨e2, _⟩ := e2
    have e3 : v = .slice (some ⟨bl, off, none⟩) m' c := by simpa using e2
    rcases hrW.2 with ⟨ev, _⟩ | ⟨g, cap, cur, ev, hg, _⟩
    · rw [ev] at e3; cases e3
    · rw [ev] at e3
      simp only [Value.slice.injEq, Option.some.injEq, Addr.mk.injEq] at e3
      have := hob bl e1
      omega
  have hsz : W.heap.size ≤ (w3.setCell ⟨t, 0, none⟩ v2).heap.size := by
    have h1 := kWX.size
    have h2 := hg2.size
    have h3 := (KeepsWalks.setCell w3 ⟨t, 0, none⟩ v2).size
    omega
  have hbZ : Below s W (w3.setCell ⟨t, 0, none⟩ v2) := by
    have hsW : s ≤ W.heap.size := Nat.le_trans hs hbel.size
    have hsX : s ≤ X.heap.size := Nat.le_trans hsW kWX.size
    refine (((kWX.mono hsW).trans (((Below.refl s X).grown hg2 hsX (fun j ej => ?_))))).setCell (p := ⟨t, 0, none⟩) ht v2
    exact (hrX.lt j ej).1
  refine ⟨a2, c2, e2, hv3.cell, hv3.frozen, ⟨hsz, fun k o ho hc => keep k o ho (fun e => ?_) (fun c f e => ?_)⟩, ⟨hsz, fun bl o e ho hc => ?_, fun k o ho hb => keep k o ho (fun e => ?_) (fun c f e => ?_)⟩, ⟨⟨v2, hv3.set v2, ?_⟩, hbel.trans hbZ⟩, fun x tx vx hx hxt htx => keep x _ hx hxt (fun c f e => ?_)⟩
  · rw [e, hbW] at ho; cases ho; cases hc
  · rw [e] at hc; cases hc
  · exact (hbZ.block bl (hob bl e)).trans ho
  · rw [e, hbW] at ho; cases ho; exact nb hb
  · obtain ⟨_, _, _, _, _, _, e'⟩ := hb
    rw [e'] at e; simp at e
  · rw [List.length_append, hL, hm, flC_app]
    exact owns_same hown2 (fun g hg => Below.heap_setCell _ _ _ g (fun e => hv3.not_row (by decide) hown2 (by rw [hg]; exact congrArg some e.symm)))
  · simp only [Obj.cells.injEq] at e; exact htx e.2.1
/-- append, as one step of a region that draws, inside a fence. -/
theorem stepIn_append_own {F : Fence} {fn : Nat} {P : Program} {ops : Array Oper} {o : Oper} {a : Act} {w : World} {K : Act → World → Prop} {Q : Exit → Act → World → Prop} {E : Prop}
    (hg : o.guard = none) (s x : Operand) (t : TypeId) (hop : o.op = Op.call { callee := Callee.builtin Builtin.append, args := #[s, x], argTypes := #[t, t] })
    (base : Nat) (e : TypeId) (i : TypeInfo) (z : Value) (size bytes : Nat) (h1 : P.underlying t = some (.slice e)) (h2 : P.info? e = some i) (h3 : i.zero = some z) (h4 : i.size = size) (h5 : i.bytes = bytes) (h6 : z.cells.size = size) (h7 : 0 < size)
    (v : Value) (k : Nat) (xs : List Value) (hs : a.eval s = v) (hown : w.ownsRow base e size v k xs) (ad : Addr) (m c : Nat) (news : List Value) (hx : a.eval x = .slice (some ad) m c) (hn : news.length = m * size)
    (hc : ∀ j u, news[j]? = some u → w.cell? (ad.add j) = some u) (h1c : ∀ u ∈ news, u.oneCell' = true) (b1 : k + m ≤ maxLen) (b2 : (k + m) * bytes ≤ 140737488355328) (b3 : base ≤ w.heap.size)
    (hK : ∀ v' w', w'.ownsRow base e size v' (k + m) (xs ++ news) → w.grownBy w' v.ownBlock → K (a.put o.dst v') w') :
    if Region.wanted o (yielded ops a.tmps) = true then Oper.wpIn F fn P o a w K Q else E := by
  have hw : Region.wanted o (yielded ops a.tmps) = true := by simp [Region.wanted, hg]
  rw [if_pos hw]
  obtain ⟨v', w', hrun, r1, r2, r3⟩ := run_append_own (P := P) w base t o.type e i z size bytes h1 h2 h3 h4 h5 h6 h7 v k xs hown ad m c news hn hc h1c b1 b2 b3
  unfold Oper.wpIn
  refine ⟨?_, ?_⟩
  · simp [Oper.about, hop, resolve, Target.leads, Sem.run_pure]
  · rw [Oper.semAt_plain F _ _ (by rw [hop]; intro c hc'; cases hc')]
    simp [execOp, hop, resolve, invoke, builtin, hs, hx, hrun, Result.andThen]
    exact hK v' w' r1 r2
end Go.Proofs.Ytohamjoiohfoiaa
