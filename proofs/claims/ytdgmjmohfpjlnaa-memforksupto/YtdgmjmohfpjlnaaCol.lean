/-
  Cells in rows; what is collected in a variable by one who ranges.
-/
import Derived.Test.YtdgmjmohfpjlnaaScn
import Derived.Test.YtdgmjmohfpjlnaaRgb
import Derived.Test.YtdgmjmohfpjlnaaSnp
import Derived.Maps.OwnIn
namespace Go.Proofs.Ytdgmjmohfpjlnaa
open Go.RowKit Go.Shelf
attribute [local go_sem] Oper.semAt_some
theorem info33 : (Try.prog.info? 33).map (fun i => (i.zero, i.size, i.bytes)) = some (some (.agg #[.string ByteArray.empty, .int .u64 0, .string ByteArray.empty, .bool false]), 4, 48) := by kernel_rfl
def flC (l : List Cl) : List Value := l.flatMap clL
theorem flC_app (a b : List Cl) : flC (a ++ b) = flC a ++ flC b := by simp [flC]
theorem flC_cons (c : Cl) (l : List Cl) : flC (c :: l) = clL c ++ flC l := rfl
theorem flC_len (l : List Cl) : (flC l).length = l.length * 4 := by
  induction l with
  | nil => rfl
  | cons c l ih => rw [show c :: l = [c] ++ l from rfl, flC_app, List.length_append, ih, List.length_append, List.length_singleton]; simp [flC, clL]; omega
theorem addr_addC (b off j : Nat) : (⟨b, off, none⟩ : Addr).add j = ⟨b, off + j, none⟩ := by by_cases hi0 : j = 0 <;> simp [Addr.add, hi0]
theorem clL_one (c : Cl) : ∀ u ∈ clL c, u.oneCell' = true := by
  intro u hu
  simp only [clL, List.mem_cons, List.not_mem_nil, or_false] at hu
  rcases hu with rfl | rfl | rfl | rfl <;> simp [Value.oneCell']
theorem flC_get : ∀ {l : List Cl} {j : Nat} {c : Cl}, l[j]? = some c → ∀ i, i < 4 → (flC l)[j * 4 + i]? = (clL c)[i]?
  | [], j, c, h, _, _ => by simp at h
  | d :: l, 0, c, h, i, hi => by
    simp only [List.getElem?_cons_zero, Option.some.injEq] at h
    subst h
    rw [flC_cons, Nat.zero_mul, Nat.zero_add, List.getElem?_append_left (by simp [clL]; omega)]
  | d :: l, j + 1, c, h, i, hi => by
    rw [List.getElem?_cons_succ] at h
    rw [flC_cons, List.getElem?_append_right (by simp [clL]; omega), ← flC_get h i hi]
    congr 1
    simp [clL]
    omega
theorem ca_row {W : World} {B : Nat} {v : Value} {l : List Cl} (h : W.ownsRow B 33 4 v l.length (flC l)) : ∃ a c, v = .slice a l.length c ∧ l.length ≤ c ∧ CA W.heap.size W a l := by
  rcases h.2 with ⟨rfl, h0⟩ | ⟨g, cap, cur, rfl, hB, hh, hn, _⟩
  · have : l = [] := List.eq_nil_of_length_eq_zero h0
    subst this
    exact ⟨none, 0, rfl, Nat.le_refl _, fun j c h => (by simp at h)⟩
  · refine ⟨_, _, rfl, hn, fun j c hj => ⟨g, 0, rfl, (Array.getElem?_eq_some_iff.1 hh).1, ?_⟩⟩
    have hjl : j < l.length := (List.getElem?_eq_some_iff.1 hj).1
    refine ⟨?_, ?_, ?_, ?_⟩
    · have := h.cellAt (j * 4 + 0) (by omega)
      rw [flC_get hj 0 (by omega)] at this
      simpa [clL] using this
    · have := h.cellAt (j * 4 + 1) (by omega)
      rw [flC_get hj 1 (by omega)] at this
      simpa [clL] using this
    · have := h.cellAt (j * 4 + 2) (by omega)
      rw [flC_get hj 2 (by omega)] at this
      simpa [clL] using this
    · have := h.cellAt (j * 4 + 3) (by omega)
      rw [flC_get hj 3 (by omega)] at this
      simpa [clL] using this
theorem owns_same {W W' : World} {base : Nat} {e : TypeId} {size : Nat} {v : Value} {n : Nat} {xs : List Value} (h : W.ownsRow base e size v n xs) (k : ∀ g, v.ownBlock = some g → W'.heap[g]? = W.heap[g]?) : W'.ownsRow base e size v n xs := by
  rcases h with ⟨h1, ⟨hv, h0⟩ | ⟨g, cap, cur, hv, hB, hh, hr⟩⟩
  · exact ⟨h1, Or.inl ⟨hv, h0⟩⟩
  · exact ⟨h1, Or.inr ⟨g, cap, cur, hv, hB, (k g (by rw [hv]; rfl)).trans hh, hr⟩⟩
theorem own_block {W W' : World} {row : Option Nat} {k : Nat} {c : Array Value} {t : TypeId} {f : Nat × Nat} {B : Nat} (h : W.heap[k]? = some (.cells c t f)) (hg : W.grownBy W' row) (hr : ∀ r, row = some r → B ≤ r ∧ ∃ o : Obj, W.heap[r]? = some o ∧ o.isCells = false) : W'.heap[k]? = W.heap[k]? := by
  refine hg.block k (Array.getElem?_eq_some_iff.1 h).1 (fun e => ?_)
  obtain ⟨_, o, ho, hn⟩ := hr k e.symm
  rw [h] at ho
  cases ho
  cases hn
theorem row_form4 {W : World} {B n size : Nat} {e : TypeId} {v : Value} {xs : List Value} (h : W.ownsRow B e size v n xs) : ∃ a c, v = .slice a n c := by
  rcases h.2 with ⟨rfl, h0⟩ | ⟨g, cap', cur, rfl, _⟩
  · exact ⟨none, 0, by rw [h0]⟩
  · exact ⟨_, _, rfl⟩
/-- What the loop holds: a variable with what has been collected; its row lies ahead of the loop or behind the iterator's blocks. -/
structure ColM (s : Nat) (w : World) (t z M : Nat) (ob : Nat → Prop) (L : List Cl) (W : World) : Prop where
  col : ∃ v, Boxed W t 27 v ∧ W.ownsRow s 33 4 v L.length (flC L) ∧ ∀ g, v.ownBlock = some g → (g < z ∨ M ≤ g) ∧ ¬ ob g
  bel : Below s w W
  siz : M ≤ W.heap.size
theorem col_own {s : Nat} {w : World} {t z M B : Nat} {ob : Nat → Prop} {L : List Cl → List Cl} (hs : s ≤ w.heap.size) (hB : s ≤ B) : OwnFrom B (fun pre W => ColM s w t z M ob (L pre) W) := by
  rintro pre A A' row ⟨⟨v, hv, hr, hm⟩, hb, hz⟩ hg hrow
  refine ⟨⟨v, (own_block hv hg hrow).trans hv, ?_, hm⟩, hb.grown hg (Nat.le_trans hs hb.size) (fun k e => Nat.le_trans hB (hrow k e).1), Nat.le_trans hz hg.size⟩
  rcases hr.2 with ⟨rfl, _⟩ | ⟨g', cap, cur, rfl, _, hh, _⟩
  · exact owns_same hr (fun g hg => by cases hg)
  · exact owns_same hr (fun g hg' => by
      simp only [Value.ownBlock, Option.some.injEq] at hg'
      subst hg'
      exact own_block hh hg hrow)
/-- One cell more, in the variable. -/
theorem colM_step {s n : Nat} {w W w3 : World} {t z M : Nat} {ob : Nat → Prop} {L : List Cl} {c : Cl} {v v2 : Value} {X : World} (hs : s ≤ w.heap.size) (ht : s ≤ t) (htz : t < z) (hto : ¬ ob t) (hobz : ∀ q, ob q → q < z) (hL : L.length = n) (hzM : z ≤ M) (hM : M ≤ W.heap.size)
    (hv : Boxed W t 27 v) (hr : W.ownsRow s 33 4 v n (flC L)) (hm : ∀ g, v.ownBlock = some g → (g < z ∨ M ≤ g) ∧ ¬ ob g) (hbel : Below s w W)
    (kX : Below W.heap.size W X) (hown2 : w3.ownsRow s 33 4 v2 (n + 1) (flC L ++ clL c)) (hg2 : X.grownBy w3 v.ownBlock) (hat : v2.ownBlock = v.ownBlock ∨ v2.ownBlock = some X.heap.size) :
    ∃ a2 c2, v2 = .slice a2 (n + 1) c2 ∧ w3.cell? ⟨t, 0, none⟩ = some v ∧ w3.frozen? ⟨t, 0, none⟩ = false ∧
      Hid (KeepsOthers W (w3.setCell ⟨t, 0, none⟩ v2) ∧ KpM ob z M W (w3.setCell ⟨t, 0, none⟩ v2) ∧ ColM s w t z M ob (L ++ [c]) (w3.setCell ⟨t, 0, none⟩ v2) ∧ ∀ x tx vx, Boxed W x tx vx → x ≠ t → tx ≠ 33 → Boxed (w3.setCell ⟨t, 0, none⟩ v2) x tx vx) := by
  have hvX : Boxed X t 27 v := (kX.block t hv.lt).trans hv
  have hrX : X.ownsRow s 33 4 v n (flC L) := owns_same hr (fun g e => kX.block g (hr.lt g e).2)
  have hv3 : Boxed w3 t 27 v := hvX.kept hg2 (hvX.not_row (by decide) hrX)
  obtain ⟨a2, c2, e2⟩ := row_form4 hown2
  have far : ∀ (k : Nat), k < W.heap.size → k ≠ t → (∀ g, v.ownBlock = some g → k ≠ g) → (w3.setCell ⟨t, 0, none⟩ v2).heap[k]? = W.heap[k]? := fun k hk hkt hn => by
    have h2 : w3.heap[k]? = X.heap[k]? := hg2.block k (Nat.lt_of_lt_of_le hk kX.size) (fun e => hn k e.symm rfl)
    exact (Below.heap_setCell _ _ _ k (fun e => hkt e)).trans (h2.trans (kX.block k hk))
  have keep : ∀ (k : Nat) (o : Obj), W.heap[k]? = some o → k ≠ t → (∀ c f, o ≠ .cells c 33 f) → (w3.setCell ⟨t, 0, none⟩ v2).heap[k]? = some o := fun k o ho hkt hn => by
    refine (far k (Array.getElem?_eq_some_iff.1 ho).1 hkt (fun g hg e => ?_)).trans ho
    rcases hr.2 with ⟨ev, _⟩ | ⟨g', cap, cur, ev, _, hh, _⟩
    · rw [ev] at hg; cases hg
    · rw [ev] at hg
      simp only [Value.ownBlock, Option.some.injEq] at hg
      rw [e, ← hg, hh] at ho
      cases ho
      exact hn _ _ rfl
  have hsz : W.heap.size ≤ (w3.setCell ⟨t, 0, none⟩ v2).heap.size := by
    have h1 := kX.size
    have h2 := hg2.size
    have h3 := (KeepsWalks.setCell w3 ⟨t, 0, none⟩ v2).size
    omega
  have hbZ : Below s W (w3.setCell ⟨t, 0, none⟩ v2) := by
    have hsW : s ≤ W.heap.size := Nat.le_trans hs hbel.size
    have hsX : s ≤ X.heap.size := Nat.le_trans hsW kX.size
    refine (((kX.mono hsW).trans (((Below.refl s X).grown hg2 hsX (fun j ej => ?_))))).setCell (p := ⟨t, 0, none⟩) ht v2
    exact (hrX.lt j ej).1
  refine ⟨a2, c2, e2, hv3.cell, hv3.frozen, ⟨hsz, fun k o ho hc => keep k o ho (fun e => ?_) (fun c f e => ?_)⟩, fun q hq => ?_, ⟨⟨v2, hv3.set v2, ?_, fun g hg => ?_⟩, hbel.trans hbZ, Nat.le_trans hM hsz⟩, fun x tx vx hx hxt htx => keep x _ hx hxt (fun c f e => ?_)⟩
  · rw [e, hv] at ho; cases ho; cases hc
  · rw [e] at hc; cases hc
  · refine far q ?_ ?_ (fun g hg e => ?_)
    · rcases hq with hq | hq
      · have := hobz q hq; omega
      · omega
    · rcases hq with hq | hq
      · rintro rfl; exact hto hq
      · omega
    · obtain ⟨h1, h2⟩ := hm g hg
      rw [← e] at h1 h2
      rcases hq with hq | hq
      · exact h2 hq
      · omega
  · rw [List.length_append, hL, List.length_singleton, flC_app]
    have e1 : flC [c] = clL c := by simp [flC]
    rw [e1]
    exact owns_same hown2 (fun g hg => Below.heap_setCell _ _ _ g (fun e => hv3.not_row (by decide) hown2 (by rw [hg]; exact congrArg some e.symm)))
  · rcases hat with q | q
    · exact hm g (q ▸ hg)
    · rw [q] at hg
      simp only [Option.some.injEq] at hg
      have := kX.size
      exact ⟨.inr (by omega), fun h => by have := hobz g h; omega⟩
  · simp only [Obj.cells.injEq] at e; exact htx e.2.1
end Go.Proofs.Ytdgmjmohfpjlnaa
