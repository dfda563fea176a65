/-
  What Cut's round does to its variables.
-/
import Derived.Test.YtohamjoiohfoiaaCut0
namespace Go.Proofs.Ytohamjoiohfoiaa
open Go.RowKit
theorem kc_of {W W2 : World} {s : Nat} {ob : Option Nat} (hob : ∀ b, ob = some b → b < s) (hb : Below s W W2) (hk : ∀ (k : Nat) (o : Obj), W.heap[k]? = some o → BoxOf ob o → W2.heap[k]? = some o) : KcC ob W W2 :=
  ⟨hb.size, fun bl _ e ho _ => (hb.block bl (hob bl e)).trans ho, hk⟩
theorem not_box_t {ob : Option Nat} {c : Array Value} {t : TypeId} {f : Nat × Nat} (h : t ≠ 25) : ¬ BoxOf ob (.cells c t f) := by
  rintro ⟨_, _, _, _, _, _, e⟩
  simp only [Obj.cells.injEq] at e
  exact h e.2.1
theorem cut_left {w W : World} {s t5 t6 : Nat} {ob : Option Nat} {pcs : List (List Cl)} {left left' : Int} (hob : ∀ b, ob = some b → b < s) (ht6 : s ≤ t6) (h : CutI w s t5 t6 pcs left W) :
    CutI w s t5 t6 pcs left' (W.setCell ⟨t6, 0, none⟩ (.int .i64 left')) ∧ KeepsOthers W (W.setCell ⟨t6, 0, none⟩ (.int .i64 left')) ∧ KcC ob W (W.setCell ⟨t6, 0, none⟩ (.int .i64 left')) := by
  obtain ⟨⟨v, vs, β, h1, h2, h3, h4, h5, h6⟩, hl, hb⟩ := h
  have hbz : Below s W (W.setCell ⟨t6, 0, none⟩ (.int .i64 left')) := (Below.refl s W).setCell (p := ⟨t6, 0, none⟩) ht6 _
  have keep : ∀ (k : Nat) (o : Obj), W.heap[k]? = some o → (∀ c f, o ≠ .cells c 3 f) → (W.setCell ⟨t6, 0, none⟩ (.int .i64 left')).heap[k]? = some o := fun k o ho hn => (Below.heap_setCell _ _ _ k (fun e => by
    have e' : k = t6 := e
    rw [e', hl] at ho
    exact hn _ _ (Option.some.inj ho).symm)).trans ho
  refine ⟨⟨⟨v, vs, β, keep t5 _ h1 (fun c f e => by simp at e), owns_same h2 (fun g hg => ?_), h3, h4, Nat.le_trans h5 hbz.size, fun i p hp => ?_⟩, hl.set _, hb.trans hbz⟩, ⟨hbz.size, fun k o ho hc => keep k o ho (fun c f e => by rw [e] at hc; cases hc)⟩, kc_of hob hbz (fun k o ho hbx => keep k o ho (fun c f e => by rw [e] at hbx; exact not_box_t (by decide) hbx))⟩
  · rcases h2.2 with ⟨ev, _⟩ | ⟨g', cap, cur, ev, _, hh, _⟩
    · rw [ev] at hg; cases hg
    · rw [ev] at hg
      simp only [Value.ownBlock, Option.some.injEq] at hg
      subst hg
      rw [hh]
      exact keep _ _ hh (fun c f e => by simp at e)
  · obtain ⟨u, a, b, c⟩ := h6 i p hp
    refine ⟨u, a, owns_same b (fun g hg => ?_), c⟩
    rcases b.2 with ⟨ev, _⟩ | ⟨g', cap, cur, ev, _, hh, _⟩
    · rw [ev] at hg; cases hg
    · rw [ev] at hg
      simp only [Value.ownBlock, Option.some.injEq] at hg
      subst hg
      rw [hh]
      exact keep _ _ hh (fun c f e => by simp at e)
theorem row_is {W : World} {B g n size : Nat} {e : TypeId} {v : Value} {xs : List Value} (h : W.ownsRow B e size v n xs) (hg : v.ownBlock = some g) : ∃ cur, W.heap[g]? = some (.cells cur e (0, 0)) := by
  rcases h.2 with ⟨ev, _⟩ | ⟨g', cap, cur, ev, _, hh, _⟩
  · rw [ev] at hg; cases hg
  · rw [ev] at hg
    simp only [Value.ownBlock, Option.some.injEq] at hg
    subst hg
    exact ⟨_, hh⟩
theorem cut_new {w W w3 : World} {s t5 t6 n : Nat} {ob : Option Nat} {pcs : List (List Cl)} {left : Int} {v v2 : Value} {vs : List Value} {β : Nat} (hs : s ≤ w.heap.size) (hob : ∀ b, ob = some b → b < s) (ht5 : s ≤ t5) (hn : pcs.length = n)
    (h1 : Boxed W t5 32 v) (h2 : W.ownsRow s 25 1 v n vs) (h3 : pcs = [] → v = .slice none 0 0) (h6 : ∀ (i : Nat) (p : List Cl), pcs[i]? = some p → ∃ u, vs[i]? = some u ∧ W.ownsRow s 24 4 u p.length (flC p) ∧ ∀ g, u.ownBlock = some g → (i + 1 < pcs.length → g < β) ∧ (i + 1 = pcs.length → β ≤ g)) (hl : Boxed W t6 3 (.int .i64 left)) (hb : Below s w W)
    (q1 : w3.ownsRow s 25 1 v2 (n + 1) (vs ++ [.slice none 0 0])) (q2 : (W.alloc (.cells #[.slice none 0 0] 25)).grownBy w3 v.ownBlock) :
    ∃ a2 c2, v2 = .slice a2 (n + 1) c2 ∧ w3.cell? ⟨t5, 0, none⟩ = some v ∧ w3.frozen? ⟨t5, 0, none⟩ = false ∧ (∀ x T u, Boxed W x T u → x ≠ t5 → T ≠ 25 → Boxed (w3.setCell ⟨t5, 0, none⟩ v2) x T u) ∧
      Hid (CutI w s t5 t6 (pcs ++ [[]]) left (w3.setCell ⟨t5, 0, none⟩ v2) ∧ KeepsOthers W (w3.setCell ⟨t5, 0, none⟩ v2) ∧ KcC ob W (w3.setCell ⟨t5, 0, none⟩ v2)) := by
  have kX : Below W.heap.size W (W.alloc (.cells #[.slice none 0 0] 25)) := (Below.refl _ W).alloc (Nat.le_refl _) _
  have hsW : s ≤ W.heap.size := Nat.le_trans hs hb.size
  have hn' : W.ownsRow s 25 1 v pcs.length vs := by rw [hn]; exact h2
  have hnr := CutI.row_not hob hn' h3 (fun i p hp => by obtain ⟨u, a, b, _⟩ := h6 i p hp; exact ⟨u, a, b⟩)
  have k3 : ∀ (k : Nat) (o : Obj), W.heap[k]? = some o → v.ownBlock ≠ some k → w3.heap[k]? = some o := fun k o ho hne => by
    have hlt := (Array.getElem?_eq_some_iff.1 ho).1
    exact (q2.block k (Nat.lt_of_lt_of_le hlt kX.size) (fun e => hne e.symm)).trans ((kX.block k hlt).trans ho)
  have hv3 : Boxed w3 t5 32 v := k3 t5 _ h1 (fun e => by
    obtain ⟨cur, hc⟩ := row_is h2 e
    rw [h1] at hc
    simp at hc)
  have keep : ∀ (k : Nat) (o : Obj), W.heap[k]? = some o → v.ownBlock ≠ some k → k ≠ t5 → (w3.setCell ⟨t5, 0, none⟩ v2).heap[k]? = some o := fun k o ho hne hk => (Below.heap_setCell _ _ _ k (fun e => hk e)).trans (k3 k o ho hne)
  have hbz : Below s W (w3.setCell ⟨t5, 0, none⟩ v2) := (((kX.mono hsW).trans ((Below.refl s _).grown q2 (Nat.le_trans hsW kX.size) (fun j ej => (h2.lt j ej).1)))).setCell (p := ⟨t5, 0, none⟩) ht5 v2
  have hsz : W.heap.size ≤ (w3.setCell ⟨t5, 0, none⟩ v2).heap.size := hbz.size
  have keepT : ∀ (k : Nat) c t f, W.heap[k]? = some (.cells c t f) → t ≠ 25 → t ≠ 32 → (w3.setCell ⟨t5, 0, none⟩ v2).heap[k]? = some (.cells c t f) := fun k c t f ho h25 h32 => keep k _ ho (fun e => by
    obtain ⟨cur, hc⟩ := row_is h2 e
    rw [ho] at hc
    simp only [Option.some.injEq, Obj.cells.injEq] at hc
    exact h25 hc.2.1) (fun e => by
    rw [e, h1] at ho
    simp only [Option.some.injEq, Obj.cells.injEq] at ho
    exact h32 ho.2.1.symm)
  obtain ⟨a2, c2, e2⟩ := row_form4 q1
  refine ⟨a2, c2, e2, hv3.cell, hv3.frozen, fun x T u hx hxt hT => keep x _ hx (fun e => ?_) hxt, ⟨⟨v2, vs ++ [.slice none 0 0], (w3.setCell ⟨t5, 0, none⟩ v2).heap.size, hv3.set v2, ?_, fun e => by simp at e, Nat.le_trans hsW hsz, Nat.le_refl _, fun i p hp => ?_⟩, keepT t6 _ _ _ hl (by decide) (by decide), hb.trans hbz⟩, ⟨hsz, fun k o ho hc => keep k o ho (fun e => ?_) (fun e => ?_)⟩, kc_of hob hbz (fun k o ho hbx => keep k o ho (fun e => hnr k o e ho hbx) (fun e => ?_))⟩
  · obtain ⟨cur, hc⟩ := row_is h2 e
    rw [hx] at hc
    simp only [Option.some.injEq, Obj.cells.injEq] at hc
    exact hT hc.2.1
  · rw [List.length_append, List.length_singleton, hn]
    exact owns_same q1 (fun g hg => Below.heap_setCell _ _ _ g (fun e => by
      obtain ⟨cur, hc⟩ := row_is q1 hg
      have e' : g = t5 := e
      rw [e', hv3] at hc
      simp at hc))
  · rcases Nat.lt_or_ge i n with hi | hi
    · rw [List.getElem?_append_left (by omega)] at hp
      obtain ⟨u, a, b, c⟩ := h6 i p hp
      have hvl : vs.length = n := by have := h2.1; omega
      refine ⟨u, by rw [List.getElem?_append_left (by omega)]; exact a, owns_same b (fun g hg => ?_), fun g hg => ⟨fun _ => ?_, fun h => by simp at h; omega⟩⟩
      · obtain ⟨cur, hc⟩ := row_is b hg
        rw [hc]
        exact keepT _ _ _ _ hc (by decide) (by decide)
      · exact Nat.lt_of_lt_of_le (b.lt g hg).2 hsz
    · rw [List.getElem?_append_right (by omega)] at hp
      obtain rfl : i = n := by have := (List.getElem?_eq_some_iff.1 hp).1; simp at this; omega
      rw [hn, Nat.sub_self] at hp
      simp only [List.getElem?_cons_zero, Option.some.injEq] at hp
      subst hp
      have hvl : vs.length = i := by have := h2.1; omega
      exact ⟨.slice none 0 0, by rw [List.getElem?_append_right (by omega), hvl, Nat.sub_self]; rfl, World.ownsRow_nil _ _ _ _, fun g hg => by cases hg⟩
  · obtain ⟨cur, hc'⟩ := row_is h2 e
    rw [ho] at hc'
    cases hc'
    cases hc
  · rw [e, h1] at ho
    cases ho
    cases hc
  · rw [e, h1] at ho
    cases ho
    exact not_box_t (by decide) hbx
theorem row_from {W : World} {B B' size n : Nat} {e : TypeId} {v : Value} {xs : List Value} (h : W.ownsRow B e size v n xs) (hg : ∀ g, v.ownBlock = some g → B' ≤ g) : W.ownsRow B' e size v n xs := by
  rcases h with ⟨h1, ⟨hv, h0⟩ | ⟨g, cap, cur, hv, hB, hh, hr⟩⟩
  · exact ⟨h1, Or.inl ⟨hv, h0⟩⟩
  · exact ⟨h1, Or.inr ⟨g, cap, cur, hv, hg g (by rw [hv]; rfl), hh, hr⟩⟩
theorem cut_grow {w W w3 : World} {s t5 t6 n go cap m : Nat} {ob : Option Nat} {ini : List (List Cl)} {p k : List Cl} {left : Int} {u u2 : Value} {vs : List Value} {β : Nat} (hs : s ≤ w.heap.size) (hob : ∀ b, ob = some b → b < s) (hn : ini.length = n)
    (h1 : Boxed W t5 32 (.slice (some ⟨go, 0, none⟩) (n + 1) cap)) (h2 : W.ownsRow s 25 1 (.slice (some ⟨go, 0, none⟩) (n + 1) cap) (n + 1) vs) (hu : vs[n]? = some u) (hβ : s ≤ β) (hβ2 : β ≤ W.heap.size) (h6 : ∀ (i : Nat) (p' : List Cl), (ini ++ [p])[i]? = some p' → ∃ u, vs[i]? = some u ∧ W.ownsRow s 24 4 u p'.length (flC p') ∧ ∀ g, u.ownBlock = some g → (i + 1 < (ini ++ [p]).length → g < β) ∧ (i + 1 = (ini ++ [p]).length → β ≤ g)) (hl : Boxed W t6 3 (.int .i64 left)) (hb : Below s w W) (hk : k.length = m)
    (q1 : w3.ownsRow β 24 4 u2 (p.length + m) (flC p ++ flC k)) (q2 : W.grownBy w3 u.ownBlock) :
    ∃ a2 c2, u2 = .slice a2 (p.length + m) c2 ∧ w3.cell? ⟨go, n, none⟩ = some u ∧ w3.frozen? ⟨go, n, none⟩ = false ∧ (∀ x T uu, Boxed W x T uu → T ≠ 24 → T ≠ 25 → Boxed (w3.setCell ⟨go, n, none⟩ u2) x T uu) ∧
      Hid (CutI w s t5 t6 (ini ++ [p ++ k]) left (w3.setCell ⟨go, n, none⟩ u2) ∧ KeepsOthers W (w3.setCell ⟨go, n, none⟩ u2) ∧ KcC ob W (w3.setCell ⟨go, n, none⟩ u2)) := by
  have hsW : s ≤ W.heap.size := Nat.le_trans hs hb.size
  have hpl : (ini ++ [p]).length = n + 1 := by rw [List.length_append, List.length_singleton, hn]
  have hnr := CutI.row_not (pcs := ini ++ [p]) hob (by rw [hpl]; exact h2) (fun e => by simp at e) (fun i p hp => by obtain ⟨u, a, b, _⟩ := h6 i p hp; exact ⟨u, a, b⟩)
  obtain ⟨u', hu', hru, hgu⟩ := h6 n p (by rw [List.getElem?_append_right (by omega), hn, Nat.sub_self]; rfl)
  rw [hu] at hu'
  cases hu'
  have hgo : (Value.slice (some ⟨go, 0, none⟩) (n + 1) cap).ownBlock = some go := rfl
  obtain ⟨cur, hcur⟩ := row_is h2 hgo
  have une : u.ownBlock ≠ some go := fun e => by
    obtain ⟨c', hc'⟩ := row_is hru e
    rw [hcur] at hc'
    simp at hc'
  have k3 : ∀ (j : Nat) (o : Obj), W.heap[j]? = some o → u.ownBlock ≠ some j → w3.heap[j]? = some o := fun j o ho hne => (q2.block j (Array.getElem?_eq_some_iff.1 ho).1 (fun e => hne e.symm)).trans ho
  have h23 : w3.ownsRow s 25 1 (.slice (some ⟨go, 0, none⟩) (n + 1) cap) (n + 1) vs := owns_same h2 (fun g hg => by
    rw [hgo, Option.some.injEq] at hg
    subst hg
    rw [hcur]
    exact k3 _ _ hcur une)
  have hc3 : w3.heap[go]? = some (.cells cur 25 (0, 0)) := k3 _ _ hcur une
  have keep : ∀ (j : Nat) (o : Obj), W.heap[j]? = some o → u.ownBlock ≠ some j → j ≠ go → (w3.setCell ⟨go, n, none⟩ u2).heap[j]? = some o := fun j o ho hne hj => (Below.heap_setCell _ _ _ j (fun e => hj e)).trans (k3 j o ho hne)
  have keepT : ∀ (j : Nat) c t f, W.heap[j]? = some (.cells c t f) → t ≠ 24 → t ≠ 25 → (w3.setCell ⟨go, n, none⟩ u2).heap[j]? = some (.cells c t f) := fun j c t f ho h24 h25 => keep j _ ho (fun e => by
    obtain ⟨c', hc'⟩ := row_is hru e
    rw [ho] at hc'
    simp only [Option.some.injEq, Obj.cells.injEq] at hc'
    exact h24 hc'.2.1) (fun e => by
    rw [e, hcur] at ho
    simp only [Option.some.injEq, Obj.cells.injEq] at ho
    exact h25 ho.2.1.symm)
  have hgos : s ≤ go := (h2.lt go hgo).1
  have hbz : Below s W (w3.setCell ⟨go, n, none⟩ u2) := ((Below.refl s W).grown q2 hsW (fun j ej => (hru.lt j ej).1)).setCell (p := ⟨go, n, none⟩) hgos u2
  have hsz : W.heap.size ≤ (w3.setCell ⟨go, n, none⟩ u2).heap.size := hbz.size
  have hvl : vs.length = n + 1 := by have := h2.1; omega
  obtain ⟨a2, c2, e2⟩ := row_form4 q1
  have hpl2 : (ini ++ [p ++ k]).length = n + 1 := by rw [List.length_append, List.length_singleton, hn]
  refine ⟨a2, c2, e2, by rw [h23.cellAt n (by omega)]; exact hu, h23.frozenAt n, fun x T uu hx h24 h25 => keepT x _ _ _ hx h24 h25, ⟨⟨_, vs.set n u2, β, keepT t5 _ _ _ h1 (by decide) (by decide), by rw [hpl2]; exact (h23.stored n u2).1, fun e => by simp at e, hβ, Nat.le_trans hβ2 hsz, fun i p' hp => ?_⟩, keepT t6 _ _ _ hl (by decide) (by decide), hb.trans hbz⟩, ⟨hsz, fun j o ho hc => keep j o ho (fun e => ?_) (fun e => ?_)⟩, kc_of hob hbz (fun j o ho hbx => keep j o ho (fun e => ?_) (fun e => hnr j o (by rw [e]; exact hgo) ho hbx))⟩
  · rcases Nat.lt_or_ge i n with hi | hi
    · rw [List.getElem?_append_left (by omega)] at hp
      obtain ⟨x, a, b, c⟩ := h6 i p' (by rw [List.getElem?_append_left (by omega)]; exact hp)
      refine ⟨x, by rw [List.getElem?_set_ne (by omega)]; exact a, owns_same b (fun g hg => ?_), fun g hg => ⟨fun _ => (c g hg).1 (by omega), fun h => by omega⟩⟩
      obtain ⟨c', hc'⟩ := row_is b hg
      rw [hc']
      refine keep _ _ hc' (fun e => ?_) (fun e => ?_)
      · have h1' := (hgu g e).2 (by omega)
        have h2' := (c g hg).1 (by omega)
        omega
      · rw [e, hcur] at hc'
        simp at hc'
    · rw [List.getElem?_append_right (by omega)] at hp
      obtain rfl : i = n := by have := (List.getElem?_eq_some_iff.1 hp).1; simp at this; omega
      rw [hn, Nat.sub_self] at hp
      simp only [List.getElem?_cons_zero, Option.some.injEq] at hp
      subst hp
      refine ⟨u2, List.getElem?_set_self (by omega), ?_, fun g hg => ⟨fun h => by omega, fun _ => (q1.lt g hg).1⟩⟩
      rw [List.length_append, hk, flC_app]
      exact owns_same (row_base hβ q1) (fun g hg => Below.heap_setCell _ _ _ g (fun e => by
        obtain ⟨c', hc'⟩ := row_is q1 hg
        have e' : g = go := e
        rw [e', hc3] at hc'
        simp at hc'))
  · obtain ⟨c', hc'⟩ := row_is hru e
    rw [ho] at hc'
    cases hc'
    cases hc
  · rw [e, hcur] at ho
    cases ho
    cases hc
  · obtain ⟨c', hc'⟩ := row_is hru e
    rw [ho] at hc'
    cases hc'
    exact not_box_t (by decide) hbx
end Go.Proofs.Ytohamjoiohfoiaa
