/-
  The first cell of all is taken off a heap of heads.
-/
import Derived.Test.YtohamjoiohfoiaaHops
import Derived.Test.YtohamjoiohfoiaaHfirst
namespace Go.Proofs.Ytohamjoiohfoiaa
open Go.RowKit
/-- A head without its first cell. -/
def stepH (x : Hd) : Hd := if x.cap = 1 then ⟨x.b, x.off, 0, x.cs.tail, x.nth⟩ else ⟨x.b, x.off + 4, x.cap - 1, x.cs.tail, x.nth⟩
theorem stepH_cs (x : Hd) : (stepH x).cs = x.cs.tail := by unfold stepH; split <;> rfl
theorem stepH_nth (x : Hd) : (stepH x).nth = x.nth := by unfold stepH; split <;> rfl
/-- The heads, when the first cell of all is taken off. -/
def takeL : List Hd → List Hd
  | [] => []
  | x :: t => if x.cs.length ≤ 1 then popL (stepH x :: t) else (downL (stepH x :: t) 0 (t.length + 1)).1
theorem HAt.step {z p g n cap : Nat} {V : World} {x : Hd} {t : List Hd} (h : HAt z V p (x :: t)) (hg : V.cell? ⟨p, 0, none⟩ = some (.slice (some ⟨g, 0, none⟩) n cap)) :
    HAt z (V.setCell ⟨g, 0, none⟩ (hdS (stepH x))) p (stepH x :: t) ∧ Kh z p V (V.setCell ⟨g, 0, none⟩ (hdS (stepH x))) := by
  obtain ⟨g2, cap2, hb, hr⟩ := h.ex
  have e := hb.cell
  rw [hg, Option.some.injEq, Value.slice.injEq] at e
  obtain ⟨e1, e2, e3⟩ := e
  simp only [Option.some.injEq, Addr.mk.injEq, and_true] at e1
  subst e1
  subst e3
  have t1 := hr.stored (0 * 2) (hdS (stepH x))
  have hfl : flH (stepH x :: t) = (flH (x :: t)).set (0 * 2) (hdS (stepH x)) := by
    show [hdS (stepH x), Value.int .i64 ((stepH x).nth : Nat)] ++ flH t = _
    rw [stepH_nth]
    rfl
  have kz : ∀ k : Nat, k ≠ g → (V.setCell ⟨g, 0, none⟩ (hdS (stepH x))).heap[k]? = V.heap[k]? := fun k hk => Below.heap_setCell _ _ _ k hk
  have hgz := (hr.lt g rfl).1
  have hpg : p ≠ g := fun e => hb.not_row (by decide) hr (by rw [e]; rfl)
  refine ⟨⟨⟨g, cap, (kz p hpg).trans hb, ?_⟩, h.pz, fun q hq => ?_⟩, ⟨rfl, rfl, rfl, by simp [World.setCell], fun k o ho hk => ?_⟩⟩
  · rw [hfl]
    exact t1.1
  · rcases List.mem_cons.1 hq with rfl | hq
    · obtain ⟨c1, c2⟩ := h.each x (by simp)
      refine ⟨?_, ?_⟩
      · intro j c hj
        rw [stepH_cs, List.getElem?_tail] at hj
        obtain ⟨b, off, ea, hbz, p0, p1, p2, p3⟩ := c1 (j + 1) c hj
        simp only [Option.some.injEq, Addr.mk.injEq, and_true] at ea
        have hlen := (List.getElem?_eq_some_iff.1 hj).1
        have hs : stepH x = ⟨x.b, x.off + 4, x.cap - 1, x.cs.tail, x.nth⟩ := by unfold stepH; rw [if_neg (by omega)]
        rw [hs]
        have kb : ∀ o, (V.setCell ⟨g, 0, none⟩ (hdS (stepH x))).cell? ⟨x.b, o, none⟩ = V.cell? ⟨x.b, o, none⟩ := fun o => World.cell?_of_block (kz x.b (by omega))
        have ead : ∀ i, (⟨x.b, x.off + 4 + j * 4 + i, none⟩ : Addr) = ⟨b, off + (j + 1) * 4 + i, none⟩ := fun i => by rw [ea.1, ea.2]; congr 1; omega
        rw [hs] at kb
        refine ⟨x.b, x.off + 4, rfl, by omega, ?_, ?_, ?_, ?_⟩
        · rw [kb, show (⟨x.b, x.off + 4 + j * 4, none⟩ : Addr) = ⟨b, off + (j + 1) * 4, none⟩ from ead 0]; exact p0
        · rw [kb, ead 1]; exact p1
        · rw [kb, ead 2]; exact p2
        · rw [kb, ead 3]; exact p3
      · unfold stepH
        split
        · simp; omega
        · simp; omega
    · exact ⟨(h.each q (by simp [hq])).1.below (fun b hb => kz b (by omega)), (h.each q (by simp [hq])).2⟩
  · refine (kz k (fun e => ?_)).trans ho
    rcases hk with hk | hk
    · omega
    · rcases hr.2 with ⟨ev, _⟩ | ⟨g', cap', cur, ev, _, hh, _⟩
      · cases ev
      · simp only [Value.slice.injEq, Option.some.injEq, Addr.mk.injEq] at ev
        rw [e, ev.1.1, hh] at ho
        cases ho
        exact hk.2 _ _ rfl
theorem downL_all {P : Hd → Prop} : ∀ (m : Nat) (hs : List Hd) (i n : Nat), n - i ≤ m → (∀ a ∈ hs, P a) → ∀ a ∈ (downL hs i n).1, P a
  | 0, hs, i, n, h, hp => by rw [downL_end (by omega)]; exact hp
  | m + 1, hs, i, n, h, hp => by
    by_cases h1 : 2 * i + 1 < n
    · cases e : lessAt hs (kid hs i n) i with
      | true =>
        have := kid_gt hs i n
        rw [downL_go h1 e]
        exact downL_all m _ _ _ (by omega) (swapAt_all hp)
      | false => rw [downL_stay h1 e]; exact hp
    · rw [downL_end h1]; exact hp
theorem NE.tail {y : Hd} {t : List Hd} (h : ∀ a ∈ t, 0 < a.cs.length) : NE (swapAt (y :: t) 0 t.length) t.length := by
  intro i a hi e
  have hl : t.length < (y :: t).length := by simp
  unfold swapAt at e
  rw [List.getElem?_eq_getElem hl] at e
  simp only [List.getElem?_cons_zero] at e
  unfold swapL at e
  rw [List.getElem?_set_ne (by omega)] at e
  by_cases h0 : i = 0
  · subst h0
    rw [List.getElem?_set_self (by simp)] at e
    cases e
    obtain ⟨k, hk⟩ : ∃ k, t.length = k + 1 := ⟨t.length - 1, by omega⟩
    refine h _ ?_
    have : (y :: t)[t.length] = t[k]'(by omega) := by
      simp only [hk, List.getElem_cons_succ]
    rw [this]
    exact List.getElem_mem _
  · rw [List.getElem?_set_ne (by omega)] at e
    obtain ⟨k, rfl⟩ : ∃ k, i = k + 1 := ⟨i - 1, by omega⟩
    exact h a (List.mem_of_getElem? (by simpa using e))
/-- A store into a variable that holds a cell. -/
theorem HAt.set24 {z p k : Nat} {V : World} {hs : List Hd} {a : Array Value} {f : Nat × Nat} (h : HAt z V p hs) (hk : V.heap[k]? = some (.cells a 24 f)) (hz : z ≤ k) (o : Nat) (v : Value) : HAt z (V.setCell ⟨k, o, none⟩ v) p hs := by
  obtain ⟨g, cap, hb, hr⟩ := h.ex
  have hpk : p ≠ k := fun e => by
    have hb' : V.heap[p]? = some (.cells #[.slice (some ⟨g, 0, none⟩) hs.length cap] 69 (0, 0)) := hb
    rw [e, hk] at hb'
    simp at hb'
  have kz : ∀ j : Nat, j ≠ k → (V.setCell ⟨k, o, none⟩ v).heap[j]? = V.heap[j]? := fun j hj => Below.heap_setCell _ _ _ j hj
  refine ⟨⟨g, cap, (kz p hpk).trans hb, owns_same hr (fun j e => kz j (fun e2 => ?_))⟩, h.pz, fun q hq => ⟨(h.each q hq).1.below (fun b hb => kz b (by omega)), (h.each q hq).2⟩⟩
  rcases hr.2 with ⟨ev, _⟩ | ⟨g', cap', cur, ev, _, hh, _⟩
  · cases ev
  · simp only [Value.slice.injEq, Option.some.injEq, Addr.mk.injEq, and_true] at ev
    have e3 : g = j := by simpa [Value.ownBlock] using e
    rw [← ev.1, e3, e2, hk] at hh
    simp at hh
theorem block_set {V : World} {k : Nat} {a : Array Value} {t : TypeId} (h : V.heap[k]? = some (.cells a t (0, 0))) (o : Nat) (v : Value) : (V.setCell ⟨k, o, none⟩ v).heap[k]? = some (.cells (a.setIfInBounds o v) t (0, 0)) := by
  have hlt := (Array.getElem?_eq_some_iff.1 h).1
  have h' : V.heap[k] = .cells a t (0, 0) := by simpa [Array.getElem?_eq_getElem hlt] using h
  show (V.heap.modify k _)[k]? = _
  rw [Array.getElem?_eq_getElem (by simpa using hlt), Array.getElem_modify_self, h']
  rfl
/-- The result is laid into its variable, a block that the call made. -/
theorem take_end {z p : Nat} {W V : World} {hs : List Hd} {a : Array Value} {u0 u1 u2 u3 : Value} (hV : HAt z V p hs) (hK : Kh z p W V) (hk : V.heap[W.heap.size]? = some (.cells a 24 (0, 0))) (hz : z ≤ W.heap.size) :
    HAt z ((((V.setCell ⟨W.heap.size, 0, none⟩ u0).setCell ⟨W.heap.size, 1, none⟩ u1).setCell ⟨W.heap.size, 2, none⟩ u2).setCell ⟨W.heap.size, 3, none⟩ u3) p hs ∧ Kh z p W ((((V.setCell ⟨W.heap.size, 0, none⟩ u0).setCell ⟨W.heap.size, 1, none⟩ u1).setCell ⟨W.heap.size, 2, none⟩ u2).setCell ⟨W.heap.size, 3, none⟩ u3) := by
  have k0 := block_set hk 0 u0
  have k1 := block_set k0 1 u1
  have k2 := block_set k1 2 u2
  refine ⟨(((hV.set24 hk hz 0 u0).set24 k0 hz 1 u1).set24 k1 hz 2 u2).set24 k2 hz 3 u3, ⟨hK.os, hK.tape, hK.output, ?_, fun j o ho hn => ?_⟩⟩
  · have := hK.size
    simp [World.setCell]
    exact this
  · have hj : j ≠ W.heap.size := by have := (Array.getElem?_eq_some_iff.1 ho).1; omega
    exact (Below.heap_setCell _ _ _ j hj).trans ((Below.heap_setCell _ _ _ j hj).trans ((Below.heap_setCell _ _ _ j hj).trans ((Below.heap_setCell _ _ _ j hj).trans (hK.block j o ho hn))))
set_option maxRecDepth 100000 in
set_option maxHeartbeats 4000000 in
theorem take_any (z p : Nat) (x : Hd) (t : List Hd) (c : Cl) (r : List Cl) (W : World) (h : HAt z W p (x :: t)) (hc : x.cs = c :: r) (hne : ∀ a ∈ t, 0 < a.cs.length) (hl : t.length < 800000) :
    Calls Try.prog 37 #[.pointer (some ⟨p, 0, none⟩)] W fun e W' => e = .returned (clV c) ∧ HAt z W' p (takeL (x :: t)) ∧ Kh z p W W' := by
  have hzs := h.zle
  have b0 : Below W.heap.size W (W.alloc (.cells #[.string ⟨#[]⟩, .int .u64 0, .string ⟨#[]⟩, .bool false] 24)) := (Below.refl _ W).alloc (Nat.le_refl _) _
  have hn0 : (W.alloc (.cells #[.string ⟨#[]⟩, .int .u64 0, .string ⟨#[]⟩, .bool false] 24)).heap[W.heap.size]? = some (.cells #[.string ⟨#[]⟩, .int .u64 0, .string ⟨#[]⟩, .bool false] 24 (0, 0)) := World.alloc_heap_new _ _
  obtain ⟨W0, hW0⟩ : ∃ W0, W.alloc (.cells #[.string ⟨#[]⟩, .int .u64 0, .string ⟨#[]⟩, .bool false] 24) = W0 := ⟨_, rfl⟩
  rw [hW0] at b0 hn0
  have h0 := h.below b0 hzs
  have H1 : Hid (Calls Try.prog 38 #[.pointer (some ⟨p, 0, none⟩)] W0 fun e W' => e = .returned (clV c) ∧ Below W0.heap.size W0 W') := first_any z p (x :: t) x c W0 h0 rfl (by rw [hc]; rfl)
  obtain ⟨k1, s1, v1, g1⟩ := c
  simp only [clV] at H1 ⊢
  have HH0 : Hid _ := h0
  have HB0 : Hid _ := b0
  clear h h0 b0
  go_enter Try.func37, Try.ntmps37
  go_wp2_with fail
  refine Calls.mono H1.out ?_
  rintro e w1 ⟨rfl, b1⟩
  have HB1 : Hid (Below W0.heap.size W0 w1) := b1
  have b2 : Below w1.heap.size w1 (w1.alloc (.cells #[.string k1, .int .u64 (s1 : Nat), .string v1, .bool g1] 24)) := (Below.refl _ w1).alloc (Nat.le_refl _) _
  have h1 := HH0.out.below b1 HH0.out.zle
  have h2 := h1.below b2 h1.zle
  obtain ⟨g, cap, q0, hat⟩ := h2.at
  obtain ⟨q1, q2⟩ := hat 0 x rfl
  have hfz : (w1.alloc (.cells #[.string k1, .int .u64 (s1 : Nat), .string v1, .bool g1] 24)).frozen? ⟨g, 0, none⟩ = false := by
    obtain ⟨g', cap', hb', hr'⟩ := h2.ex
    have e := hb'.cell
    rw [q0, Option.some.injEq, Value.slice.injEq] at e
    simp only [Option.some.injEq, Addr.mk.injEq, and_true] at e
    rw [e.1]
    have := hr'.frozenAt 0
    exact this
  have hst := h2.step q0
  obtain ⟨W2, hW2⟩ : ∃ W2, w1.alloc (.cells #[.string k1, .int .u64 (s1 : Nat), .string v1, .bool g1] 24) = W2 := ⟨_, rfl⟩
  rw [hW2] at q0 q1 q2 hfz hst b2
  have HST : Hid _ := hst
  have HB2 : Hid _ := b2
  have hgb : ∃ cur f, W2.heap[g]? = some (.cells cur 72 f) := by
    obtain ⟨g', cap', hb', hr'⟩ := h2.ex
    have e := hb'.cell
    rw [hW2, q0, Option.some.injEq, Value.slice.injEq] at e
    simp only [Option.some.injEq, Addr.mk.injEq, and_true] at e
    rcases hr'.2 with ⟨ev, _⟩ | ⟨g3, cap3, cur, ev, _, hh, _⟩
    · cases ev
    · simp only [Value.slice.injEq, Option.some.injEq, Addr.mk.injEq, and_true] at ev
      rw [hW2, ← ev.1, ← e.1] at hh
      exact ⟨_, _, hh⟩
  have hp69 : W2.heap[p]? ≠ none ∧ ∀ a f, W2.heap[p]? ≠ some (.cells a 24 f) := by
    obtain ⟨g', cap', hb', _⟩ := h2.ex
    rw [hW2] at hb'
    have hb2 : W2.heap[p]? = some (.cells #[.slice (some ⟨g', 0, none⟩) (x :: t).length cap'] 69 (0, 0)) := hb'
    rw [hb2]
    exact ⟨by simp, fun a f e => by simp at e⟩
  -- the result's variable and the cell's
  have hr0 : W2.heap[W.heap.size]? = some (.cells #[.string ⟨#[]⟩, .int .u64 0, .string ⟨#[]⟩, .bool false] 24 (0, 0)) := by
    have hlt : W.heap.size < W0.heap.size := (Array.getElem?_eq_some_iff.1 hn0).1
    rw [← hW2, Below.heap_alloc _ _ _ (Nat.lt_of_lt_of_le hlt HB1.out.size), HB1.out.block _ hlt]
    exact hn0
  have hc0 : W2.heap[w1.heap.size]? = some (.cells #[.string k1, .int .u64 (s1 : Nat), .string v1, .bool g1] 24 (0, 0)) := by rw [← hW2]; exact World.alloc_heap_new _ _
  have hK2 : Kh z p W W2 := (Kh.of_below (HB0.out.trans (HB1.out.mono HB0.out.size))).trans (by rw [← hW2]; exact Kh.of_below ((Below.refl _ w1).alloc (Nat.le_refl _) _))
  have HEND : Hid (∀ (u : Value) (V : World) (hs : List Hd), Kh z p (W2.setCell ⟨g, 0, none⟩ u) V → Kh z p W2 (W2.setCell ⟨g, 0, none⟩ u) → HAt z V p hs → Kh z p W V ∧ V.heap[W.heap.size]? = some (.cells #[.string ⟨#[]⟩, .int .u64 0, .string ⟨#[]⟩, .bool false] 24 (0, 0)) ∧ V.heap[w1.heap.size]? = some (.cells #[.string k1, .int .u64 (s1 : Nat), .string v1, .bool g1] 24 (0, 0))) := fun u V hs kV k2 hV => by
    have ng : ∀ (k : Nat) (a : Array Value) (f : Nat × Nat), W2.heap[k]? = some (Obj.cells a 24 f) → k ≠ g ∧ k ≠ p := fun k a f e => ⟨fun e2 => by
      obtain ⟨cur, f2, hh⟩ := hgb
      rw [e2, hh] at e
      simp at e, fun e2 => hp69.2 a f (by rw [← e2]; exact e)⟩
    have one : ∀ (k : Nat) (a : Array Value), W2.heap[k]? = some (.cells a 24 (0, 0)) → V.heap[k]? = some (.cells a 24 (0, 0)) := fun k a e => by
      obtain ⟨n1, n2⟩ := ng k a _ e
      exact kV.block k _ ((Below.heap_setCell _ _ _ k n1).trans e) (Or.inr ⟨n2, fun c f e3 => by simp at e3⟩)
    exact ⟨(hK2.trans k2).trans kV, one _ _ hr0, one _ _ hc0⟩
  have hcl : x.cs.length = r.length + 1 := by rw [hc]; rfl
  have hcc := (h1.each x (by simp)).2
  have HTL : Hid (takeL (x :: t) = if x.cs.length ≤ 1 then popL (stepH x :: t) else (downL (stepH x :: t) 0 (t.length + 1)).1) := rfl
  have H45 : Hid (∀ V, HAt z V p (stepH x :: t) → Calls Try.prog 45 #[.iface 61 (.pointer (some ⟨p, 0, none⟩))] V fun r W' => (∃ v, r = .returned v) ∧ HAt z W' p (popL (stepH x :: t)) ∧ Kh z p V W') := fun V hV => pop45_any z p _ V hV (by simp) (by simp; omega) (by rw [show (stepH x :: t).length - 1 = t.length by simp]; exact NE.tail hne)
  have H46 : Hid (∀ V, 0 < r.length → HAt z V p (stepH x :: t) → Calls Try.prog 46 #[.iface 61 (.pointer (some ⟨p, 0, none⟩)), .int .i64 0] V fun r W' => (∃ v, r = .returned v) ∧ HAt z W' p (downL (stepH x :: t) 0 (t.length + 1)).1 ∧ Kh z p V W') := fun V h0 hV => by
    have hall : ∀ a ∈ stepH x :: t, 0 < a.cs.length := fun a ha => by
      rcases List.mem_cons.1 ha with rfl | ha
      · rw [stepH_cs, hc]; exact h0
      · exact hne a ha
    have := fix46_any z p (stepH x :: t) V hV (by simp) (by simp; omega) hall (downL_all _ _ _ _ (Nat.le_refl _) hall)
    rw [show (stepH x :: t).length = t.length + 1 from rfl] at this
    exact this
  have hS : hdS (stepH x) = if x.cap = 1 then .slice (some ⟨x.b, x.off, none⟩) r.length 0 else .slice (some ⟨x.b, x.off + 4, none⟩) r.length (x.cap - 1) := by
    unfold hdS stepH
    split <;> simp [hc]
  rw [hS] at HST
  have hzW : Hid (z ≤ W.heap.size) := hzs
  have hdif : W.heap.size < w1.heap.size := Nat.lt_of_lt_of_le (Array.getElem?_eq_some_iff.1 hn0).1 HB1.out.size
  clear b1 b2 h1 h2 hat hst hgb hp69 hr0 hc0 hK2 hS hne HB0 HB1 HB2 HH0 H1 hn0 hW0
  rw [hdS, hcl] at q1
  simp only [Nat.zero_mul] at q1
  obtain ⟨xb, xo, xc, xcs, xn⟩ := x
  simp only at q1 hcl hcc HST
  have FIN : Hid (∀ V : World, V.heap[w1.heap.size]? = some (.cells #[.string k1, .int .u64 (s1 : Nat), .string v1, .bool g1] 24 (0, 0)) → V.cell? ⟨w1.heap.size, 0, none⟩ = some (.string k1) ∧ V.cell? ⟨w1.heap.size, 1, none⟩ = some (.int .u64 (s1 : Nat)) ∧ V.cell? ⟨w1.heap.size, 2, none⟩ = some (.string v1) ∧ V.cell? ⟨w1.heap.size, 3, none⟩ = some (.bool g1)) := fun V e => ⟨by have := cells_of_block e 0; simpa using this, by have := cells_of_block e 1; simpa using this, by have := cells_of_block e 2; simpa using this, by have := cells_of_block e 3; simpa using this⟩
  have FRE : Hid (∀ V : World, V.heap[W.heap.size]? = some (.cells #[.string ⟨#[]⟩, .int .u64 0, .string ⟨#[]⟩, .bool false] 24 (0, 0)) → (∃ u, V.cell? ⟨W.heap.size, 0, none⟩ = some u) ∧ (∃ u, V.cell? ⟨W.heap.size, 1, none⟩ = some u) ∧ (∃ u, V.cell? ⟨W.heap.size, 2, none⟩ = some u) ∧ (∃ u, V.cell? ⟨W.heap.size, 3, none⟩ = some u) ∧ ∀ o, V.frozen? ⟨W.heap.size, o, none⟩ = false) := fun V e => ⟨⟨_, by have := cells_of_block e 0; simpa using this⟩, ⟨_, by have := cells_of_block e 1; simpa using this⟩, ⟨_, by have := cells_of_block e 2; simpa using this⟩, ⟨_, by have := cells_of_block e 3; simpa using this⟩, fun o => by simp [World.frozen?, e]⟩
  by_cases hc1 : xc = 1
  · subst hc1
    obtain rfl : r = [] := List.eq_nil_of_length_eq_zero (by omega)
    rw [if_pos rfl] at HST
    simp only [List.length_nil] at q1 HST
    go_wp2_with fail
    refine Calls.mono (H45.out _ HST.out.1) ?_
    rintro e w4 ⟨⟨v4, rfl⟩, h4, k4⟩
    obtain ⟨K4, e4, f4⟩ := HEND.out _ w4 _ k4 HST.out.2 h4
    obtain ⟨c0, c1, c2, c3⟩ := FIN.out w4 f4
    obtain ⟨⟨u0, d0⟩, ⟨u1, d1⟩, ⟨u2, d2⟩, ⟨u3, d3⟩, fz⟩ := FRE.out w4 e4
    have z0 := fz 0
    have z1 := fz 1
    have z2 := fz 2
    have z3 := fz 3
    have HE : Hid _ := take_end (u0 := .string k1) (u1 := .int .u64 (s1 : Nat)) (u2 := .string v1) (u3 := .bool g1) h4 K4 e4 hzW.out
    have hne1 : W.heap.size ≠ w1.heap.size := by omega
    clear h4 k4 K4 e4 f4 fz HEND FIN FRE
    go_wp2_with fail
    refine bodyPost_ret (v := .agg #[.string k1, .int .u64 (s1 : Nat), .string v1, .bool g1]) (by simp [results, Try.results37, go_sem, d0, d1, d2, d3]) rfl ⟨rfl, ?_⟩
    rw [HTL.out, if_pos (by rw [hcl]; simp)]
    exact HE.out
  rw [if_neg hc1] at HST
  by_cases hr0 : r = []
  · subst hr0
    simp only [List.length_nil] at q1 HST
    go_wp2_with fail
    refine Calls.mono (H45.out _ HST.out.1) ?_
    rintro e w4 ⟨⟨v4, rfl⟩, h4, k4⟩
    obtain ⟨K4, e4, f4⟩ := HEND.out _ w4 _ k4 HST.out.2 h4
    obtain ⟨c0, c1, c2, c3⟩ := FIN.out w4 f4
    obtain ⟨⟨u0, d0⟩, ⟨u1, d1⟩, ⟨u2, d2⟩, ⟨u3, d3⟩, fz⟩ := FRE.out w4 e4
    have z0 := fz 0
    have z1 := fz 1
    have z2 := fz 2
    have z3 := fz 3
    have HE : Hid _ := take_end (u0 := .string k1) (u1 := .int .u64 (s1 : Nat)) (u2 := .string v1) (u3 := .bool g1) h4 K4 e4 hzW.out
    have hne1 : W.heap.size ≠ w1.heap.size := by omega
    clear h4 k4 K4 e4 f4 fz HEND FIN FRE
    go_wp2_with fail
    refine bodyPost_ret (v := .agg #[.string k1, .int .u64 (s1 : Nat), .string v1, .bool g1]) (by simp [results, Try.results37, go_sem, d0, d1, d2, d3]) rfl ⟨rfl, ?_⟩
    rw [HTL.out, if_pos (by rw [hcl]; simp)]
    exact HE.out
  · have hr1 : 0 < r.length := List.length_pos_iff.2 hr0
    have hrz : ((r.length : Int) == 0) = false := by simp; exact hr0
    obtain ⟨m, hm⟩ : ∃ m, r.length = m := ⟨_, rfl⟩
    rw [hm] at q1 HST hcl hrz hr1
    go_wp2_with fail
    refine Calls.mono (H46.out _ (by rw [hm]; exact hr1) HST.out.1) ?_
    rintro e w4 ⟨⟨v4, rfl⟩, h4, k4⟩
    obtain ⟨K4, e4, f4⟩ := HEND.out _ w4 _ k4 HST.out.2 h4
    obtain ⟨c0, c1, c2, c3⟩ := FIN.out w4 f4
    obtain ⟨⟨u0, d0⟩, ⟨u1, d1⟩, ⟨u2, d2⟩, ⟨u3, d3⟩, fz⟩ := FRE.out w4 e4
    have z0 := fz 0
    have z1 := fz 1
    have z2 := fz 2
    have z3 := fz 3
    have HE : Hid _ := take_end (u0 := .string k1) (u1 := .int .u64 (s1 : Nat)) (u2 := .string v1) (u3 := .bool g1) h4 K4 e4 hzW.out
    have hne1 : W.heap.size ≠ w1.heap.size := by omega
    clear h4 k4 K4 e4 f4 fz HEND FIN FRE
    go_wp2_with fail
    refine bodyPost_ret (v := .agg #[.string k1, .int .u64 (s1 : Nat), .string v1, .bool g1]) (by simp [results, Try.results37, go_sem, d0, d1, d2, d3]) rfl ⟨rfl, ?_⟩
    rw [HTL.out, if_neg (by rw [hcl]; omega)]
    exact HE.out
end Go.Proofs.Ytohamjoiohfoiaa
