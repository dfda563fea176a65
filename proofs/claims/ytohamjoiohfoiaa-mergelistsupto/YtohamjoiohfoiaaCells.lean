/-
  The contract of Cells: an iterator over copies of the lists.
-/
import Derived.Test.YtohamjoiohfoiaaClone
import Derived.Laws.OwnMore
import Derived.OwnWalk
namespace Go.Proofs.Ytohamjoiohfoiaa
open Go.RowKit
theorem flC_get : ∀ {l : List Cl} {j : Nat} {c : Cl}, l[j]? = some c → ∀ i, i < 4 → (flC l)[j * 4 + i]? = (clL c)[i]?
  | [], j, c, h, _, _ => by simp at h
  | d :: l, 0, c, h, i, hi => by
    simp only [List.getElem?_cons_zero, Option.some.injEq] at h
    subst h
    rw [flC_cons, Nat.zero_mul, Nat.zero_add, List.getElem?_append_left (by simp [clL]; omega)]
  | d :: l, j + 1, c, h, i, hi => by
    rw [List.getElem?_cons_succ] at h
    rw [flC_cons, List.getElem?_append_right (by simp [clL]; omega), ← flC_get h i hi]
    congr 1
    simp [clL]
    omega
theorem ca_row {W : World} {B : Nat} {v : Value} {l : List Cl} (h : W.ownsRow B 24 4 v l.length (flC l)) : ∃ a c, v = .slice a l.length c ∧ l.length ≤ c ∧ CA W.heap.size W a l := by
  rcases h.2 with ⟨rfl, h0⟩ | ⟨g, cap, cur, rfl, hB, hh, hn, _⟩
  · have : l = [] := List.eq_nil_of_length_eq_zero h0
    subst this
    exact ⟨none, 0, rfl, Nat.le_refl _, CA.nil _ _ _⟩
  · refine ⟨_, _, rfl, hn, fun j c hj => ⟨g, 0, rfl, (Array.getElem?_eq_some_iff.1 hh).1, ?_⟩⟩
    have hjl : j < l.length := (List.getElem?_eq_some_iff.1 hj).1
    refine ⟨?_, ?_, ?_, ?_⟩
    · have := h.cellAt (j * 4 + 0) (by omega)
      rw [flC_get hj 0 (by omega)] at this
      simpa [clL] using this
    · have := h.cellAt (j * 4 + 1) (by omega)
      rw [flC_get hj 1 (by omega)] at this
      simpa [clL] using this
    · have := h.cellAt (j * 4 + 2) (by omega)
      rw [flC_get hj 2 (by omega)] at this
      simpa [clL] using this
    · have := h.cellAt (j * 4 + 3) (by omega)
      rw [flC_get hj 3 (by omega)] at this
      simpa [clL] using this
theorem info25 : (Try.prog.info? 25).map (fun i => (i.zero, i.size, i.bytes)) = some (some (.slice none 0 0), 1, 24) := by kernel_rfl
theorem sl_of_slice (a : Option Addr) (c : Nat) (l : List Cl) : slV ⟨a, c, l⟩ = .slice a l.length c := rfl
theorem row_len {W : World} {B : Nat} {s : Sl} (h : W.ownsRow B 24 4 (slV s) s.cs.length (flC s.cs)) : s.cs.length ≤ s.c ∧ CA W.heap.size W s.a s.cs := by
  obtain ⟨a, c, e, h1, h2⟩ := ca_row h
  rw [slV, Value.slice.injEq] at e
  obtain ⟨rfl, _, rfl⟩ := e
  exact ⟨h1, h2⟩
/-- So many lists have been copied. -/
structure CLI (w : World) (g m : Nat) (ls : List Sl) (k : Nat) (W : World) : Prop where
  ex : ∃ (xs : List Value) (dn : List Sl), dn.length = k ∧ (∀ (j : Nat) (s : Sl), dn[j]? = some s → ∃ s0 : Sl, ls[j]? = some s0 ∧ s.cs = s0.cs) ∧ (∀ (j : Nat) (s : Sl), dn[j]? = some s → W.ownsRow (g + 1) 24 4 (slV s) s.cs.length (flC s.cs)) ∧ W.ownsRow g 25 1 (.slice (some ⟨g, 0, none⟩) m m) m xs ∧ (∀ (j : Nat) (s : Sl), dn[j]? = some s → xs[j]? = some (slV s))
  bel : Below g w W
theorem CLI.step {w W w3 : World} {g m k : Nat} {ls : List Sl} {s0 : Sl} {v : Value} (h : CLI w g m ls k W) (hk : k < m) (hs : ls[k]? = some s0) (hr : w3.ownsRow W.heap.size 24 4 v s0.cs.length (flC s0.cs)) (b : Below W.heap.size W w3) :
    (∃ u, w3.cell? ⟨g, k, none⟩ = some u) ∧ w3.frozen? ⟨g, k, none⟩ = false ∧ CLI w g m ls (k + 1) (w3.setCell ⟨g, k, none⟩ v) := by
  obtain ⟨⟨xs, dn, h1, h2, h3, h4, h5⟩, hb⟩ := h
  have hgW : g < W.heap.size := (h4.lt g rfl).2
  have h4' : w3.ownsRow g 25 1 (.slice (some ⟨g, 0, none⟩) m m) m xs := owns_same h4 (fun j e => b.block j (h4.lt j e).2)
  have hx : k < xs.length := by have := h4.1; omega
  refine ⟨⟨xs[k], by rw [h4'.cellAt k (by omega)]; exact List.getElem?_eq_getElem hx⟩, h4'.frozenAt k, ⟨?_, (hb.trans (b.mono (by omega))).setCell (p := ⟨g, k, none⟩) (Nat.le_refl _) v⟩⟩
  obtain ⟨a, c, e, hc, hca⟩ := ca_row hr
  have hr' : w3.ownsRow (g + 1) 24 4 v s0.cs.length (flC s0.cs) := row_base hgW hr
  refine ⟨xs.set k v, dn ++ [⟨a, c, s0.cs⟩], by simp [h1], fun j s hj => ?_, fun j s hj => ?_, (h4'.stored k v).1, fun j s hj => ?_⟩
  · rcases Nat.lt_or_ge j k with hjk | hjk
    · rw [List.getElem?_append_left (by omega)] at hj
      exact h2 j s hj
    · rw [List.getElem?_append_right (by omega)] at hj
      obtain rfl : j = k := by have := (List.getElem?_eq_some_iff.1 hj).1; simp at this; omega
      rw [h1, Nat.sub_self] at hj
      simp only [List.getElem?_cons_zero, Option.some.injEq] at hj
      exact ⟨s0, hs, by rw [← hj]⟩
  · rcases Nat.lt_or_ge j k with hjk | hjk
    · rw [List.getElem?_append_left (by omega)] at hj
      have h3' := h3 j s hj
      exact ownsRow_setCell_below (owns_same h3' (fun q e => b.block q (h3'.lt q e).2)) (a := ⟨g, k, none⟩) (Nat.lt_succ_self _) v
    · rw [List.getElem?_append_right (by omega)] at hj
      obtain rfl : j = k := by have := (List.getElem?_eq_some_iff.1 hj).1; simp at this; omega
      rw [h1, Nat.sub_self] at hj
      simp only [List.getElem?_cons_zero, Option.some.injEq] at hj
      rw [← hj, sl_of_slice, ← e]
      exact ownsRow_setCell_below hr' (a := ⟨g, j, none⟩) (Nat.lt_succ_self _) v
  · rcases Nat.lt_or_ge j k with hjk | hjk
    · rw [List.getElem?_append_left (by omega)] at hj
      rw [List.getElem?_set_ne (by omega)]
      exact h5 j s hj
    · rw [List.getElem?_append_right (by omega)] at hj
      obtain rfl : j = k := by have := (List.getElem?_eq_some_iff.1 hj).1; simp at this; omega
      rw [h1, Nat.sub_self] at hj
      simp only [List.getElem?_cons_zero, Option.some.injEq] at hj
      rw [← hj, sl_of_slice, ← e, List.getElem?_set_self hx]
theorem CLI.all {w W : World} {g m : Nat} {ls : List Sl} (h : CLI w g m ls m W) (hl : ls.length = m) (hb : ∀ s ∈ ls, s.cs.length < 1000000000000000) :
    ∃ ls' : List Sl, LA W.heap.size W (some ⟨g, 0, none⟩) ls' ∧ ls'.length = m ∧ ls'.map Sl.cs = ls.map Sl.cs := by
  obtain ⟨⟨xs, dn, h1, h2, h3, h4, h5⟩, _⟩ := h
  refine ⟨dn, fun j s hj => ?_, h1, ?_⟩
  · have hjl : j < m := by have := (List.getElem?_eq_some_iff.1 hj).1; omega
    obtain ⟨q1, q2⟩ := row_len (h3 j s hj)
    obtain ⟨s0, e0, e1⟩ := h2 j s hj
    refine ⟨⟨g, 0, rfl, (h4.lt g rfl).2, ?_⟩, q2, q1, by rw [e1]; exact hb s0 (List.mem_of_getElem? e0)⟩
    rw [Nat.zero_add, h4.cellAt j (by omega)]
    exact h5 j s hj
  · apply List.ext_getElem?
    intro j
    rw [List.getElem?_map, List.getElem?_map]
    cases e : dn[j]? with
    | some s =>
      obtain ⟨s0, e0, e1⟩ := h2 j s e
      rw [e0]
      simp [e1]
    | none =>
      have : m ≤ j := by rw [← h1]; exact List.getElem?_eq_none_iff.1 e
      rw [List.getElem?_eq_none (by omega)]
/-- What Cells hands back. -/
def itV (b : Bool) (c0 : Nat) : Value := if b then .func (.func 34) #[] #[.pointer (some ⟨c0, 0, none⟩)] else .func (.func 33) #[] #[]
def CellsOut (w : World) (m : Nat) (ls : List Sl) (r : Ending) (w' : World) : Prop := ∃ (ls' : List Sl) (c0 : Nat) (a' : Option Addr), r = .returned (itV (allS ls') c0) ∧ w'.cell? ⟨c0, 0, none⟩ = some (.slice a' m m) ∧ LA w'.heap.size w' a' ls' ∧ ls'.length = m ∧ ls'.map Sl.cs = ls.map Sl.cs ∧ Below w.heap.size w w'
set_option maxRecDepth 100000 in
set_option maxHeartbeats 2000000 in
theorem cells_any (m cp : Nat) (a : Option Addr) (ls : List Sl) (w : World) (hla : LA w.heap.size w a ls) (hl : ls.length = m) (hm : m < 800000) (hb : ∀ s ∈ ls, s.cs.length * 48 ≤ 140737488355328) :
    Calls Try.prog 18 #[.slice a m cp] w (CellsOut w m ls) := by
  obtain ⟨i0, hi, hz0, hz1, hz2⟩ := info_parts info25
  have HC : Hid (LA w.heap.size w a ls) := hla
  have HL : Hid (ls.length = m) := hl
  have HBB : Hid (∀ s ∈ ls, s.cs.length * 48 ≤ 140737488355328) := hb
  clear hla hl hb
  go_enter Try.func18, Try.ntmps18
  go_wp2_with (refine wpList_make_full _ rfl _ _ 32 rfl w.heap.size 25 i0 (.slice none 0 0) 1 Try.underlying32 hi hz0 hz1 .i64 .i64 _ _ m rfl rfl rfl rfl (by rw [hz2]; omega) (by unfold maxLen; omega) (Nat.le_refl _) ?_; intro w1 hown1 hg1; have HI : Hid (CLI w w.heap.size m ls 0 w1) := ⟨⟨_, [], rfl, fun j s h => (by simp at h), fun j s h => (by simp at h), hown1, fun j s h => (by simp at h)⟩, (Below.refl _ w).grown hg1 (Nat.le_refl _) (fun k e => (by cases e))⟩; clear hown1 hg1)
  go_loopw [11] (fun i wr => ∃ (k : Nat), k ≤ m ∧ i = .int .i64 (k : Nat) ∧ Hid (CLI w w.heap.size m ls k wr)) (fun i _ => m - (intOf i).toNat)
  case atStart => exact ⟨0, by omega, rfl, HI.out⟩
  case round =>
    clear HI
    obtain ⟨k, hkn, rfl, HK⟩ := hrel
    by_cases hlt : k < m
    · obtain ⟨s, hs⟩ : ∃ s, ls[k]? = some s := ⟨ls[k]'(by rw [HL.out]; exact hlt), List.getElem?_eq_getElem _⟩
      have HC2 : LA w.heap.size wr a ls := LA.below HC.out (fun b hb => HK.out.bel.block b (by omega))
      obtain ⟨⟨b, off, rfl, _, x0⟩, hca, _, hsn⟩ := HC2 k s hs
      have HX : Hid (ls[k]? = some s) := hs
      have HCL : Hid (Calls Try.prog 27 #[.slice s.a s.cs.length s.c] wr fun r w' => ∃ v, r = .returned v ∧ w'.ownsRow wr.heap.size 24 4 v s.cs.length (flC s.cs) ∧ Below wr.heap.size wr w') := clone_any _ _ _ _ wr (hca.up (by have := HK.out.bel.size; omega)) rfl (HBB.out s (List.mem_of_getElem? hs))
      rw [slV] at x0
      obtain ⟨sa, hsa⟩ : ∃ sa, s.a = sa := ⟨_, rfl⟩
      obtain ⟨sn, hsl⟩ : ∃ sn, s.cs.length = sn := ⟨_, rfl⟩
      obtain ⟨sc, hsc⟩ : ∃ sc, s.c = sc := ⟨_, rfl⟩
      have HSL : Hid (s.cs.length = sn) := hsl
      rw [hsa, hsl, hsc] at HCL x0
      clear hs HC2 hca hsn hsa hsl hsc
      go_wp2_with (go_at_call 27; refine Calls.mono HCL.out ?_; rintro e w3 ⟨v, rfl, h3, b3⟩; obtain ⟨va, vc, hv⟩ := row_form4 h3; subst hv; obtain ⟨⟨u, hu⟩, hf, hI⟩ := HK.out.step hlt HX.out (by rw [HSL.out]; exact h3) b3; have HI3 : Hid _ := hI; clear h3 b3 hI)
      go_roundw
      case rel => exact ⟨k + 1, by omega, by go_num, HI3.out⟩
      case measure => simp [intOf]; omega
    · obtain rfl : k = m := by omega
      obtain ⟨ls', q1, q2, q3⟩ := HK.out.all HL.out (fun s hs => by have := HBB.out s hs; omega)
      have HM : Hid (Calls Try.prog 26 #[.slice (some ⟨w.heap.size, 0, none⟩) k k] wr fun r w' => r = .returned (itV (allS ls') wr.heap.size) ∧ w'.heap[wr.heap.size]? = some (.cells #[.slice (some ⟨w.heap.size, 0, none⟩) k k] 32 (0, 0)) ∧ Below wr.heap.size wr w') := merged_any wr.heap.size k k _ ls' wr q1 q2 (Nat.le_refl _) (by omega)
      have HQ : Hid (LA wr.heap.size wr (some ⟨w.heap.size, 0, none⟩) ls' ∧ ls'.length = k ∧ ls'.map Sl.cs = ls.map Sl.cs) := ⟨q1, q2, q3⟩
      clear q1 q2 q3
      go_wp2_with (go_at_call 26; refine Calls.mono HM.out ?_; rintro e w4 ⟨rfl, h4, b4⟩; have H4 : Hid _ := h4; have B4 : Hid _ := b4; clear h4 b4)
      go_ret
      exact ⟨ls', _, _, rfl, Boxed.cell (t := 32) H4.out, (HQ.out.1.below (fun b hb => B4.out.block b hb)).up B4.out.size, HQ.out.2.1, HQ.out.2.2, HK.out.bel.trans (B4.out.mono HK.out.bel.size)⟩
end Go.Proofs.Ytohamjoiohfoiaa
