/-
  Two heads change places.
-/
import Derived.Test.YtohamjoiohfoiaaHeap0
namespace Go.Proofs.Ytohamjoiohfoiaa
open Go.RowKit
def swapL (hs : List Hd) (i j : Nat) (x y : Hd) : List Hd := (hs.set i y).set j x
theorem flH_set : ∀ {l : List Hd} {i : Nat} {h : Hd}, i < l.length → flH (l.set i h) = ((flH l).set (i * 2) (hdS h)).set (i * 2 + 1) (.int .i64 (h.nth : Nat))
  | [], i, h, e => by simp at e
  | a :: l, 0, h, _ => rfl
  | a :: l, i + 1, h, e => by
    have ih := flH_set (l := l) (i := i) (h := h) (by simpa using e)
    show hdL a ++ flH (l.set i h) = ((hdL a ++ flH l).set ((i + 1) * 2) (hdS h)).set ((i + 1) * 2 + 1) _
    have e2 : (hdL a).length = 2 := rfl
    rw [ih, List.set_append_right _ _ (by rw [e2]; omega), List.set_append_right _ _ (by rw [e2]; omega), e2, show (i + 1) * 2 - 2 = i * 2 by omega, show (i + 1) * 2 + 1 - 2 = i * 2 + 1 by omega]
set_option maxRecDepth 100000 in
set_option maxHeartbeats 4000000 in
theorem hswap_any (z p i j : Nat) (hs : List Hd) (x y : Hd) (W : World) (h : HAt z W p hs) (hx : hs[i]? = some x) (hy : hs[j]? = some y) :
    Calls Try.prog 68 #[.pointer (some ⟨p, 0, none⟩), .int .i64 (i : Nat), .int .i64 (j : Nat)] W fun r W' => (∃ v, r = .returned v) ∧ HAt z W' p (swapL hs i j x y) ∧ Kh z p W W' := by
  obtain ⟨g, cap, hb, hr⟩ := h.ex
  have hi := (List.getElem?_eq_some_iff.1 hx).1
  have hj := (List.getElem?_eq_some_iff.1 hy).1
  obtain ⟨ea, ea'⟩ := flH_at hx
  obtain ⟨eb, eb'⟩ := flH_at hy
  have c0 := hb.cell
  have a0 := (hr.cellAt (i * 2) (by omega)).trans ea
  have a1 := (hr.cellAt (i * 2 + 1) (by omega)).trans ea'
  have b0 := (hr.cellAt (j * 2) (by omega)).trans eb
  have b1 := (hr.cellAt (j * 2 + 1) (by omega)).trans eb'
  have t1 := hr.stored (i * 2) (hdS y)
  have t2 := t1.1.stored (i * 2 + 1) (.int .i64 (y.nth : Nat))
  have t3 := t2.1.stored (j * 2) (hdS x)
  have t4 := t3.1.stored (j * 2 + 1) (.int .i64 (x.nth : Nat))
  have f1 := hr.frozenAt (i * 2)
  have f2 := t1.1.frozenAt (i * 2 + 1)
  have f3 := t2.1.frozenAt (j * 2)
  have f4 := t3.1.frozenAt (j * 2 + 1)
  have hlen : (flH hs).length = hs.length * 2 := flH_len hs
  obtain ⟨u3, d3⟩ : ∃ u, ((W.setCell ⟨g, i * 2, none⟩ (hdS y)).setCell ⟨g, i * 2 + 1, none⟩ (.int .i64 (y.nth : Nat))).cell? ⟨g, j * 2, none⟩ = some u := ⟨_, (t2.1.cellAt (j * 2) (by omega)).trans (List.getElem?_eq_getElem (by simp; omega))⟩
  obtain ⟨u4, d4⟩ : ∃ u, (((W.setCell ⟨g, i * 2, none⟩ (hdS y)).setCell ⟨g, i * 2 + 1, none⟩ (.int .i64 (y.nth : Nat))).setCell ⟨g, j * 2, none⟩ (hdS x)).cell? ⟨g, j * 2 + 1, none⟩ = some u := ⟨_, (t3.1.cellAt (j * 2 + 1) (by omega)).trans (List.getElem?_eq_getElem (by simp; omega))⟩
  have e2 : (W.setCell ⟨g, i * 2, none⟩ (hdS y)).cell? ⟨g, i * 2 + 1, none⟩ = some (.int .i64 (x.nth : Nat)) := (t1.1.cellAt (i * 2 + 1) (by omega)).trans (by rw [List.getElem?_set_ne (by omega)]; exact ea')
  have HT : Hid _ := t4.1
  clear t1 t2 t3 t4
  rw [hdS] at a0 b0
  simp only [hdS] at f2 f3 f4 d3 d4 e2
  obtain ⟨n, hn⟩ : ∃ n, hs.length = n := ⟨_, rfl⟩
  rw [hn] at c0 hi hj
  have HH : Hid (HAt z W p hs) := h
  clear h
  go_enter Try.func68, Try.ntmps68
  go_wp2_with fail
  go_region
  obtain ⟨Z, hZ⟩ : ∃ Z, (((W.setCell ⟨g, i * 2, none⟩ (hdS y)).setCell ⟨g, i * 2 + 1, none⟩ (.int .i64 (y.nth : Nat))).setCell ⟨g, j * 2, none⟩ (hdS x)).setCell ⟨g, j * 2 + 1, none⟩ (.int .i64 (x.nth : Nat)) = Z := ⟨_, rfl⟩
  have hZ' := hZ
  simp only [hdS] at hZ'
  rw [hZ']
  go_end0
  have kz : ∀ k : Nat, k ≠ g → Z.heap[k]? = W.heap[k]? := fun k hk => by
    rw [← hZ]
    exact (Below.heap_setCell _ _ _ k hk).trans ((Below.heap_setCell _ _ _ k hk).trans ((Below.heap_setCell _ _ _ k hk).trans (Below.heap_setCell _ _ _ k hk)))
  have hgz := (hr.lt g rfl).1
  have hpg : p ≠ g := fun e => hb.not_row (by decide) hr (by rw [e]; rfl)
  have hsz : Z.heap.size = W.heap.size := by rw [← hZ]; simp [World.setCell]
  have hos : Z.os = W.os ∧ Z.tape = W.tape ∧ Z.output = W.output := by rw [← hZ]; exact ⟨rfl, rfl, rfl⟩
  have hl2 : (swapL hs i j x y).length = hs.length := by simp [swapL]
  have hfl : flH (swapL hs i j x y) = ((((flH hs).set (i * 2) (hdS y)).set (i * 2 + 1) (.int .i64 (y.nth : Nat))).set (j * 2) (hdS x)).set (j * 2 + 1) (.int .i64 (x.nth : Nat)) := by
    unfold swapL
    rw [flH_set (by simp; omega), flH_set (by omega)]
  have hTT := HT.out
  rw [hZ, ← hfl] at hTT
  refine ⟨⟨_, rfl⟩, ⟨⟨g, cap, ?_, ?_⟩, HH.out.pz, fun q hq => ?_⟩, ⟨hos.1, hos.2.1, hos.2.2, by show W.heap.size ≤ Z.heap.size; omega, fun k o ho hk => ?_⟩⟩
  · rw [hl2]
    exact (kz p hpg).trans hb
  · rw [hl2]
    exact hTT
  · have hm : q ∈ hs := by
      unfold swapL at hq
      rcases List.mem_or_eq_of_mem_set hq with hq | rfl
      · rcases List.mem_or_eq_of_mem_set hq with hq | rfl
        · exact hq
        · exact List.mem_of_getElem? hy
      · exact List.mem_of_getElem? hx
    exact ⟨(HH.out.each q hm).1.below (fun b hb => kz b (by omega)), (HH.out.each q hm).2⟩
  · refine (kz k (fun e => ?_)).trans ho
    rcases hk with hk | hk
    · omega
    · rcases hr.2 with ⟨ev, _⟩ | ⟨g', cap', cur, ev, _, hh, _⟩
      · cases ev
      · simp only [Value.slice.injEq, Option.some.injEq, Addr.mk.injEq] at ev
        rw [e, ev.1.1, hh] at ho
        cases ho
        exact hk.2 _ _ rfl
end Go.Proofs.Ytohamjoiohfoiaa
