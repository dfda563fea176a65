/-
  The last head is taken off.
-/
import Derived.Test.YtohamjoiohfoiaaHeap0
import Derived.WalkSmall
namespace Go.Proofs.Ytohamjoiohfoiaa
open Go.RowKit
theorem flH_app (a b : List Hd) : flH (a ++ b) = flH a ++ flH b := by simp [flH]
set_option maxRecDepth 100000 in
set_option maxHeartbeats 4000000 in
theorem hpop_any (z p : Nat) (hs : List Hd) (x : Hd) (W : World) (h : HAt z W p (hs ++ [x])) (hl : hs.length < 1000000) :
    Calls Try.prog 66 #[.pointer (some ⟨p, 0, none⟩)] W fun r W' => (∃ v, r = .returned v) ∧ HAt z W' p hs ∧ Kh z p W W' := by
  obtain ⟨g, cap, hb, hr⟩ := h.ex
  obtain ⟨n, hn⟩ : ∃ n, hs.length = n := ⟨_, rfl⟩
  have hl1 : (hs ++ [x]).length = n + 1 := by simp [hn]
  rw [hl1] at hb hr
  have hx : (hs ++ [x])[n]? = some x := by rw [← hn]; simp
  obtain ⟨ea, ea'⟩ := flH_at hx
  have c0 := hb.cell
  have a0 := (hr.cellAt (n * 2) (by omega)).trans ea
  have a1 := (hr.cellAt (n * 2 + 1) (by omega)).trans ea'
  have fz := hb.frozen
  rw [hdS] at a0
  have HH : Hid (HAt z W p (hs ++ [x])) := h
  have HN : Hid (hs.length = n) := hn
  have hnn : n < 1000000 := by omega
  have hne : ((n : Int) + 1 - 1) = (n : Int) := by omega
  have HHB : Hid (Boxed W p 69 (.slice (some ⟨g, 0, none⟩) (n + 1) cap)) := hb
  have HHR : Hid (W.ownsRow z 72 2 (.slice (some ⟨g, 0, none⟩) (n + 1) cap) (n + 1) (flH (hs ++ [x]))) := hr
  obtain ⟨WA, hWA⟩ : ∃ WA, W.alloc (.cells #[.slice (some ⟨x.b, x.off, none⟩) x.cs.length x.cap, .int .i64 (x.nth : Nat)] 72) = WA := ⟨_, rfl⟩
  have bA : Below W.heap.size W WA := by rw [← hWA]; exact (Below.refl _ W).alloc (Nat.le_refl _) _
  have hbA : Boxed WA p 69 (.slice (some ⟨g, 0, none⟩) (n + 1) cap) := (bA.block p hb.lt).trans hb
  have cA := hbA.cell
  have fA := hbA.frozen
  have hnew : WA.heap[W.heap.size]? = some (.cells #[.slice (some ⟨x.b, x.off, none⟩) x.cs.length x.cap, .int .i64 (x.nth : Nat)] 72 (0, 0)) := by rw [← hWA]; exact World.alloc_heap_new _ _
  have hcn : n + 1 ≤ cap := by
    rcases hr.2 with ⟨ev, _⟩ | ⟨g', cap', cur, ev, _, hh, hnc, _⟩
    · cases ev
    · simp only [Value.slice.injEq, Option.some.injEq, Addr.mk.injEq, true_and] at ev
      omega
  have hps : W.heap.size ≠ p := by have := hb.lt; omega
  have hB : (WA.setCell ⟨p, 0, none⟩ (.slice (some ⟨g, 0, none⟩) n cap)).heap[W.heap.size]? = some (.cells #[.slice (some ⟨x.b, x.off, none⟩) x.cs.length x.cap, .int .i64 (x.nth : Nat)] 72 (0, 0)) := (Below.heap_setCell _ _ _ _ hps).trans hnew
  have z0 : (WA.setCell ⟨p, 0, none⟩ (.slice (some ⟨g, 0, none⟩) n cap)).cell? ⟨W.heap.size, 0, none⟩ = some (.slice (some ⟨x.b, x.off, none⟩) x.cs.length x.cap) := by have := cells_of_block hB 0; simpa using this
  have z1 : (WA.setCell ⟨p, 0, none⟩ (.slice (some ⟨g, 0, none⟩) n cap)).cell? ⟨W.heap.size, 1, none⟩ = some (.int .i64 (x.nth : Nat)) := by have := cells_of_block hB 1; simpa using this
  have HBA : Hid (Below W.heap.size W WA) := bA
  have HHA : Hid (Boxed WA p 69 (.slice (some ⟨g, 0, none⟩) (n + 1) cap)) := hbA
  clear h hb hr hx hl hn hl1 bA hbA hnew hB
  go_enter Try.func66, Try.ntmps66
  go_wp2_with fail
  go_ret
  have hgz := (World.ownsRow.lt HHR.out g rfl).1
  have hrA : WA.ownsRow z 72 2 (.slice (some ⟨g, 0, none⟩) (n + 1) cap) (n + 1) (flH hs ++ flH [x]) := by
    rw [← flH_app]
    exact owns_same HHR.out (fun k e => HBA.out.block k (World.ownsRow.lt HHR.out k e).2)
  have hrB := ownsRow_pop (by rw [flH_len, HN.out]) hrA
  have kz : ∀ k : Nat, k ≠ p → k < W.heap.size → (WA.setCell ⟨p, 0, none⟩ (.slice (some ⟨g, 0, none⟩) n cap)).heap[k]? = W.heap[k]? := fun k hk hlt => (Below.heap_setCell _ _ _ k hk).trans (HBA.out.block k hlt)
  have hpg : g ≠ p := fun e => HHB.out.not_row (by decide) HHR.out (by rw [← e]; rfl)
  have hzs := HH.out.zle
  have hpz := HH.out.pz
  refine ⟨⟨_, rfl⟩, ⟨⟨g, cap, ?_, ?_⟩, hpz, fun q hq => ⟨(HH.out.each q (by simp [hq])).1.below (fun b hb => kz b (by omega) (by omega)), (HH.out.each q (by simp [hq])).2⟩⟩, ⟨?_, ?_, ?_, ?_, fun k o ho hk => ?_⟩⟩
  · rw [HN.out]
    exact HHA.out.set _
  · rw [HN.out]
    refine owns_same hrB (fun k e => Below.heap_setCell _ _ _ k (fun e2 => hpg ?_))
    have e1 : g = k := by simpa [Value.ownBlock] using e
    rw [e1]
    exact e2
  · exact HBA.out.os
  · exact HBA.out.tape
  · exact HBA.out.output
  · have := HBA.out.size
    simp [World.setCell]
    exact this
  · refine (kz k (fun e => ?_) (Array.getElem?_eq_some_iff.1 ho).1).trans ho
    rcases hk with hk | hk
    · omega
    · exact hk.1 e
end Go.Proofs.Ytohamjoiohfoiaa
