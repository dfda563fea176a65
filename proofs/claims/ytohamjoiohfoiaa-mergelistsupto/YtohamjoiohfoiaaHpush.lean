/-
  A further head behind the others.
-/
import Derived.Test.YtohamjoiohfoiaaHpop
import Derived.Deep.AppendLies
import Derived.Deep.RegionLaw
namespace Go.Proofs.Ytohamjoiohfoiaa
open Go.RowKit
theorem info72 : (Try.prog.info? 72).map (fun i => (i.zero, i.size, i.bytes)) = some (some (.agg #[.slice none 0 0, .int .i64 0]), 2, 32) := by kernel_rfl
theorem undrew {W w' : World} {row : Option Nat} (h : W.drew.grownBy w' row) : W.grownBy w' row := ⟨h.os, h.tape, h.output, h.size, h.block⟩
theorem assert72 (v : Value) (V : World) : (Instr.typeAssert (.iface 72 v) 20 72 false).run Try.prog V = .ok v V := by kernel_rfl
set_option maxRecDepth 100000 in
set_option maxHeartbeats 4000000 in
theorem hpush_any (z p : Nat) (hs : List Hd) (x : Hd) (W : World) (h : HAt z W p hs) (hl : hs.length < 1000000) (hx : CA z W (some ⟨x.b, x.off, none⟩) x.cs ∧ x.cs.length ≤ x.cap) :
    Calls Try.prog 67 #[.pointer (some ⟨p, 0, none⟩), .iface 72 (.agg #[.slice (some ⟨x.b, x.off, none⟩) x.cs.length x.cap, .int .i64 (x.nth : Nat)])] W fun r W' => (∃ v, r = .returned v) ∧ HAt z W' p (hs ++ [x]) ∧ Kh z p W W' := by
  obtain ⟨i0, hi, hz0, hz1, hz2⟩ := info_parts info72
  obtain ⟨g, cap, hb, hr⟩ := h.ex
  obtain ⟨n, hn⟩ : ∃ n, hs.length = n := ⟨_, rfl⟩
  rw [hn] at hb hr
  have c0 := hb.cell
  have HN : Hid (hs.length = n) := hn
  have HH : Hid (HAt z W p hs) := h
  have HHB : Hid (Boxed W p 69 (.slice (some ⟨g, 0, none⟩) n cap)) := hb
  have HHR : Hid (W.ownsRow z 72 2 (.slice (some ⟨g, 0, none⟩) n cap) n (flH hs)) := hr
  have HX : Hid (CA z W (some ⟨x.b, x.off, none⟩) x.cs ∧ x.cs.length ≤ x.cap) := hx
  have hnn : n < 1000000 := by omega
  have hzs := h.zle
  obtain ⟨XO, hXO⟩ : ∃ XO : Obj, .cells #[.slice (some ⟨x.b, x.off, none⟩) x.cs.length x.cap, .int .i64 (x.nth : Nat)] 72 = XO := ⟨_, rfl⟩
  have bA : Below W.heap.size W (W.alloc XO) := (Below.refl _ W).alloc (Nat.le_refl _) _
  have c1 : (W.alloc XO).cell? ⟨p, 0, none⟩ = some (.slice (some ⟨g, 0, none⟩) n cap) := Boxed.cell (t := 69) ((bA.block p hb.lt).trans hb)
  have HRA : Hid ((W.alloc XO).ownsRow z 72 2 (.slice (some ⟨g, 0, none⟩) n cap) n (flH hs)) := World.ownsRow.alloc hr XO
  have HNC : Hid (∀ j u, [Value.slice (some ⟨x.b, x.off, none⟩) x.cs.length x.cap, .int .i64 (x.nth : Nat)][j]? = some u → (W.alloc XO).cell? ((⟨W.heap.size, 0, none⟩ : Addr).add j) = some u) := fun j u hj => by
    rw [addr_add, ← hXO, cells_of_block (World.alloc_heap_new W _), Nat.zero_add]
    simpa using hj
  have HF : Hid (∀ g2 c2 w2, w2.ownsRow z 72 2 (.slice (some ⟨g2, 0, none⟩) (n + 1) c2) (n + 1) (flH hs ++ [Value.slice (some ⟨x.b, x.off, none⟩) x.cs.length x.cap, .int .i64 (x.nth : Nat)]) → (W.alloc XO).grownBy w2 (some g) → w2.cell? ⟨p, 0, none⟩ = some (.slice (some ⟨g, 0, none⟩) n cap) ∧ w2.frozen? ⟨p, 0, none⟩ = false ∧ Hid (HAt z (w2.setCell ⟨p, 0, none⟩ (.slice (some ⟨g2, 0, none⟩) (n + 1) c2)) p (hs ++ [x]) ∧ Kh z p W (w2.setCell ⟨p, 0, none⟩ (.slice (some ⟨g2, 0, none⟩) (n + 1) c2)))) := fun g2 c2 w2 hown hg => by
    have hbA : Boxed (W.alloc XO) p 69 (.slice (some ⟨g, 0, none⟩) n cap) := (bA.block p hb.lt).trans hb
    have hpg : p ≠ g := fun e => hb.not_row (by decide) hr (by rw [e]; rfl)
    have hb2 : Boxed w2 p 69 (.slice (some ⟨g, 0, none⟩) n cap) := hbA.kept hg (fun e => hpg (by simpa using e))
    have hgz := (hr.lt g rfl).1
    have keep : ∀ (k : Nat), k < W.heap.size → k ≠ p → k ≠ g → (w2.setCell ⟨p, 0, none⟩ (.slice (some ⟨g2, 0, none⟩) (n + 1) c2)).heap[k]? = W.heap[k]? := fun k h1 h2 h3 => (Below.heap_setCell _ _ _ k h2).trans ((hg.block k (by simp; omega) (fun e => h3 (by simpa using e))).trans (Below.heap_alloc _ _ _ h1))
    have hl1 : (hs ++ [x]).length = n + 1 := by simp [hn]
    have hpz := h.pz
    refine ⟨hb2.cell, hb2.frozen, ⟨⟨g2, c2, ?_, ?_⟩, hpz, fun q hq => ?_⟩, ⟨?_, ?_, ?_, ?_, fun k o ho hk => ?_⟩⟩
    · rw [hl1]; exact hb2.set _
    · rw [hl1, flH_app]
      exact owns_same hown (fun k e => Below.heap_setCell _ _ _ k (fun e2 => hb2.not_row (by decide) hown (by rw [e]; exact congrArg some e2.symm)))
    · rcases List.mem_append.1 hq with e | e
      · exact ⟨(h.each q e).1.below (fun b hb => keep b (by omega) (by omega) (by omega)), (h.each q e).2⟩
      · rw [List.mem_singleton] at e
        rw [e]
        exact ⟨hx.1.below (fun b hb => keep b (by omega) (by omega) (by omega)), hx.2⟩
    · exact hg.os
    · exact hg.tape
    · exact hg.output
    · have h1 := hg.size
      simp at h1
      simp [World.setCell]
      omega
    · refine (keep k (Array.getElem?_eq_some_iff.1 ho).1 (fun e => ?_) (fun e => ?_)).trans ho
      · rcases hk with hk | hk
        · omega
        · exact hk.1 e
      · rcases hk with hk | hk
        · omega
        · rcases hr.2 with ⟨ev, _⟩ | ⟨g', cap', cur, ev, _, hh, _⟩
          · cases ev
          · simp only [Value.slice.injEq, Option.some.injEq, Addr.mk.injEq] at ev
            rw [e, ev.1.1, hh] at ho
            cases ho
            exact hk.2 _ _ rfl
  clear h hb hr hn hl hx bA
  have hta := assert72
  go_enter Try.func67, Try.ntmps67
  rw [← hXO] at c1 HRA HNC HF
  clear hXO
  go_region_law (refine step_append_lies _ rfl (.tmp 7) (.tmp 10) 69 rfl z 72 i0 (.agg #[.slice none 0 0, .int .i64 0]) 2 32 Try.underlying69 hi hz0 hz1 hz2 rfl (by decide) (.slice (some ⟨g, 0, none⟩) n cap) n (flH hs) rfl (by exact HRA.out) ⟨W.heap.size, 0, none⟩ 1 1 [.slice (some ⟨x.b, x.off, none⟩) x.cs.length x.cap, .int .i64 (x.nth : Nat)] rfl rfl (by exact HNC.out) (by simp [Value.oneCell']) (by decide) (by unfold maxLen; omega) (by omega) (by simp; omega) (W.heap.size + 1) (by simp) ?_; intro g2 c2 w2 hown2 hg2 hat2 hlt2; obtain ⟨x1, x2, HZ⟩ := HF.out g2 c2 w2 hown2 (undrew hg2); clear hown2 hg2 hat2 hlt2)
  all_goals
    go_end0
    exact ⟨⟨_, rfl⟩, HZ.out⟩
end Go.Proofs.Ytohamjoiohfoiaa
