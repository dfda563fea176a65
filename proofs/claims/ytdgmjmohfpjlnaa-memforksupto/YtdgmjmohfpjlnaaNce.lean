/-
  Cells of a table that nobody made.
-/
import Derived.Test.YtdgmjmohfpjlnaaRnl
namespace Go.Proofs.Ytdgmjmohfpjlnaa
open Go.RowKit Go.Shelf
attribute [local go_sem] Oper.semAt_some
set_option maxRecDepth 100000 in
set_option maxHeartbeats 4000000 in
theorem nob_cells (p : Option Addr) (w : World) (h : Nby w p) : Calls Try.prog 19 #[.pointer p] w fun e w' => e = .returned (.slice none 0 0) ∧ Below w.heap.size w w' := by
  refine callsIn_wide.1 (callsIn_of_wp_marks (F := Fence.wide) (n := 8) Try.func19 rfl trivial ?_ rfl)
  refine wpIn_wide.2 ?_
  simp only [Try.ntmps19, List.size_toArray, List.length_cons, List.length_nil, Nat.reduceAdd, Nat.reduceSub, Array.replicate_succ, Array.replicate_zero, List.push_toArray, List.append_toArray, List.nil_append, List.cons_append]
  go_wp2_with fail
  refine (scan_any p ⟨#[]⟩ ⟨#[]⟩ _).mono ?_
  rintro e w1 ⟨rfl, hw1⟩
  rw [hw1]
  clear hw1 w1
  go_wp2_with fail
  have HB : Hid (Below w.heap.size w ((((w.alloc (.cells #[.slice none 0 0] 27)).alloc (.cells #[.pointer p] 23)).alloc (.cells #[.string ⟨#[]⟩] 9)).alloc (.cells #[.string ⟨#[]⟩] 9))) := ((((Below.refl _ w).alloc (Nat.le_refl _) _).alloc (by simp) _).alloc (by simp; omega) _).alloc (by simp; omega) _
  have c0 : ((((w.alloc (.cells #[.slice none 0 0] 27)).alloc (.cells #[.pointer p] 23)).alloc (.cells #[.string ⟨#[]⟩] 9)).alloc (.cells #[.string ⟨#[]⟩] 9)).cell? ⟨w.heap.size, 0, none⟩ = some (.slice none 0 0) := ((((Boxed.new w 27 (.slice none 0 0)).alloc _).alloc _).alloc _).cell
  have c1 : ((((w.alloc (.cells #[.slice none 0 0] 27)).alloc (.cells #[.pointer p] 23)).alloc (.cells #[.string ⟨#[]⟩] 9)).alloc (.cells #[.string ⟨#[]⟩] 9)).cell? ⟨w.heap.size + 1, 0, none⟩ = some (.pointer p) := by
    have h1 := Boxed.new (w.alloc (.cells #[.slice none 0 0] 27)) 23 (.pointer p)
    rw [World.size_alloc] at h1
    exact ((h1.alloc _).alloc _).cell
  have hz : ((((w.alloc (.cells #[.slice none 0 0] 27)).alloc (.cells #[.pointer p] 23)).alloc (.cells #[.string ⟨#[]⟩] 9)).alloc (.cells #[.string ⟨#[]⟩] 9)).heap.size = w.heap.size + 4 := by simp
  generalize ((((w.alloc (.cells #[.slice none 0 0] 27)).alloc (.cells #[.pointer p] 23)).alloc (.cells #[.string ⟨#[]⟩] 9)).alloc (.cells #[.string ⟨#[]⟩] 9)) = W2 at *
  refine (wpIn_wide (n := 8)).1 ?_
  refine wpIn_rangeFunc_nil rfl (by omega) (gf := 40) (lb := #[.pointer (some ⟨w.heap.size + 1, 0, none⟩), .pointer (some ⟨w.heap.size + 1 + 1, 0, none⟩), .pointer (some ⟨w.heap.size + 1 + 1 + 1, 0, none⟩)]) rfl trivial (enters_of Try.func40 (by kernel_rfl) rfl)
    (fun l W hb => callsIn_wide.2 ((scan1_nob l (w.heap.size + 1) _ _ p W ((hb.cell (p := ⟨w.heap.size + 1, 0, none⟩) (by show w.heap.size + 1 < W2.heap.size; omega)).trans c1) (h.below (HB.out.trans (hb.mono HB.out.size)))).mono (fun e W' q => ⟨q.1, _, q.2⟩))) ?_
  intro D W hD hb hK
  have c2 := (hb.cell (p := ⟨w.heap.size, 0, none⟩) (by show w.heap.size < W2.heap.size; omega)).trans c0
  have HBW : Hid (Below w.heap.size w W) := HB.out.trans (hb.mono HB.out.size)
  have HK : Hid _ := hK
  have HD : Hid (w.heap.size ≤ D) := by rw [Hid]; omega
  clear hb hK hD c0 c1 hz h
  go_wp2_with fail
  refine leaves_marks [D] _ (by simp) (fun D' hD' => by rw [List.mem_singleton.1 hD']; exact HK.out) (fun w' e0 e1 e2 => ?_)
  exact ⟨_, results_tmp rfl _ _ _, rfl, HBW.out.trans ⟨e0.1, e0.2.1, e0.2.2, by omega, fun q hq => e2 q (fun k => by have := HD.out; rw [List.mem_singleton.1 k] at hq; omega)⟩⟩
end Go.Proofs.Ytdgmjmohfpjlnaa
