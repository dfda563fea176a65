/-
  Goes over the Scan of a table that nobody made.
-/
import Derived.Test.YtdgmjmohfpjlnaaNce
import Derived.LoopN
namespace Go.Proofs.Ytdgmjmohfpjlnaa
open Go.RowKit Go.Shelf
attribute [local go_sem] Oper.semAt_some
set_option maxRecDepth 100000 in
set_option maxHeartbeats 8000000 in
theorem goes_nob (bm : Nat) (a2 a3 p : Option Addr) (w : World) (hB : bm < w.heap.size) (hm : w.cell? ⟨bm, 0, none⟩ = some (.pointer p)) (h : Nby w p) : Calls Try.prog 24 #[.func (.func 40) #[] #[.pointer (some ⟨bm, 0, none⟩), .pointer a2, .pointer a3], .slice none 0 0, .int .i64 1] w fun e w' => e = .returned (.bool true) ∧ Below w.heap.size w w' := by
  have hfe := feq
  refine callsIn_wide.1 (callsIn_of_wp_marks (F := Fence.wide) (n := 8) Try.func24 rfl trivial ?_ rfl)
  refine wpIn_wide.2 ?_
  simp only [Try.ntmps24, List.size_toArray, List.length_cons, List.length_nil, Nat.reduceAdd, Nat.reduceSub, Array.replicate_succ, Array.replicate_zero, List.push_toArray, List.append_toArray, List.nil_append, List.cons_append]
  go_wp2_with fail
  refine wp_loop_rounds 3 ?_
  unfold Code.rounds
  go_wp2_with fail
  have HB : Hid (Below w.heap.size w (((((w.alloc (.cells #[.slice none 0 0] 27)).alloc (.cells #[.int .i64 1] 3)).alloc (.cells #[.bool false] 4)).alloc (.cells #[.int .i64 0] 3)).alloc (.cells #[.int .i64 0] 3))) := (((((Below.refl _ w).alloc (Nat.le_refl _) _).alloc (by simp) _).alloc (by simp; omega) _).alloc (by simp; omega) _).alloc (by simp; omega) _
  have x0 : Boxed (((((w.alloc (.cells #[.slice none 0 0] 27)).alloc (.cells #[.int .i64 1] 3)).alloc (.cells #[.bool false] 4)).alloc (.cells #[.int .i64 0] 3)).alloc (.cells #[.int .i64 0] 3)) (w.heap.size) 27 (.slice none 0 0) := by
    have h1 := Boxed.new w 27 (.slice none 0 0)
    try simp only [World.size_alloc] at h1
    exact ((((h1.alloc _).alloc _).alloc _).alloc _)
  have x1 : Boxed (((((w.alloc (.cells #[.slice none 0 0] 27)).alloc (.cells #[.int .i64 1] 3)).alloc (.cells #[.bool false] 4)).alloc (.cells #[.int .i64 0] 3)).alloc (.cells #[.int .i64 0] 3)) (w.heap.size + 1) 3 (.int .i64 1) := by
    have h1 := Boxed.new (w.alloc (.cells #[.slice none 0 0] 27)) 3 (.int .i64 1)
    try simp only [World.size_alloc] at h1
    exact (((h1.alloc _).alloc _).alloc _)
  have x2 : Boxed (((((w.alloc (.cells #[.slice none 0 0] 27)).alloc (.cells #[.int .i64 1] 3)).alloc (.cells #[.bool false] 4)).alloc (.cells #[.int .i64 0] 3)).alloc (.cells #[.int .i64 0] 3)) (w.heap.size + 1 + 1) 4 (.bool false) := by
    have h1 := Boxed.new ((w.alloc (.cells #[.slice none 0 0] 27)).alloc (.cells #[.int .i64 1] 3)) 4 (.bool false)
    try simp only [World.size_alloc] at h1
    exact ((h1.alloc _).alloc _)
  have x3 : Boxed (((((w.alloc (.cells #[.slice none 0 0] 27)).alloc (.cells #[.int .i64 1] 3)).alloc (.cells #[.bool false] 4)).alloc (.cells #[.int .i64 0] 3)).alloc (.cells #[.int .i64 0] 3)) (w.heap.size + 1 + 1 + 1) 3 (.int .i64 0) := by
    have h1 := Boxed.new (((w.alloc (.cells #[.slice none 0 0] 27)).alloc (.cells #[.int .i64 1] 3)).alloc (.cells #[.bool false] 4)) 3 (.int .i64 0)
    try simp only [World.size_alloc] at h1
    exact (h1.alloc _)
  have x4 : Boxed (((((w.alloc (.cells #[.slice none 0 0] 27)).alloc (.cells #[.int .i64 1] 3)).alloc (.cells #[.bool false] 4)).alloc (.cells #[.int .i64 0] 3)).alloc (.cells #[.int .i64 0] 3)) (w.heap.size + 1 + 1 + 1 + 1) 3 (.int .i64 0) := by
    have h1 := Boxed.new ((((w.alloc (.cells #[.slice none 0 0] 27)).alloc (.cells #[.int .i64 1] 3)).alloc (.cells #[.bool false] 4)).alloc (.cells #[.int .i64 0] 3)) 3 (.int .i64 0)
    try simp only [World.size_alloc] at h1
    exact h1
  have hz : (((((w.alloc (.cells #[.slice none 0 0] 27)).alloc (.cells #[.int .i64 1] 3)).alloc (.cells #[.bool false] 4)).alloc (.cells #[.int .i64 0] 3)).alloc (.cells #[.int .i64 0] 3)).heap.size = w.heap.size + 5 := by simp
  generalize (((((w.alloc (.cells #[.slice none 0 0] 27)).alloc (.cells #[.int .i64 1] 3)).alloc (.cells #[.bool false] 4)).alloc (.cells #[.int .i64 0] 3)).alloc (.cells #[.int .i64 0] 3)) = W2 at *
  have cm := (HB.out.cell (p := ⟨bm, 0, none⟩) hB).trans hm
  have hn2 := h.below HB.out
  refine (wpIn_wide (n := 8)).1 ?_
  refine wpIn_rangeFunc_nil rfl (by omega) (gf := 40) (lb := #[.pointer (some ⟨bm, 0, none⟩), .pointer a2, .pointer a3]) rfl trivial (enters_of Try.func40 (by kernel_rfl) rfl)
    (fun l W hb => callsIn_wide.2 ((scan1_nob l bm _ _ p W ((hb.cell (p := ⟨bm, 0, none⟩) (by show bm < W2.heap.size; omega)).trans cm) (hn2.below hb)).mono (fun e W' q => ⟨q.1, _, q.2⟩))) ?_
  intro D W hD hb hK
  have y0 : Boxed W _ _ _ := (hb.block _ (by omega)).trans x0
  have y1 : Boxed W _ _ _ := (hb.block _ (by omega)).trans x1
  have y2 : Boxed W _ _ _ := (hb.block _ (by omega)).trans x2
  have y3 : Boxed W _ _ _ := (hb.block _ (by omega)).trans x3
  have y4 : Boxed W _ _ _ := (hb.block _ (by omega)).trans x4
  have c0 := y0.cell
  have c1 := y1.cell
  have c2 := y2.cell
  have f2 := y2.frozen
  have c3 := y3.cell
  have c4 := y4.cell
  have HBW : Hid (Below w.heap.size w W) := HB.out.trans (hb.mono HB.out.size)
  have HK : Hid _ := hK
  have HD : Hid (w.heap.size + 5 ≤ D) := by rw [Hid]; omega
  have HY : Hid _ := y2
  have HM : Hid (W.cell? ⟨bm, 0, none⟩ = some (.pointer p)) := (hb.cell (p := ⟨bm, 0, none⟩) (by show bm < W2.heap.size; omega)).trans cm
  have HN : Hid (Nby W p) := hn2.below hb
  have HY0 : Hid _ := y0
  have HY1 : Hid _ := y1
  clear hb hK hD x0 x1 x2 x3 x4 hz h hm cm hn2 y0 y1 y2 y3 y4
  go_wp2_with fail
  unfold Code.rounds
  go_wp2_with fail
  have HX : Hid (Below W.heap.size W ((W.alloc (.cells #[.int .i64 1] 3)).alloc (.cells #[.int .i64 0] 3))) := ((Below.refl _ W).alloc (Nat.le_refl _) _).alloc (by simp) _
  have u3 : Boxed ((W.alloc (.cells #[.int .i64 1] 3)).alloc (.cells #[.int .i64 0] 3)) W.heap.size 3 (.int .i64 1) := (Boxed.new W 3 (.int .i64 1)).alloc _
  have u4 : Boxed ((W.alloc (.cells #[.int .i64 1] 3)).alloc (.cells #[.int .i64 0] 3)) (W.heap.size + 1) 3 (.int .i64 0) := by
    have h1 := Boxed.new (W.alloc (.cells #[.int .i64 1] 3)) 3 (.int .i64 0)
    simp only [World.size_alloc] at h1
    exact h1
  have hzx : ((W.alloc (.cells #[.int .i64 1] 3)).alloc (.cells #[.int .i64 0] 3)).heap.size = W.heap.size + 2 := by simp
  clear c0 c1 c2 f2 c3 c4
  generalize ((W.alloc (.cells #[.int .i64 1] 3)).alloc (.cells #[.int .i64 0] 3)) = X2 at *
  have cm2 := (HX.out.cell (p := ⟨bm, 0, none⟩) (by have := HBW.out.size; show bm < W.heap.size; omega)).trans HM.out
  have hn3 := HN.out.below HX.out
  refine (wpIn_wide (n := 8)).1 ?_
  refine wpIn_rangeFunc_nil rfl (by omega) (gf := 40) (lb := #[.pointer (some ⟨bm, 0, none⟩), .pointer a2, .pointer a3]) rfl trivial (enters_of Try.func40 (by kernel_rfl) rfl)
    (fun l V hb => callsIn_wide.2 ((scan1_nob l bm _ _ p V ((hb.cell (p := ⟨bm, 0, none⟩) (by have := HBW.out.size; show bm < X2.heap.size; omega)).trans cm2) (hn3.below hb)).mono (fun e W' q => ⟨q.1, _, q.2⟩))) ?_
  intro E V hE hb hK
  have hsW : ∀ q, q < W.heap.size → V.heap[q]? = W.heap[q]? := fun q hq => (hb.block q (by omega)).trans (HX.out.block q hq)
  have v0 : Boxed V _ _ _ := (hsW _ (Boxed.lt HY0.out)).trans HY0.out
  have v1 : Boxed V _ _ _ := (hsW _ (Boxed.lt HY1.out)).trans HY1.out
  have v2 : Boxed V _ _ _ := (hsW _ (Boxed.lt HY.out)).trans HY.out
  have v3 : Boxed V _ _ _ := (hb.block _ (by omega)).trans u3
  have v4 : Boxed V _ _ _ := (hb.block _ (by omega)).trans u4
  have c0 := v0.cell
  have c1 := v1.cell
  have c2 := v2.cell
  have f2 := v2.frozen
  have c2a := (v2.alloc (.cells #[.int .i64 2] 3)).cell
  have f2a := (v2.alloc (.cells #[.int .i64 2] 3)).frozen
  have c3 := v3.cell
  have c4 := v4.cell
  have HBV : Hid (Below w.heap.size w V) := HBW.out.trans ((HX.out.trans (hb.mono HX.out.size)).mono HBW.out.size)
  have hDW := (Array.getElem?_eq_some_iff.1 HK.out).1
  have HKD : Hid (V.heap[D]? = some (.deferred (some []))) := (hsW D hDW).trans HK.out
  have HKE : Hid _ := hK
  have HDE : Hid (D ≠ E ∧ w.heap.size + 5 ≤ E) := by rw [Hid]; have := HBW.out.size; have := HD.out; omega
  have HV2 : Hid _ := v2
  clear hb hK hE u3 u4 hzx cm2 hn3 hsW v0 v1 v2 v3 v4 HY HY0 HY1 HM HN HX HK
  go_wp2_with fail
  unfold Code.rounds
  go_wp2_with fail
  obtain ⟨Z, hZ⟩ : ∃ Z, (V.alloc (.cells #[.int .i64 2] 3)).setCell ⟨w.heap.size + 1 + 1, 0, none⟩ (.bool true) = Z := ⟨_, rfl⟩
  have HZ2 : Hid (Boxed Z (w.heap.size + 1 + 1) 4 (.bool true)) := by rw [Hid, ← hZ]; exact Boxed.set _ (Boxed.alloc HV2.out _)
  have HBZ : Hid (Below w.heap.size w Z) := by rw [Hid, ← hZ]; exact (HBV.out.alloc HBV.out.size _).setCell (p := ⟨w.heap.size + 1 + 1, 0, none⟩) (by show w.heap.size ≤ w.heap.size + 1 + 1; omega) _
  have HZD : Hid (∀ q, q ≠ w.heap.size + 1 + 1 → q < V.heap.size → Z.heap[q]? = V.heap[q]?) := by rw [Hid, ← hZ]; exact fun q h1 h2 => (Below.heap_setCell _ _ _ _ h1).trans (Below.heap_alloc _ _ _ h2)
  rw [hZ]
  have hE := (Array.getElem?_eq_some_iff.1 HKE.out).1
  have hD2 := (Array.getElem?_eq_some_iff.1 HKD.out).1
  have hdE : D ≠ E ∧ w.heap.size + 5 ≤ E := HDE.out
  have hdD := HD.out
  refine leaves_marks [E, D] _ (by simp; exact fun k => hdE.1 k.symm) (fun D' hD' => ?_) (fun w' e0 e1 e2 => ?_)
  · rcases List.mem_cons.1 hD' with rfl | hD'
    · exact (HZD.out _ (by omega) hE).trans HKE.out
    · rw [List.mem_singleton.1 hD']
      exact (HZD.out _ (by omega) hD2).trans HKD.out
  · have hb : Boxed w' (w.heap.size + 1 + 1) 4 (.bool true) := (e2 _ (by simp; omega)).trans HZ2.out
    refine ⟨.bool true, ?_, rfl, HBZ.out.trans ⟨e0.1, e0.2.1, e0.2.2, by omega, fun q hq => e2 q (by simp; omega)⟩⟩
    have cb := hb.cell
    rw [results_cell1 rfl]
    go_simp
end Go.Proofs.Ytdgmjmohfpjlnaa
