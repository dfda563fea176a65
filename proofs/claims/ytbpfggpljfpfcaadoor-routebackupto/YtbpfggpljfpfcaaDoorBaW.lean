/-
  The walk of RouteBack.
-/
import Derived.Test.YtbpfggpljfpfcaaDoorQtg
namespace Go.Proofs.YtbpfggpljfpfcaaDoor
open Go.RowKit
set_option maxRecDepth 20000 in
set_option maxHeartbeats 32000000 in
theorem back_walk (y : Rt) (h0 : -9223372036854775808 ≤ y.frm) (h1 : y.frm ≤ 9223372036854775807) (ht : y.token.length ≤ 10000000) (hu : y.user.length ≤ 10000000) (mx : Int) (w : World) (hm : w.cell? ⟨0, 0, none⟩ = some (.int .i64 mx)) (hT : TabP w) :
    Calls Tryd.prog 5 #[rtV y] w fun e w' => e = .returned (.bool true) ∧ Below w.heap.size w w' := by
  have HMX : Hid (∀ W, Below w.heap.size w W → W.cell? ⟨0, 0, none⟩ = some (.int .i64 mx)) := fun W b => mx_below hm b
  have HAW : Hid (∀ W, Below w.heap.size w W → _) := fun W b => awake_any mx W (HMX.out W b)
  have HTG : Hid (∀ W, Below w.heap.size w W → _) := fun W b => target_any y h0 h1 ht hu mx W (HMX.out W b) (tab_below hT b)
  have HQT : Hid (∀ W : World, _) := fun W => qtarget_any y h0 h1 ht hu W
  have HBK : Hid (∀ m t, tgtR y = some (m, t) → findR m t = (y, 200) ∧ t.length ≤ 1024) := fun m t h => ⟨tgt_back h0 h1 h, tgt_len h0 h1 h⟩
  obtain ⟨R, hR⟩ : ∃ R, tgtR y = R := ⟨_, rfl⟩
  rw [hR] at HTG HQT HBK
  obtain ⟨yk, ya, yb, yf, ym⟩ := y
  simp only at HTG HQT
  clear hR hm hT h0 h1 ht hu
  unfold TgP at HTG HQT
  simp only [rtV, rtA]
  obtain ⟨A, hA⟩ : ∃ A, bOf ya = A := ⟨_, rfl⟩
  obtain ⟨B, hB⟩ : ∃ B, bOf yb = B := ⟨_, rfl⟩
  have HBA : Hid (bOf ya = A ∧ bOf yb = B) := ⟨hA, hB⟩
  rw [hA, hB] at HTG HQT ⊢
  clear hA hB
  obtain ⟨W0, hW0⟩ : ∃ W0, w.alloc (.cells #[.int .i64 yk, .string A, .string B, .int .i64 yf, .bool ym] 23) = W0 := ⟨_, rfl⟩
  have HB0 : Hid (Below w.heap.size w W0) := by rw [Hid, ← hW0]; exact below_new _ _
  have HX0 : Hid (W0.heap[w.heap.size]? = some (.cells #[.int .i64 yk, .string A, .string B, .int .i64 yf, .bool ym] 23 (0, 0))) := by rw [Hid, ← hW0]; exact block_alloc_at _ _
  have HXW : Hid (∀ W, Below W0.heap.size W0 W → W.heap[w.heap.size]? = some (.cells #[.int .i64 yk, .string A, .string B, .int .i64 yf, .bool ym] 23 (0, 0))) := fun W b => (b.block _ (Array.getElem?_eq_some_iff.1 HX0.out).1).trans HX0.out
  go_enter Tryd.func5, Tryd.ntmps5
  go_wp2_with fail
  try rw [hW0]
  clear hW0
  refine (HAW.out W0 HB0.out).mono ?_
  rintro e w1 ⟨rfl, b1⟩
  have HB1 : Hid (Below W0.heap.size W0 w1) := b1
  have c0 := cell_of_block (HXW.out w1 b1) (o := 0) rfl
  have c1 := cell_of_block (HXW.out w1 b1) (o := 1) rfl
  have c2 := cell_of_block (HXW.out w1 b1) (o := 2) rfl
  have c3 := cell_of_block (HXW.out w1 b1) (o := 3) rfl
  have c4 := cell_of_block (HXW.out w1 b1) (o := 4) rfl
  clear b1 HAW
  go_wp2_with fail
  refine (HTG.out w1 (below_on HB0.out HB1.out)).mono ?_
  rintro e w2 ⟨rfl, b2⟩
  have HB2 : Hid (Below W0.heap.size W0 w2) := below_on HB1.out b2
  clear b2 c0 c1 c2 c3 c4 HTG
  have c0 := cell_of_block (HXW.out w2 HB2.out) (o := 0) rfl
  have c1 := cell_of_block (HXW.out w2 HB2.out) (o := 1) rfl
  have c2 := cell_of_block (HXW.out w2 HB2.out) (o := 2) rfl
  have c3 := cell_of_block (HXW.out w2 HB2.out) (o := 3) rfl
  have c4 := cell_of_block (HXW.out w2 HB2.out) (o := 4) rfl
  cases R with
  | none =>
    simp only [tgV] at HQT ⊢
    go_wp2_with fail
    refine (HQT.out w2).mono ?_
    rintro e w3 ⟨rfl, b3⟩
    go_wp2_with fail
    go_ret
    exact ⟨rfl, below_on HB0.out (below_on HB2.out b3)⟩
  | some mt =>
    obtain ⟨m, t⟩ := mt
    obtain ⟨hfd, hln⟩ := HBK.out m t rfl
    have HFN : Hid (∀ W, Below w.heap.size w W → _) := fun W b => find_any m (bOf t) (by rw [bOf_size]; omega) mx W (HMX.out W b)
    rw [show (bOf t).data.toList = t from rfl, hfd] at HFN
    simp only [rtV, rtA] at HFN
    rw [HBA.out.1, HBA.out.2] at HFN
    obtain ⟨M, hM⟩ : ∃ M, bOf m = M := ⟨_, rfl⟩
    obtain ⟨T, hTt⟩ : ∃ T, bOf t = T := ⟨_, rfl⟩
    simp only [tgV] at HQT ⊢
    rw [hM, hTt] at HFN HQT ⊢
    clear hM hTt hfd hln HBK
    go_wp2_with fail
    refine (HQT.out w2).mono ?_
    rintro e w3 ⟨rfl, b3⟩
    have HB3 : Hid (Below W0.heap.size W0 w3) := below_on HB2.out b3
    clear b3 c0 c1 c2 c3 c4 HQT
    go_wp2_with fail
    refine (HFN.out w3 (below_on HB0.out HB3.out)).mono ?_
    rintro e w4 ⟨rfl, b4⟩
    have HB4 : Hid (Below W0.heap.size W0 w4) := below_on HB3.out b4
    have c0 := cell_of_block (HXW.out w4 HB4.out) (o := 0) rfl
    have c1 := cell_of_block (HXW.out w4 HB4.out) (o := 1) rfl
    have c2 := cell_of_block (HXW.out w4 HB4.out) (o := 2) rfl
    have c3 := cell_of_block (HXW.out w4 HB4.out) (o := 3) rfl
    have c4 := cell_of_block (HXW.out w4 HB4.out) (o := 4) rfl
    have hg : w.heap.size < w4.heap.size := (Array.getElem?_eq_some_iff.1 (HXW.out w4 HB4.out)).1
    clear b4 HFN
    go_wp2_with fail
    go_ret
    have HBB := below_on HB0.out HB4.out
    exact ⟨rfl, HBB.alloc HBB.size _⟩
end Go.Proofs.YtbpfggpljfpfcaaDoor
