/-
  The contract of the twin's head: its loop over lines.
-/
import Derived.Test.YthhhoppmbimeiaaDoorQHd
namespace Go.Proofs.YthhhoppmbimeiaaDoor
open Go.RowKit
set_option maxRecDepth 20000 in
set_option maxHeartbeats 8000000 in
theorem qhead_loop (t : ByteArray) (hs : t.size ≤ 1000000) (fs : List Fd) (ok : Bool) (w : World) (m tg : ByteArray) (hf : firstR (lineR t).1 = some (m, tg)) (hm : metR m = true) (htt : tarR tg = true) (hq : QF (lineR t).2.1 fs ok) (hfl : fs.length ≤ 1000000) (hfo : ∀ f ∈ fs, fdOk f) :
    Calls Tryd.prog 25 #[.string t] w (QHP t fs ok w) := by
  have HQG : Hid (qGood t fs ok = (ok && togR fs)) := by
    rw [Hid, qGood, hf]
    simp only
    rw [hm, htt]
    rfl
  have HFF : Hid (firstR (lineR t).1 = some (m, tg)) := hf
  have HQ0 : Hid (QF (lineR t).2.1 fs ok) := hq
  have HFO : Hid (∀ f ∈ fs, fdOk f) := hfo
  have hlz := lineR_size t
  have hc1 := cutR_size (lineR t).1 32
  have hc2 := cutR_size (cutR (lineR t).1 32).2.1 32
  have H1 : Hid (∀ W : World, _) := fun W => qline_any t (by omega) W
  have H2 : Hid (∀ W : World, _) := fun W => qcut_any (lineR t).1 32 (by omega) W
  have H3 : Hid (∀ W : World, _) := fun W => qcut_any (cutR (lineR t).1 32).2.1 32 (by omega) W
  have H4 : Hid (∀ W : World, _) := fun W => qmethod_any (cutR (lineR t).1 32).1 (by omega) W
  have H5 : Hid (∀ W : World, _) := fun W => qtarget_any (cutR (cutR (lineR t).1 32).2.1 32).1 (by omega) W
  have HFE : Hid (firstR (lineR t).1 = _) := first_eq (lineR t).1
  obtain ⟨l, hl⟩ : ∃ x, (lineR t).1 = x := ⟨_, rfl⟩
  obtain ⟨rest, hrest⟩ : ∃ x, (lineR t).2.1 = x := ⟨_, rfl⟩
  obtain ⟨lb, hlb⟩ : ∃ x, (lineR t).2.2 = x := ⟨_, rfl⟩
  rw [hl, hrest, hlb] at H1
  rw [hl] at H2 H3 H4 H5 HFE
  obtain ⟨mt, hmt⟩ : ∃ x, (cutR l 32).1 = x := ⟨_, rfl⟩
  obtain ⟨more, hmore⟩ : ∃ x, (cutR l 32).2.1 = x := ⟨_, rfl⟩
  obtain ⟨b1, hb1⟩ : ∃ x, (cutR l 32).2.2 = x := ⟨_, rfl⟩
  rw [hmt, hmore, hb1] at H2 HFE
  rw [hmore] at H3 H5
  rw [hmt] at H4
  obtain ⟨tg', htg⟩ : ∃ x, (cutR more 32).1 = x := ⟨_, rfl⟩
  obtain ⟨vs, hvs⟩ : ∃ x, (cutR more 32).2.1 = x := ⟨_, rfl⟩
  obtain ⟨b2, hb2⟩ : ∃ x, (cutR more 32).2.2 = x := ⟨_, rfl⟩
  rw [htg, hvs, hb2] at H3 HFE
  rw [htg] at H5
  obtain ⟨bm, hbm⟩ : ∃ x, metR mt = x := ⟨_, rfl⟩
  obtain ⟨bt, hbt⟩ : ∃ x, tarR tg' = x := ⟨_, rfl⟩
  have HBM : Hid _ := hbm
  have HBT : Hid _ := hbt
  rw [hbm] at H4
  rw [hbt] at H5
  have hv0 := ver_list (v := vs)
  have hcc : b1 = true ∧ b2 = true ∧ vs = ver ∧ m = mt ∧ tg = tg' := by
    have h1 := HFE.out
    rw [hl] at hf
    rw [hf] at h1
    split at h1
    · rename_i h2
      simp only [Option.some.injEq, Prod.mk.injEq] at h1
      exact ⟨h2.1, h2.2.1, h2.2.2, h1.1, h1.2⟩
    · cases h1
  obtain ⟨rfl, rfl, rfl, rfl, rfl⟩ := hcc
  rw [hrest] at HQ0
  obtain rfl : bm = true := by rw [← hbm]; exact hm
  obtain rfl : bt = true := by rw [← hbt]; exact htt
  have hrz : rest.size ≤ 1000000 := by rw [← hrest]; omega
  have hvv : (ver.toList == [72, 84, 84, 80, 47, 49, 46, 49]) = true := by rw [hv0]; exact decide_eq_true rfl
  have HRZ : Hid _ := hrz
  clear hl hrest hlb hmore hb1 hvs hb2 hlz hc1 hc2 hv0 hf hm htt hq hfo HFE HBM HBT hbm hbt hrz
  obtain ⟨W0, hW0⟩ : ∃ W0, (w.alloc (.cells #[.string ⟨#[]⟩, .string ⟨#[]⟩, .slice none 0 0, .string ⟨#[]⟩, .bool false] 24)).alloc (.cells #[.string ⟨#[]⟩, .string ⟨#[]⟩, .slice none 0 0, .string ⟨#[]⟩, .bool false] 24) = W0 := ⟨_, rfl⟩
  have HZ0 : Hid (W0.heap.size = w.heap.size + 2) := by rw [Hid, ← hW0]; simp
  have HB0 : Hid (Below w.heap.size w W0) := by rw [Hid, ← hW0]; exact ((Below.refl _ _).alloc (Nat.le_refl _) _).alloc (by simp) _
  have HX0 : Hid (RB W0 w.heap.size ⟨#[]⟩ ⟨#[]⟩ (.slice none 0 0) ⟨#[]⟩ false) := by rw [Hid, ← hW0]; exact RB.below (V := w.alloc (.cells #[.string ⟨#[]⟩, .string ⟨#[]⟩, .slice none 0 0, .string ⟨#[]⟩, .bool false] 24)) (block_alloc_at _ _) ((Below.refl _ _).alloc (Nat.le_refl _) _)
  have HY0 : Hid (RB W0 (w.heap.size + 1) ⟨#[]⟩ ⟨#[]⟩ (.slice none 0 0) ⟨#[]⟩ false) := by
    rw [Hid, ← hW0]
    have := block_alloc_at (w.alloc (.cells #[.string ⟨#[]⟩, .string ⟨#[]⟩, .slice none 0 0, .string ⟨#[]⟩, .bool false] 24)) (.cells #[.string ⟨#[]⟩, .string ⟨#[]⟩, .slice none 0 0, .string ⟨#[]⟩, .bool false] 24)
    simpa [RB] using this
  go_enter Tryd.func25, Tryd.ntmps25
  go_wp2_with fail
  try rw [hW0]
  refine (H1.out _).mono ?_
  rintro e w1 ⟨rfl, b1'⟩
  go_wp2_with fail
  refine (H2.out _).mono ?_
  rintro e w2 ⟨rfl, b2'⟩
  go_wp2_with fail
  refine (H3.out _).mono ?_
  rintro e w3 ⟨rfl, b3'⟩
  have HW3 : Hid (Below W0.heap.size W0 w3) := (b1'.trans (b2'.mono b1'.size)).trans (b3'.mono (Nat.le_trans b1'.size b2'.size))
  have HX3 : Hid (RB w3 w.heap.size ⟨#[]⟩ ⟨#[]⟩ (.slice none 0 0) ⟨#[]⟩ false) := HX0.out.below HW3.out
  have HY3 : Hid (RB w3 (w.heap.size + 1) ⟨#[]⟩ ⟨#[]⟩ (.slice none 0 0) ⟨#[]⟩ false) := HY0.out.below HW3.out
  have HB3 : Hid (Below w.heap.size w w3) := HB0.out.trans (HW3.out.mono HB0.out.size)
  clear b1' b2' b3'
  obtain ⟨f0, f1, f2, f3, f4⟩ := HX3.out.free
  obtain ⟨k0, k1, k2, k3, k4⟩ := HX3.out.box
  obtain ⟨g0, g1, g2, g3, g4⟩ := HY3.out.free
  obtain ⟨j0, j1, j2, j3, j4⟩ := HY3.out.box
  go_wp2_with fail
  refine (H4.out _).mono ?_
  rintro e w4 ⟨rfl, hw4⟩
  rw [hw4]
  clear hw4 w4
  go_wp2_with fail
  refine (H5.out _).mono ?_
  rintro e w4 ⟨rfl, hw4⟩
  rw [hw4]
  clear hw4 w4
  obtain ⟨W4, hW4⟩ : ∃ W4, (w3.setCell ⟨w.heap.size + 1, 0, none⟩ (.string m)).setCell ⟨w.heap.size + 1, 1, none⟩ (.string tg) = W4 := ⟨_, rfl⟩
  have HB4 : Hid (Below w.heap.size w W4) := by rw [Hid, ← hW4]; exact (HB3.out.setCell (p := ⟨w.heap.size + 1, 0, none⟩) (by simp) _).setCell (p := ⟨w.heap.size + 1, 1, none⟩) (by simp) _
  have HY4 : Hid (RB W4 (w.heap.size + 1) m tg (.slice none 0 0) ⟨#[]⟩ false) := by
    have := set_block (set_block HY3.out 0 (.string m)) 1 (.string tg)
    rw [hW4] at this
    rw [Hid]; simpa [RB] using this
  have HX4 : Hid (RB W4 w.heap.size ⟨#[]⟩ ⟨#[]⟩ (.slice none 0 0) ⟨#[]⟩ false) := by
    rw [Hid, RB, ← hW4, Below.heap_setCell _ _ _ _ (by simp), Below.heap_setCell _ _ _ _ (by simp)]
    exact HX3.out
  have HZ4 : Hid (W0.heap.size ≤ W4.heap.size) := by rw [Hid, ← hW4]; simp [World.setCell]; exact HW3.out.size
  go_wp2_with fail
  try rw [hW4]
  clear hW4 f0 f1 f2 f3 f4 g0 g1 g2 g3 g4 k0 k1 k2 k3 k4 j0 j1 j2 j3 j4 HX3 HY3 HB3 HW3
  obtain ⟨i0, hi, hz⟩ := Option.map_eq_some_iff.1 info53
  simp only [Prod.mk.injEq] at hz
  obtain ⟨hz0, hz1, hz2⟩ := hz
  go_loopw [6] (fun v wr => ∃ (rs : ByteArray) (acc fs' : List Fd) (a : Option Addr) (c k : Nat), v = .string rs ∧ Hid (acc.length = k) ∧ Hid (QF rs fs' ok) ∧ Hid (acc ++ fs' = fs) ∧ Hid (rs.size ≤ 1000000) ∧ Hid (RB wr (w.heap.size + 1) m tg (.slice a k c) ⟨#[]⟩ false) ∧ Hid (RB wr w.heap.size ⟨#[]⟩ ⟨#[]⟩ (.slice none 0 0) ⟨#[]⟩ false) ∧ Hid (wr.ownsRow W0.heap.size 53 2 (.slice a k c) k (flF acc)) ∧ Hid (Below w.heap.size w wr) ∧ Hid (W0.heap.size ≤ wr.heap.size)) (fun v _ => szOf v)
  case atStart => exact ⟨rest, [], fs, none, 0, 0, rfl, rfl, HQ0.out, rfl, HRZ.out, HY4.out, HX4.out, World.ownsRow_nil _ _ _ _, HB4.out, HZ4.out⟩
  case round =>
    obtain ⟨rs, acc, fs', a, c, k, rfl, HK, HQF, HAF, HRS, HYr, HXr, HOr, HBr, HZr⟩ := hrel
    have HL1 : Hid (∀ W : World, _) := fun W => qline_any rs (by have := HRS.out; omega) W
    have hls := lineR_size rs
    have HC1 : Hid (∀ W : World, _) := fun W => qcut_any (lineR rs).1 58 (by have := HRS.out; omega) W
    have hcs := cutR_size (lineR rs).1 58
    have HT1 : Hid (∀ W : World, _) := fun W => rtrim_any (cutR (lineR rs).1 58).2.1 (by have := HRS.out; omega) W
    have hts := trimT_size (cutR (lineR rs).1 58).2.1
    have HK1 : Hid (∀ W : World, _) := fun W => rtoken_any (cutR (lineR rs).1 58).1 (by have := HRS.out; omega) W
    have HV1 : Hid (∀ W : World, _) := fun W => qvalue_any (trimT (cutR (lineR rs).1 58).2.1) (by have := HRS.out; omega) W
    have HFL : Hid (fldL (lineR rs).1 = _) := fldL_eq (lineR rs).1
    have HKF : Hid (k ≤ 1000000) := by have h1 := congrArg List.length HAF.out; rw [List.length_append] at h1; have := HK.out; rw [Hid]; omega
    have HAO : Hid (∀ f ∈ acc, fdOk f) := fun f hf => HFO.out f (by rw [← HAF.out]; exact List.mem_append_left _ hf)
    have HRO : Hid (rqOk ⟨m, tg, a, c, acc, ⟨#[]⟩, false⟩) := ⟨by have := HKF.out; have := HK.out; show acc.length ≤ _; omega, HAO.out⟩
    have HFLD : Hid (∀ W B, FA B W a acc → B ≤ W.heap.size → _) := fun W B h1 h2 => rfields_any ⟨m, tg, a, c, acc, ⟨#[]⟩, false⟩ B W h1 h2 HRO.out
    have HCLS : Hid (∀ W B, FA B W a acc → B ≤ W.heap.size → _) := fun W B h1 h2 => rcloses_any ⟨m, tg, a, c, acc, ⟨#[]⟩, false⟩ B W h1 h2 HRO.out
    simp only [rqV] at HFLD HCLS
    rw [HK.out] at HFLD HCLS
    obtain ⟨w5, hw5⟩ : ∃ w5 : World, w5 = wr := ⟨_, rfl⟩
    clear hw5 w5
    have hcase : ((lineR rs).1.size = 0 ∧ fs' = [] ∧ ok = true) ∨ ((lineR rs).1.size ≠ 0 ∧ fldL (lineR rs).1 = none ∧ fs' = [] ∧ ok = false) ∨ (∃ f fs2, (lineR rs).1.size ≠ 0 ∧ fldL (lineR rs).1 = some f ∧ (lineR rs).2.1.size < rs.size ∧ QF (lineR rs).2.1 fs2 ok ∧ fs' = f :: fs2) := by
      cases HQF.out with
      | stop h => exact Or.inl ⟨h, rfl, rfl⟩
      | bad h hb => exact Or.inr (Or.inl ⟨h, hb, rfl, rfl⟩)
      | go h hf hl q => exact Or.inr (Or.inr ⟨_, _, h, hf, hl, q, rfl⟩)
    have HRS2 : Hid ((lineR rs).2.1.size ≤ 1000000) := by have := HRS.out; rw [Hid]; omega
    obtain ⟨l2, hl2⟩ : ∃ x, (lineR rs).1 = x := ⟨_, rfl⟩
    obtain ⟨r2, hr2⟩ : ∃ x, (lineR rs).2.1 = x := ⟨_, rfl⟩
    obtain ⟨lb2, hlb2⟩ : ∃ x, (lineR rs).2.2 = x := ⟨_, rfl⟩
    rw [hl2, hr2, hlb2] at HL1
    rw [hl2] at HC1 HT1 HK1 HV1 HFL hcase
    rw [hr2] at hcase HRS2
    obtain ⟨cn, hcn⟩ : ∃ x, (cutR l2 58).1 = x := ⟨_, rfl⟩
    obtain ⟨cv, hcv⟩ : ∃ x, (cutR l2 58).2.1 = x := ⟨_, rfl⟩
    obtain ⟨cb, hcb⟩ : ∃ x, (cutR l2 58).2.2 = x := ⟨_, rfl⟩
    rw [hcn, hcv, hcb] at HC1 HFL
    rw [hcv] at HT1 HV1
    rw [hcn] at HK1
    obtain ⟨tv, htv⟩ : ∃ x, trimT cv = x := ⟨_, rfl⟩
    rw [htv] at HT1 HV1 HFL
    obtain ⟨tk, htk⟩ : ∃ x, tokR cn = x := ⟨_, rfl⟩
    obtain ⟨va, hva⟩ : ∃ x, valA tv = x := ⟨_, rfl⟩
    rw [htk] at HK1 HFL
    rw [hva] at HV1 HFL
    clear hls hcs hts hl2 hr2 hlb2 hcn hcv hcb htv htk hva HQF
    have hsz5 := HBr.out.size
    rcases hcase with ⟨h0, rfl, rfl⟩ | ⟨h0, hfn, rfl, rfl⟩ | ⟨f, fs2, h0, hfs, hlt, hq2, rfl⟩
    · have he : l2.toList.isEmpty = true := empty_yes (by omega)
      have HFS : Hid (acc = fs) := by have := HAF.out; rw [List.append_nil] at this; exact this
      have HTG : Hid (qGood t fs true = togR acc) := by rw [Hid, HQG.out, HFS.out]; rfl
      obtain ⟨tt, htt⟩ : ∃ x, togR acc = x := ⟨_, rfl⟩
      rw [htt] at HTG HFLD
      clear h0 htt
      go_wp2_with fail
      refine (HL1.out _).mono ?_
      rintro e w5 ⟨rfl, b5⟩
      have HY5 : Hid (RB w5 (w.heap.size + 1) m tg (.slice a k c) ⟨#[]⟩ false) := HYr.out.below b5
      have HX5 : Hid (RB w5 w.heap.size ⟨#[]⟩ ⟨#[]⟩ (.slice none 0 0) ⟨#[]⟩ false) := HXr.out.below b5
      have HO5 : Hid (w5.ownsRow W0.heap.size 53 2 (.slice a k c) k (flF acc)) := owns_on2 HOr.out b5
      have HB5 : Hid (Below w.heap.size w w5) := HBr.out.trans (b5.mono HBr.out.size)
      have HF5 : Hid (FA w5.heap.size w5 a acc) := by
        have hq := HO5.out
        rw [← HK.out] at hq
        exact fa_row hq
      clear b5
      obtain ⟨g0, g1, g2, g3, g4⟩ := HY5.out.free
      obtain ⟨j0, j1, j2, j3, j4⟩ := HY5.out.box
      go_wp2_with fail
      refine (HFLD.out _ _ HF5.out (Nat.le_refl _)).mono ?_
      rintro e w6 ⟨rfl, b6⟩
      have HY6 : Hid (RB w6 (w.heap.size + 1) m tg (.slice a k c) ⟨#[]⟩ false) := HY5.out.below b6
      have HX6 : Hid (RB w6 w.heap.size ⟨#[]⟩ ⟨#[]⟩ (.slice none 0 0) ⟨#[]⟩ false) := HX5.out.below b6
      have HO6 : Hid (w6.ownsRow W0.heap.size 53 2 (.slice a k c) k (flF acc)) := owns_on2 HO5.out b6
      have HB6 : Hid (Below w.heap.size w w6) := HB5.out.trans (b6.mono HB5.out.size)
      have HF6 : Hid (FA w6.heap.size w6 a acc) := by
        have hq := HO6.out
        rw [← HK.out] at hq
        exact fa_row hq
      clear b6 g0 g1 g2 g3 g4 j0 j1 j2 j3 j4
      obtain ⟨g0, g1, g2, g3, g4⟩ := HY6.out.free
      obtain ⟨j0, j1, j2, j3, j4⟩ := HY6.out.box
      cases tt with
      | false =>
        obtain ⟨f0, f1, f2, f3, f4⟩ := HX6.out.free
        obtain ⟨k0, k1, k2, k3, k4⟩ := HX6.out.box
        have HQB : Hid (qGood t fs true = false) := HTG.out
        go_wp2_with fail
        try rw [Exit.noGoto_ret]
        obtain ⟨W9, hW9⟩ : ∃ W9, set5 w6 w.heap.size (.string m) (.string tg) (.slice a k c) (.string ⟨#[]⟩) (.bool false) = W9 := ⟨_, rfl⟩
        have HB9 : Hid (Below w.heap.size w W9) := by rw [Hid, ← hW9]; exact set5_below HB6.out (Nat.le_refl _) _ _ _ _ _
        have HX9 : RB W9 w.heap.size m tg (.slice a k c) ⟨#[]⟩ false := by rw [← hW9]; exact RB.set5 HX6.out m tg (.slice a k c) ⟨#[]⟩ false
        unfold set5 at hW9
        rw [hW9]
        clear f0 f1 f2 f3 f4 k0 k1 k2 k3 k4
        obtain ⟨k0, k1, k2, k3, k4⟩ := HX9.box
        clear hW9 HX9
        refine bodyPost_ret (v := .tuple #[.agg #[.string m, .string tg, (.slice a k c), .string ⟨#[]⟩, .bool false], .int .i64 170]) ?_ rfl (by rw [← HK.out]; exact QHP.bad HQB.out HB9.out ⟨m, tg, a, c, acc, ⟨#[]⟩, false⟩)
        rw [results_cell_tmp rfl]
        go_simp
      | true =>
        go_wp2_with fail
        refine (HCLS.out _ _ HF6.out (Nat.le_refl _)).mono ?_
        rintro e w7 ⟨rfl, b7⟩
        have HY7 : Hid (RB w7 (w.heap.size + 1) m tg (.slice a k c) ⟨#[]⟩ false) := HY6.out.below b7
        have HX7 : Hid (RB w7 w.heap.size ⟨#[]⟩ ⟨#[]⟩ (.slice none 0 0) ⟨#[]⟩ false) := HX6.out.below b7
        have HO7 : Hid (w7.ownsRow W0.heap.size 53 2 (.slice a k c) k (flF acc)) := owns_on2 HO6.out b7
        have HB7 : Hid (Below w.heap.size w w7) := HB6.out.trans (b7.mono HB6.out.size)
        clear b7 g0 g1 g2 g3 g4 j0 j1 j2 j3 j4
        obtain ⟨g0, g1, g2, g3, g4⟩ := HY7.out.free
        obtain ⟨j0, j1, j2, j3, j4⟩ := HY7.out.box
        obtain ⟨sh, hsh⟩ : ∃ b, clsR acc = b := ⟨_, rfl⟩
        have HSH : Hid _ := hsh
        obtain ⟨W8, hW8⟩ : ∃ W8, w7.setCell ⟨w.heap.size + 1, 4, none⟩ (.bool sh) = W8 := ⟨_, rfl⟩
        have HY8 : Hid (RB W8 (w.heap.size + 1) m tg (.slice a k c) ⟨#[]⟩ sh) := by
          have := set_block HY7.out 4 (.bool sh)
          rw [hW8] at this
          rw [Hid]; simpa [RB] using this
        have HX8 : Hid (RB W8 w.heap.size ⟨#[]⟩ ⟨#[]⟩ (.slice none 0 0) ⟨#[]⟩ false) := by
          rw [Hid, RB, ← hW8, Below.heap_setCell _ _ _ _ (by simp)]
          exact HX7.out
        have HB8 : Hid (Below w.heap.size w W8) := by rw [Hid, ← hW8]; exact HB7.out.setCell (p := ⟨w.heap.size + 1, 4, none⟩) (by simp) _
        have HO8 : Hid (W8.ownsRow W0.heap.size 53 2 (.slice a k c) k (flF acc)) := by
          rw [Hid, ← hW8]
          exact ownsRow_setCell_below (a := ⟨w.heap.size + 1, 4, none⟩) HO7.out (by have := HZ0.out; show w.heap.size + 1 < _; omega) _
        obtain ⟨f0, f1, f2, f3, f4⟩ := HX8.out.free
        obtain ⟨k0, k1, k2, k3, k4⟩ := HX8.out.box
        obtain ⟨i1, i2, i3, i4, i5⟩ := HY8.out.box
        try rw [hsh]
        clear hsh
        go_wp2_with fail
        try rw [hW8]
        obtain ⟨W9, hW9⟩ : ∃ W9, set5 W8 w.heap.size (.string m) (.string tg) (.slice a k c) (.string ⟨#[]⟩) (.bool sh) = W9 := ⟨_, rfl⟩
        have HB9 : Hid (Below w.heap.size w W9) := by rw [Hid, ← hW9]; exact set5_below HB8.out (Nat.le_refl _) _ _ _ _ _
        have HX9 : RB W9 w.heap.size m tg (.slice a k c) ⟨#[]⟩ sh := by rw [← hW9]; exact RB.set5 HX8.out m tg (.slice a k c) ⟨#[]⟩ sh
        have HO9 : Hid (W9.ownsRow w.heap.size 53 2 (.slice a k c) k (flF acc)) := by
          rw [Hid, ← hW9]
          exact owns_down2 (owns_set5 HO8.out (g := w.heap.size) (by have := HZ0.out; omega) _ _ _ _ _) (by have := HZ0.out; omega)
        unfold set5 at hW9
        rw [hW9]
        clear f0 f1 f2 f3 f4 k0 k1 k2 k3 k4
        obtain ⟨k0, k1, k2, k3, k4⟩ := HX9.box
        clear hW9 HX9
        refine bodyPost_ret (v := .tuple #[.agg #[.string m, .string tg, (.slice a k c), .string ⟨#[]⟩, .bool sh], .int .i64 0]) ?_ rfl (by rw [← HK.out]; exact QHP.good HTG.out HB9.out ⟨m, tg, a, c, acc, ⟨#[]⟩, sh⟩ ⟨HFF.out, HFS.out, rfl, by rw [← HFS.out]; exact HSH.out.symm, by show World.ownsRow _ _ _ _ (.slice a acc.length c) acc.length (flF acc); rw [HK.out]; exact HO9.out⟩)
        rw [results_cell_tmp rfl]
        go_simp
    · have he : l2.toList.isEmpty = false := empty_no (by omega)
      have HQB : Hid (qGood t fs false = false) := HQG.out
      have HNO : Hid (¬ (cb = true ∧ tk = true ∧ va = true)) := fun h => by
        have := HFL.out
        rw [if_pos h, hfn] at this
        cases this
      clear hfn h0
      go_wp2_with fail
      refine (HL1.out _).mono ?_
      rintro e w5 ⟨rfl, b5⟩
      go_wp2_with fail
      refine (HC1.out _).mono ?_
      rintro e w6 ⟨rfl, b6⟩
      have b56 : Below wr.heap.size wr w6 := b5.trans (b6.mono b5.size)
      have HY6 : Hid (RB w6 (w.heap.size + 1) m tg (.slice a k c) ⟨#[]⟩ false) := HYr.out.below b56
      have HX6 : Hid (RB w6 w.heap.size ⟨#[]⟩ ⟨#[]⟩ (.slice none 0 0) ⟨#[]⟩ false) := HXr.out.below b56
      have HO6 : Hid (w6.ownsRow W0.heap.size 53 2 (.slice a k c) k (flF acc)) := owns_on2 HOr.out b56
      have HB6 : Hid (Below w.heap.size w w6) := HBr.out.trans (b56.mono HBr.out.size)
      have HZ6 : Hid (W0.heap.size ≤ w6.heap.size) := Nat.le_trans HZr.out b56.size
      clear b5 b6 b56
      obtain ⟨g0, g1, g2, g3, g4⟩ := HY6.out.free
      obtain ⟨j0, j1, j2, j3, j4⟩ := HY6.out.box
      obtain ⟨f0, f1, f2, f3, f4⟩ := HX6.out.free
      obtain ⟨k0, k1, k2, k3, k4⟩ := HX6.out.box
      go_wp2_with fail
      refine (HT1.out _).mono ?_
      rintro e w7 ⟨rfl, hw7⟩
      rw [hw7]
      clear hw7 w7
      cases cb with
      | false =>
        go_wp2_with fail
        obtain ⟨W9, hW9⟩ : ∃ W9, set5 w6 w.heap.size (.string m) (.string tg) (.slice a k c) (.string ⟨#[]⟩) (.bool false) = W9 := ⟨_, rfl⟩
        have HB9 : Hid (Below w.heap.size w W9) := by rw [Hid, ← hW9]; exact set5_below HB6.out (Nat.le_refl _) _ _ _ _ _
        have HX9 : RB W9 w.heap.size m tg (.slice a k c) ⟨#[]⟩ false := by rw [← hW9]; exact RB.set5 HX6.out m tg (.slice a k c) ⟨#[]⟩ false
        unfold set5 at hW9
        rw [hW9]
        clear f0 f1 f2 f3 f4 k0 k1 k2 k3 k4
        obtain ⟨k0, k1, k2, k3, k4⟩ := HX9.box
        clear hW9 HX9
        refine bodyPost_ret (v := .tuple #[.agg #[.string m, .string tg, (.slice a k c), .string ⟨#[]⟩, .bool false], .int .i64 170]) ?_ rfl (by rw [← HK.out]; exact QHP.bad HQB.out HB9.out ⟨m, tg, a, c, acc, ⟨#[]⟩, false⟩)
        rw [results_cell_tmp rfl]
        go_simp
      | true =>
      cases tk with
      | false =>
        go_wp2_with fail
        refine (HK1.out _).mono ?_
        rintro e w7 ⟨rfl, hw7⟩
        rw [hw7]
        clear hw7 w7
        go_wp2_with fail
        obtain ⟨W9, hW9⟩ : ∃ W9, set5 w6 w.heap.size (.string m) (.string tg) (.slice a k c) (.string ⟨#[]⟩) (.bool false) = W9 := ⟨_, rfl⟩
        have HB9 : Hid (Below w.heap.size w W9) := by rw [Hid, ← hW9]; exact set5_below HB6.out (Nat.le_refl _) _ _ _ _ _
        have HX9 : RB W9 w.heap.size m tg (.slice a k c) ⟨#[]⟩ false := by rw [← hW9]; exact RB.set5 HX6.out m tg (.slice a k c) ⟨#[]⟩ false
        unfold set5 at hW9
        rw [hW9]
        clear f0 f1 f2 f3 f4 k0 k1 k2 k3 k4
        obtain ⟨k0, k1, k2, k3, k4⟩ := HX9.box
        clear hW9 HX9
        refine bodyPost_ret (v := .tuple #[.agg #[.string m, .string tg, (.slice a k c), .string ⟨#[]⟩, .bool false], .int .i64 170]) ?_ rfl (by rw [← HK.out]; exact QHP.bad HQB.out HB9.out ⟨m, tg, a, c, acc, ⟨#[]⟩, false⟩)
        rw [results_cell_tmp rfl]
        go_simp
      | true =>
        obtain rfl : va = false := by
          cases va with
          | false => rfl
          | true => exact absurd ⟨by first | rfl | trivial, by first | rfl | trivial, by first | rfl | trivial⟩ HNO.out
        go_wp2_with fail
        refine (HK1.out _).mono ?_
        rintro e w7 ⟨rfl, hw7⟩
        rw [hw7]
        clear hw7 w7
        go_wp2_with fail
        refine (HV1.out _).mono ?_
        rintro e w7 ⟨rfl, hw7⟩
        rw [hw7]
        clear hw7 w7
        go_wp2_with fail
        obtain ⟨W9, hW9⟩ : ∃ W9, set5 w6 w.heap.size (.string m) (.string tg) (.slice a k c) (.string ⟨#[]⟩) (.bool false) = W9 := ⟨_, rfl⟩
        have HB9 : Hid (Below w.heap.size w W9) := by rw [Hid, ← hW9]; exact set5_below HB6.out (Nat.le_refl _) _ _ _ _ _
        have HX9 : RB W9 w.heap.size m tg (.slice a k c) ⟨#[]⟩ false := by rw [← hW9]; exact RB.set5 HX6.out m tg (.slice a k c) ⟨#[]⟩ false
        unfold set5 at hW9
        rw [hW9]
        clear f0 f1 f2 f3 f4 k0 k1 k2 k3 k4
        obtain ⟨k0, k1, k2, k3, k4⟩ := HX9.box
        clear hW9 HX9
        refine bodyPost_ret (v := .tuple #[.agg #[.string m, .string tg, (.slice a k c), .string ⟨#[]⟩, .bool false], .int .i64 170]) ?_ rfl (by rw [← HK.out]; exact QHP.bad HQB.out HB9.out ⟨m, tg, a, c, acc, ⟨#[]⟩, false⟩)
        rw [results_cell_tmp rfl]
        go_simp
    · have he : l2.toList.isEmpty = false := empty_no (by omega)
      have hyes : (cb = true ∧ tk = true ∧ va = true) ∧ f = ⟨cn, tv⟩ := by
        have := HFL.out
        rw [hfs] at this
        split at this
        · rename_i h2
          cases this
          exact ⟨h2, rfl⟩
        · cases this
      obtain ⟨⟨rfl, rfl, rfl⟩, rfl⟩ := hyes
      have HQ2 : Hid (QF r2 fs2 ok) := hq2
      have HLT : Hid (r2.size < rs.size) := hlt
      have HAF2 : Hid ((acc ++ [(⟨cn, tv⟩ : Fd)]) ++ fs2 = fs) := by rw [Hid, List.append_assoc]; exact HAF.out
      clear hfs h0 hq2 hlt HFL
      go_wp2_with fail
      refine (HL1.out _).mono ?_
      rintro e w5 ⟨rfl, b5⟩
      go_wp2_with fail
      refine (HC1.out _).mono ?_
      rintro e w6 ⟨rfl, b6⟩
      have b56 : Below wr.heap.size wr w6 := b5.trans (b6.mono b5.size)
      have HY6 : Hid (RB w6 (w.heap.size + 1) m tg (.slice a k c) ⟨#[]⟩ false) := HYr.out.below b56
      have HX6 : Hid (RB w6 w.heap.size ⟨#[]⟩ ⟨#[]⟩ (.slice none 0 0) ⟨#[]⟩ false) := HXr.out.below b56
      have HO6 : Hid (w6.ownsRow W0.heap.size 53 2 (.slice a k c) k (flF acc)) := owns_on2 HOr.out b56
      have HB6 : Hid (Below w.heap.size w w6) := HBr.out.trans (b56.mono HBr.out.size)
      have HZ6 : Hid (W0.heap.size ≤ w6.heap.size) := Nat.le_trans HZr.out b56.size
      clear b5 b6 b56
      obtain ⟨g0, g1, g2, g3, g4⟩ := HY6.out.free
      obtain ⟨j0, j1, j2, j3, j4⟩ := HY6.out.box
      obtain ⟨f0, f1, f2, f3, f4⟩ := HX6.out.free
      obtain ⟨k0, k1, k2, k3, k4⟩ := HX6.out.box
      go_wp2_with fail
      refine (HT1.out _).mono ?_
      rintro e w7 ⟨rfl, hw7⟩
      rw [hw7]
      clear hw7 w7
      go_wp2_with fail
      refine (HK1.out _).mono ?_
      rintro e w7 ⟨rfl, hw7⟩
      rw [hw7]
      clear hw7 w7
      go_wp2_with fail
      refine (HV1.out _).mono ?_
      rintro e w7 ⟨rfl, hw7⟩
      rw [hw7]
      clear hw7 w7
      have hra : Hid (∀ o, (w6.alloc o).ownsRow W0.heap.size 53 2 (.slice a k c) k (flF acc)) := fun o => World.ownsRow.alloc HO6.out o
      have hsz := HZ6.out
      have hkf := HKF.out
      go_wp2_with (at_builtin; refine wpList_append_own _ rfl (.tmp 93) (.tmp 97) 22 rfl W0.heap.size 53 i0 (.agg #[.string ByteArray.empty, .string ByteArray.empty]) 2 32 Tryd.underlying22 hi hz0 hz1 hz2 rfl (by decide) _ _ _ rfl (hra.out _) ⟨_, 0, none⟩ 1 1 [.string cn, .string tv] rfl rfl (new_cells _ [.string cn, .string tv] _) (fdL_one ⟨cn, tv⟩) (by unfold maxLen; omega) (by omega) (by simp; omega) ?_)
      intro v1 w8 hown1 hgrow _
      obtain ⟨a1, cap1, rfl⟩ := row_form hown1
      have HR8 : Hid (w8.ownsRow W0.heap.size 53 2 (.slice a1 (k + 1) cap1) (k + 1) (flF (acc ++ [(⟨cn, tv⟩ : Fd)]))) := by
        rw [Hid, flF_app]; exact hown1
      have hrow : ∀ g, g < W0.heap.size → some g ≠ (Value.slice a k c).ownBlock := fun g hg e => by
        have := (World.ownsRow.lt HO6.out g e.symm).1
        omega
      have HY8 : Hid (RB w8 (w.heap.size + 1) m tg (.slice a k c) ⟨#[]⟩ false) := by
        rw [Hid, RB, hgrow.block (w.heap.size + 1) (by have := HY6.out.lt; simp; omega) (hrow _ (by have := HZ0.out; omega))]
        exact HY6.out.below ((Below.refl _ _).alloc (Nat.le_refl _) _)
      have HX8 : Hid (RB w8 w.heap.size ⟨#[]⟩ ⟨#[]⟩ (.slice none 0 0) ⟨#[]⟩ false) := by
        rw [Hid, RB, hgrow.block w.heap.size (by have := HX6.out.lt; simp; omega) (hrow _ (by have := HZ0.out; omega))]
        exact HX6.out.below ((Below.refl _ _).alloc (Nat.le_refl _) _)
      have HB8 : Hid (Below w.heap.size w w8) := (HB6.out.alloc HB6.out.size _).grown hgrow (by have := HB6.out.size; simp; omega) (fun i hi => by have := (World.ownsRow.lt HO6.out i hi).1; have := HZ0.out; omega)
      have HZ8 : Hid (W0.heap.size ≤ w8.heap.size) := by have := hgrow.size; simp at this; rw [Hid]; omega
      have HKK : Hid ((acc ++ [(⟨cn, tv⟩ : Fd)]).length = k + 1) := by rw [Hid, List.length_append, HK.out]; rfl
      obtain ⟨W9, hW9⟩ : ∃ W9, w8.setCell ⟨w.heap.size + 1, 2, none⟩ (.slice a1 (k + 1) cap1) = W9 := ⟨_, rfl⟩
      have HY9 : Hid (RB W9 (w.heap.size + 1) m tg (.slice a1 (k + 1) cap1) ⟨#[]⟩ false) := by
        have := set_block HY8.out 2 (.slice a1 (k + 1) cap1)
        rw [hW9] at this
        rw [Hid]; simpa [RB] using this
      have HX9 : Hid (RB W9 w.heap.size ⟨#[]⟩ ⟨#[]⟩ (.slice none 0 0) ⟨#[]⟩ false) := by
        rw [Hid, RB, ← hW9, Below.heap_setCell _ _ _ _ (by simp)]
        exact HX8.out
      have HB9 : Hid (Below w.heap.size w W9) := by rw [Hid, ← hW9]; exact HB8.out.setCell (p := ⟨w.heap.size + 1, 2, none⟩) (by simp) _
      have HO9 : Hid (W9.ownsRow W0.heap.size 53 2 (.slice a1 (k + 1) cap1) (k + 1) (flF (acc ++ [(⟨cn, tv⟩ : Fd)]))) := by
        rw [Hid, ← hW9]
        exact ownsRow_setCell_below (a := ⟨w.heap.size + 1, 2, none⟩) HR8.out (by have := HZ0.out; show w.heap.size + 1 < _; omega) _
      have HZ9 : Hid (W0.heap.size ≤ W9.heap.size) := by rw [Hid, ← hW9]; simp [World.setCell]; exact HZ8.out
      clear hown1 hgrow hrow f0 f1 f2 f3 f4 g0 g1 g2 g3 g4 k0 k1 k2 k3 k4 j0 j1 j2 j3 j4
      obtain ⟨g0, g1, g2, g3, g4⟩ := HY8.out.free
      obtain ⟨j0, j1, j2, j3, j4⟩ := HY8.out.box
      go_wp2_with fail
      try rw [hW9]
      go_roundw
      case rel => exact ⟨r2, _, fs2, a1, cap1, k + 1, rfl, HKK.out, HQ2.out, HAF2.out, HRS2.out, HY9.out, HX9.out, HO9.out, HB9.out, HZ9.out⟩
      case measure => exact HLT.out
end Go.Proofs.YthhhoppmbimeiaaDoor
