/-
  The contract of Parse where the head can be read.
-/
import Derived.Test.YthhhoppmbimeiaaDoorPrsA
namespace Go.Proofs.YthhhoppmbimeiaaDoor
open Go.RowKit
set_option maxRecDepth 20000 in
set_option maxHeartbeats 8000000 in
theorem parse_good (s : ByteArray) (k : Nat) (m : Int) (w : World) (hs : s.size ≤ 9223372036854775807) (hm : w.cell? ⟨0, 0, none⟩ = some (.int .i64 m)) (hk : ix4 s = some k) (mt tg : ByteArray) (fs : List Fd) (hn : rdH (s.extract 0 k) = some (mt, tg, fs, true)) :
    Calls Tryd.prog 8 #[.string s] w fun e w' => ∃ a c, e = .returned (psV (parseR s) a c) ∧ FA w'.heap.size w' a (parseR s).fs ∧ Below w.heap.size w w' := by
  have HM : Hid (∀ W, Below w.heap.size w W → W.cell? ⟨0, 0, none⟩ = some (.int .i64 m)) := fun W b => mx_below hm b
  have hI : Lib.indexB (s.extract 0 (min s.size 4096)) hEnd = (k : Int) := by
    rcases ix4_index s with ⟨_, h⟩ | ⟨j, h, e⟩
    · rw [hk] at h; cases h
    · rw [hk] at e; cases e; exact h
  have H1 : Hid (∀ W, Below w.heap.size w W → _) := fun W b => findS_any (s.extract 0 (min s.size 4096)) hEnd (k : Int) (by rw [ByteArray.size_extract]; omega) hI m W (HM.out W b)
  rw [show hEnd = (⟨#[13, 10, 13, 10]⟩ : ByteArray) from rfl, ← show (min (s.size : Int) 4096).toNat = min s.size 4096 by omega] at H1
  obtain ⟨HE, hsz, hks⟩ := ends_of hk
  have hk4 := (ix4_some hk).2.1
  have hhz : (s.extract 0 k).size ≤ 4096 := by rw [ByteArray.size_extract]; omega
  have H2 : Hid (∀ W, Below w.heap.size w W → _) := fun W b => readHead_some (s.extract 0 k) m W hhz (HM.out W b) mt tg fs true hn
  obtain ⟨z1, z2, z3, z4⟩ := rdH_ok hhz hn
  have HOK : Hid (∀ (a : Option Addr) (c : Nat), rqOk ⟨mt, tg, a, c, fs, ⟨#[]⟩, false⟩) := fun a c => ⟨by show fs.length ≤ _; omega, fun f hf => by have := z4 f hf; exact ⟨by omega, by omega⟩⟩
  have H3 : Hid (∀ (a : Option Addr) (c B : Nat) (W : World), FA B W a fs → B ≤ W.heap.size → _) := fun a c B W h hB => right_any ⟨mt, tg, a, c, fs, ⟨#[]⟩, false⟩ B W h hB (HOK.out a c) (by show mt.size ≤ _; omega) (by show tg.size ≤ _; omega)
  have H4 : Hid (∀ (a : Option Addr) (c B : Nat) (W : World), FA B W a fs → B ≤ W.heap.size → _) := fun a c B W h hB => closes_any ⟨mt, tg, a, c, fs, ⟨#[]⟩, false⟩ B W h hB (HOK.out a c)
  have HP : Hid (parseR s = if (rightR mt tg fs).2 ≠ 0 then noPs (rightR mt tg fs).2 else if s.size < k + 4 + (rightR mt tg fs).1.toNat then noPs 4 else ⟨mt, tg, fs, s.extract (k + 4) (k + 4 + (rightR mt tg fs).1.toNat), clsR fs, k + 4 + (rightR mt tg fs).1.toNat, 0⟩) := by rw [Hid, parseR, hk]; show atP s k (rdH (s.extract 0 k)) = _; rw [hn]; rfl
  obtain ⟨r1, r2, r3⟩ := rightR_bound mt tg fs
  simp only [rqV] at H2 H3 H4
  obtain ⟨F, hF⟩ : ∃ F, fs.length = F := ⟨_, rfl⟩
  rw [hF] at H2 H3 H4
  have HF : Hid _ := hF
  obtain ⟨x, hx⟩ : ∃ x, (rightR mt tg fs).1.toNat = x := ⟨_, rfl⟩
  have hxz : (rightR mt tg fs).1 = (x : Int) := by omega
  obtain ⟨E, hE⟩ : ∃ E, (rightR mt tg fs).2 = E := ⟨_, rfl⟩
  obtain ⟨sh, hsh⟩ : ∃ b, clsR fs = b := ⟨_, rfl⟩
  rw [hx, hE, hsh] at HP
  rw [hxz, hE] at H3
  rw [hsh] at H4
  have hx8 : x ≤ 8192 := by omega
  rw [hE] at r3
  have HE3 : Hid (E = 0 ∨ E = 170 ∨ E = 171) := r3
  have q0 : ¬ (k : Int) < 0 := by omega
  have q1 : (0 : Int) ≤ (k : Int) := by omega
  have q2 : (k : Int) ≤ (s.size : Int) := by omega
  have q3 : (k : Int) + 4 ≤ (s.size : Int) := by omega
  clear hI hn hm HE hsz hhz hk hF hx hxz hE hsh r1 r2 r3 z1 z2 z3 z4
  obtain ⟨T, hT⟩ : ∃ T, parseR s = T := ⟨_, rfl⟩
  rw [hT] at HP ⊢
  clear hT
  obtain ⟨W0, hW0⟩ : ∃ W0, w.alloc (.cells #[.string ⟨#[]⟩, .string ⟨#[]⟩, .slice none 0 0, .string ⟨#[]⟩, .bool false] 24) = W0 := ⟨_, rfl⟩
  have HB0 : Hid (Below w.heap.size w W0) := by rw [Hid, ← hW0]; exact (Below.refl _ _).alloc (Nat.le_refl _) _
  have HX0 : Hid (RB W0 w.heap.size ⟨#[]⟩ ⟨#[]⟩ (.slice none 0 0) ⟨#[]⟩ false) := by rw [Hid, ← hW0]; exact block_alloc_at _ _
  obtain ⟨f0, f1, f2, f3, f4⟩ := HX0.out.free
  obtain ⟨k0, k1, k2, k3, k4⟩ := HX0.out.box
  go_enter Tryd.func8, Tryd.ntmps8
  go_wp2_with fail
  try rw [hW0]
  refine (H1.out _ HB0.out).mono ?_
  rintro e w1 ⟨rfl, hw1⟩
  rw [hw1]
  clear hw1 w1
  go_wp2_with fail
  refine (H2.out _ HB0.out).mono ?_
  rintro e w2 ⟨fa, fc, rfl, hO, b2⟩
  have HO : Hid _ := hO
  have HB2 : Hid (Below w.heap.size w w2) := HB0.out.trans (b2.mono HB0.out.size)
  have HX2 : Hid (RB w2 w.heap.size ⟨#[]⟩ ⟨#[]⟩ (.slice none 0 0) ⟨#[]⟩ false) := HX0.out.below b2
  clear b2 hO f0 f1 f2 f3 f4 k0 k1 k2 k3 k4
  obtain ⟨f0, f1, f2, f3, f4⟩ := HX2.out.free
  obtain ⟨k0, k1, k2, k3, k4⟩ := HX2.out.box
  obtain ⟨W3, hW3⟩ : ∃ W3, set5 w2 w.heap.size (.string mt) (.string tg) (.slice fa F fc) (.string ⟨#[]⟩) (.bool false) = W3 := ⟨_, rfl⟩
  have HB3 : Hid (Below w.heap.size w W3) := by rw [Hid, ← hW3]; exact set5_below HB2.out (Nat.le_refl _) _ _ _ _ _
  have HX3 : Hid (RB W3 w.heap.size mt tg (.slice fa F fc) ⟨#[]⟩ false) := by rw [Hid, ← hW3]; exact HX2.out.set5 mt tg (.slice fa F fc) ⟨#[]⟩ false
  have HF3 : Hid (FA W3.heap.size W3 fa fs) := by
    have hq := owns_set5 HO.out (g := w.heap.size) (by rw [← hW0]; simp) (.string mt) (.string tg) (.slice fa F fc) (.string ⟨#[]⟩) (.bool false)
    rw [← HF.out] at hq
    rw [Hid, ← hW3, ← HF.out]
    exact fa_row hq
  have HO3 : Hid (W3.ownsRow W0.heap.size 53 2 (.slice fa F fc) F (flF fs)) := by
    rw [Hid, ← hW3]
    exact owns_set5 HO.out (g := w.heap.size) (by rw [← hW0]; simp) _ _ _ _ _
  have HZ0 : Hid (w.heap.size < W0.heap.size) := by rw [Hid, ← hW0]; simp
  unfold set5 at hW3
  obtain ⟨j0, j1, j2, j3, j4⟩ := HX3.out.box
  go_wp2_with fail
  try rw [hW3]
  clear hW3 hW0 j0 j1 j2 j3 j4 f0 f1 f2 f3 f4 k0 k1 k2 k3 k4 HO HX2 HB2 HX0
  refine (H3.out _ _ _ _ HF3.out (Nat.le_refl _)).mono ?_
  rintro e w4 ⟨rfl, b4⟩
  have HB4 : Hid (Below w.heap.size w w4) := HB3.out.trans (b4.mono HB3.out.size)
  have HX4 : Hid (RB w4 w.heap.size mt tg (.slice fa F fc) ⟨#[]⟩ false) := HX3.out.below b4
  have HF4 : Hid (FA W3.heap.size w4 fa fs) := FA.below HF3.out (fun b hb => b4.block b hb)
  have HZ4 : Hid (W3.heap.size ≤ w4.heap.size) := b4.size
  have HO4 : Hid (w4.ownsRow W0.heap.size 53 2 (.slice fa F fc) F (flF fs)) := owns_on2 HO3.out b4
  clear b4
  obtain ⟨f0, f1, f2, f3, f4⟩ := HX4.out.free
  obtain ⟨k0, k1, k2, k3, k4⟩ := HX4.out.box
  by_cases hE0 : E = 0
  · subst hE0
    by_cases hl : s.size < k + 4 + x
    · have q4 : (s.size : Int) - ((k : Int) + 4) < (x : Int) := by omega
      have q5 : ((s.size - (k + 4) : Nat) : Int) < (x : Int) := by omega
      have HR : Hid (T = noPs 4) := by rw [Hid, HP.out]; simp only [ne_eq, not_true_eq_false, if_false]; rw [if_pos hl]
      go_wp2_with fail
      rw [HR.out]
      obtain ⟨W9, hW9⟩ : ∃ W9, set5 w4 w.heap.size (.string ⟨#[]⟩) (.string ⟨#[]⟩) (.slice none 0 0) (.string ⟨#[]⟩) (.bool false) = W9 := ⟨_, rfl⟩
      have HB9 : Hid (Below w.heap.size w W9) := by rw [Hid, ← hW9]; exact set5_below HB4.out (Nat.le_refl _) _ _ _ _ _
      have HX9 : RB W9 w.heap.size ⟨#[]⟩ ⟨#[]⟩ (.slice none 0 0) ⟨#[]⟩ false := by rw [← hW9]; exact HX4.out.set5 ⟨#[]⟩ ⟨#[]⟩ (.slice none 0 0) ⟨#[]⟩ false
      unfold set5 at hW9
      rw [hW9]
      obtain ⟨k0, k1, k2, k3, k4⟩ := HX9.box
      clear hW9 HX9
      refine bodyPost_ret (v := psV (noPs 4) none 0) ?_ rfl ⟨none, 0, rfl, FA.nil _ _ _, HB9.out⟩
      rw [results_cell_tmp2 rfl]
      go_simp
      rfl
    · have q4 : ¬ ((s.size - (k + 4) : Nat) : Int) < (x : Int) := by omega
      have HR : Hid (T = ⟨mt, tg, fs, s.extract (k + 4) (k + 4 + x), sh, k + 4 + x, 0⟩) := by rw [Hid, HP.out]; simp only [ne_eq, not_true_eq_false, if_false]; rw [if_neg hl]
      have HF4d : Hid (FA W3.heap.size w4.drew fa fs) := fa_drew HF4.out
      have HX4d : Hid (RB w4.drew w.heap.size mt tg (.slice fa F fc) ⟨#[]⟩ false) := RB.drew HX4.out
      have HB4d : Hid (Below w.heap.size w w4.drew) := below_drew HB4.out
      have HO4d : Hid (w4.drew.ownsRow W0.heap.size 53 2 (.slice fa F fc) F (flF fs)) := owns_drew HO4.out
      have HZ4d : Hid (W3.heap.size ≤ w4.drew.heap.size) := HZ4.out
      have q5 : (x : Int) ≤ ((s.size - (k + 4) : Nat) : Int) := by omega
      have q6 : (0 : Int) ≤ (x : Int) := by omega
      go_wp2_with fail
      go_region_with (go_at_call 24; refine (H4.out _ _ _ _ (by first | exact HF4.out | exact HF4d.out) (by first | exact HZ4.out | exact HZ4d.out)).mono ?_; rintro e w6 ⟨rfl, b6⟩; have HX6 : Hid (RB w6 w.heap.size mt tg (.slice fa F fc) ⟨#[]⟩ false) := (by first | exact HX4.out.below b6 | exact HX4d.out.below b6); have HB6 : Hid (Below w.heap.size w w6) := (by first | exact HB4.out.trans (b6.mono HB4.out.size) | exact HB4d.out.trans (b6.mono HB4d.out.size)); have HO6 : Hid (w6.ownsRow W0.heap.size 53 2 (.slice fa F fc) F (flF fs)) := (by first | exact owns_on2 HO4.out b6 | exact owns_on2 HO4d.out b6); clear b6 f0 f1 f2 f3 f4; obtain ⟨f0, f1, f2, f3, f4⟩ := HX6.out.free; obtain ⟨j0, j1, j2, j3, j4⟩ := HX6.out.box)
      obtain ⟨W7, hW7⟩ : ∃ W7, (w6.setCell ⟨w.heap.size, 3, none⟩ (.string ((s.extract (k + 4) s.size).extract 0 x))).setCell ⟨w.heap.size, 4, none⟩ (.bool sh) = W7 := ⟨_, rfl⟩
      have HBD : Hid ((s.extract (k + 4) s.size).extract 0 x = s.extract (k + 4) (k + 4 + x)) := by rw [Hid, sub_sub _ _ _ _ _ (by omega), Nat.add_zero]
      have HB7 : Hid (Below w.heap.size w W7) := by rw [Hid, ← hW7]; exact (HB6.out.setCell (p := ⟨w.heap.size, 3, none⟩) (Nat.le_refl _) _).setCell (p := ⟨w.heap.size, 4, none⟩) (Nat.le_refl _) _
      have HX7 : Hid (RB W7 w.heap.size mt tg (.slice fa F fc) ((s.extract (k + 4) s.size).extract 0 x) sh) := by
        have := set_block (set_block HX6.out 3 (.string ((s.extract (k + 4) s.size).extract 0 x))) 4 (.bool sh)
        rw [hW7] at this
        rw [Hid]; simpa [RB] using this
      have HO7 : Hid (W7.ownsRow W0.heap.size 53 2 (.slice fa F fc) F (flF fs)) := by
        rw [Hid, ← hW7]
        exact ownsRow_setCell_below (a := ⟨w.heap.size, 4, none⟩) (ownsRow_setCell_below (a := ⟨w.heap.size, 3, none⟩) HO6.out HZ0.out _) HZ0.out _
      obtain ⟨bd, hbd⟩ : ∃ b, (s.extract (k + 4) s.size).extract 0 x = b := ⟨_, rfl⟩
      rw [hW7, hbd]
      rw [hbd] at HBD HX7
      clear hW7 hbd f0 f1 f2 f3 f4 j0 j1 j2 j3 j4 k0 k1 k2 k3 k4
      obtain ⟨f0, f1, f2, f3, f4⟩ := HX7.out.free
      obtain ⟨k0, k1, k2, k3, k4⟩ := HX7.out.box
      go_wp2_with fail
      obtain ⟨W9, hW9⟩ : ∃ W9, set5 W7 w.heap.size (.string mt) (.string tg) (.slice fa F fc) (.string bd) (.bool sh) = W9 := ⟨_, rfl⟩
      have HB9 : Hid (Below w.heap.size w W9) := by rw [Hid, ← hW9]; exact set5_below HB7.out (Nat.le_refl _) _ _ _ _ _
      have HX9 : RB W9 w.heap.size mt tg (.slice fa F fc) bd sh := by rw [← hW9]; exact HX7.out.set5 mt tg (.slice fa F fc) bd sh
      have HO9 : Hid (FA W9.heap.size W9 fa fs) := by
        have hq := owns_set5 HO7.out HZ0.out (.string mt) (.string tg) (.slice fa F fc) (.string bd) (.bool sh)
        rw [hW9, ← HF.out] at hq
        exact fa_row hq
      unfold set5 at hW9
      rw [hW9]
      clear k0 k1 k2 k3 k4
      obtain ⟨k0, k1, k2, k3, k4⟩ := HX9.box
      clear hW9 HX9
      refine bodyPost_ret (v := .tuple #[.agg #[.string mt, .string tg, .slice fa F fc, .string bd, .bool sh], .int .i64 ((k : Int) + 4 + (x : Int)), .int .i64 0]) ?_ rfl ⟨fa, fc, ?_, by rw [HR.out]; exact HO9.out, HB9.out⟩
      · rw [results_cell_tmp2 rfl]
        go_simp
      · rw [HR.out, HBD.out]
        show _ = Ending.returned (.tuple #[.agg #[.string mt, .string tg, .slice fa fs.length fc, _, _], .int .i64 ((k + 4 + x : Nat) : Int), _])
        rw [HF.out]
        rfl
  · have HR : Hid (T = noPs E) := by rw [Hid, HP.out, if_pos hE0]
    have q4 : (E != 0) = true := by simp [hE0]
    go_wp2_with fail
    rw [HR.out]
    obtain ⟨W9, hW9⟩ : ∃ W9, set5 w4 w.heap.size (.string ⟨#[]⟩) (.string ⟨#[]⟩) (.slice none 0 0) (.string ⟨#[]⟩) (.bool false) = W9 := ⟨_, rfl⟩
    have HB9 : Hid (Below w.heap.size w W9) := by rw [Hid, ← hW9]; exact set5_below HB4.out (Nat.le_refl _) _ _ _ _ _
    have HX9 : RB W9 w.heap.size ⟨#[]⟩ ⟨#[]⟩ (.slice none 0 0) ⟨#[]⟩ false := by rw [← hW9]; exact HX4.out.set5 ⟨#[]⟩ ⟨#[]⟩ (.slice none 0 0) ⟨#[]⟩ false
    unfold set5 at hW9
    rw [hW9]
    obtain ⟨k0, k1, k2, k3, k4⟩ := HX9.box
    clear hW9 HX9
    refine bodyPost_ret (v := psV (noPs E) none 0) ?_ rfl ⟨none, 0, rfl, FA.nil _ _ _, HB9.out⟩
    rw [results_cell_tmp2 rfl]
    go_simp
    rfl
/-- The contract of Parse. -/
theorem parse_any (s : ByteArray) (m : Int) (w : World) (hs : s.size ≤ 9223372036854775807) (hm : w.cell? ⟨0, 0, none⟩ = some (.int .i64 m)) :
    Calls Tryd.prog 8 #[.string s] w fun e w' => ∃ a c, e = .returned (psV (parseR s) a c) ∧ FA w'.heap.size w' a (parseR s).fs ∧ Below w.heap.size w w' := by
  cases hk : ix4 s with
  | none => exact parse_short s m w hs hm hk
  | some k =>
    cases hn : rdH (s.extract 0 k) with
    | none => exact parse_nohead s k m w hs hm hk hn
    | some x =>
      obtain ⟨mt, tg, fs, ok⟩ := x
      cases ok with
      | false => exact parse_bad s k m w hs hm hk mt tg fs hn
      | true => exact parse_good s k m w hs hm hk mt tg fs hn
end Go.Proofs.YthhhoppmbimeiaaDoor
