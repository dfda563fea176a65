/-
  The contract of Parse.
-/
import Derived.Test.YthhhoppmbimeiaaDoorPm
namespace Go.Proofs.YthhhoppmbimeiaaDoor
open Go.RowKit
theorem findS_any (s sub : ByteArray) (I : Int) (hs : s.size < 4294967281) (hI : Lib.indexB s sub = I) (m : Int) (w : World) (hm : w.cell? ⟨0, 0, none⟩ = some (.int .i64 m)) :
    Calls Tryd.prog 21 #[.string s, .string sub] w fun e w' => e = .returned (.int .i64 I) ∧ w' = w := by
  rw [← hI]
  exact Tryd.strings_Index s sub m w hs hm
theorem results_cell_tmp2 {fn : Func} {p u v : Tmp} {ty : TypeId} (h : fn.results = #[.cell p ty, .tmp u, .tmp v]) (tmps : Array Value) (P : Program) (w : World) :
    (results fn tmps).run P w =
      ((asAddr (tmps.getD p undef)).run P w).andThen fun a w₁ => ((loadVar ty a).run P w₁).andThen fun x w₂ => .ok (.tuple #[x, tmps.getD u undef, tmps.getD v undef]) w₂ := by
  simp only [results, h]
  simp [Sem.run_bind, Result.andThen]
theorem hid_mk {p : Prop} (h : p) : Hid p := h
def psV (p : Ps) (a : Option Addr) (c : Nat) : Value := .tuple #[rqV ⟨p.met, p.tar, a, c, p.fs, p.body, p.shut⟩, .int .i64 (p.size : Nat), .int .i64 p.err]
set_option maxRecDepth 20000 in
set_option maxHeartbeats 8000000 in
theorem parse_short (s : ByteArray) (m : Int) (w : World) (hs : s.size ≤ 9223372036854775807) (hm : w.cell? ⟨0, 0, none⟩ = some (.int .i64 m)) (hn : ix4 s = none) :
    Calls Tryd.prog 8 #[.string s] w fun e w' => ∃ a c, e = .returned (psV (parseR s) a c) ∧ FA w'.heap.size w' a (parseR s).fs ∧ Below w.heap.size w w' := by
  have HM : Hid (∀ W, Below w.heap.size w W → W.cell? ⟨0, 0, none⟩ = some (.int .i64 m)) := fun W b => mx_below hm b
  have hI : Lib.indexB (s.extract 0 (min s.size 4096)) hEnd = -1 := by
    rcases ix4_index s with ⟨h, _⟩ | ⟨k, _, h⟩
    · exact h
    · rw [hn] at h; cases h
  have H1 : Hid (∀ W, Below w.heap.size w W → _) := fun W b => findS_any (s.extract 0 (min s.size 4096)) hEnd (-1) (by rw [ByteArray.size_extract]; omega) hI m W (HM.out W b)
  rw [show hEnd = (⟨#[13, 10, 13, 10]⟩ : ByteArray) from rfl, ← show (min (s.size : Int) 4096).toNat = min s.size 4096 by omega] at H1
  have HP : Hid (parseR s = noPs (if 4096 ≤ s.size then 172 else 4)) := by rw [Hid, parseR, hn]
  clear hI hn hm
  obtain ⟨W0, hW0⟩ : ∃ W0, w.alloc (.cells #[.string ⟨#[]⟩, .string ⟨#[]⟩, .slice none 0 0, .string ⟨#[]⟩, .bool false] 24) = W0 := ⟨_, rfl⟩
  have HB0 : Hid (Below w.heap.size w W0) := by rw [Hid, ← hW0]; exact (Below.refl _ _).alloc (Nat.le_refl _) _
  have HX0 : Hid (RB W0 w.heap.size ⟨#[]⟩ ⟨#[]⟩ (.slice none 0 0) ⟨#[]⟩ false) := by rw [Hid, ← hW0]; exact block_alloc_at _ _
  obtain ⟨f0, f1, f2, f3, f4⟩ := HX0.out.free
  obtain ⟨k0, k1, k2, k3, k4⟩ := HX0.out.box
  by_cases hz : 4096 ≤ s.size
  · have q0 : (4096 : Int) ≤ (s.size : Int) := by omega
    rw [HP.out, if_pos hz]
    clear HP
    go_enter Tryd.func8, Tryd.ntmps8
    go_wp2_with fail
    try rw [hW0]
    refine (H1.out _ HB0.out).mono ?_
    rintro e w1 ⟨rfl, hw1⟩
    rw [hw1]
    clear hw1 w1
    go_wp2_with fail
    obtain ⟨W9, hW9⟩ : ∃ W9, set5 W0 w.heap.size (.string ⟨#[]⟩) (.string ⟨#[]⟩) (.slice none 0 0) (.string ⟨#[]⟩) (.bool false) = W9 := ⟨_, rfl⟩
    have HB9 : Hid (Below w.heap.size w W9) := by rw [Hid, ← hW9]; exact set5_below HB0.out (Nat.le_refl _) _ _ _ _ _
    have HX9 : RB W9 w.heap.size ⟨#[]⟩ ⟨#[]⟩ (.slice none 0 0) ⟨#[]⟩ false := by rw [← hW9]; exact HX0.out.set5 ⟨#[]⟩ ⟨#[]⟩ (.slice none 0 0) ⟨#[]⟩ false
    unfold set5 at hW9
    rw [hW9]
    obtain ⟨k0, k1, k2, k3, k4⟩ := HX9.box
    clear hW9 HX9
    refine bodyPost_ret (v := psV (noPs 172) none 0) ?_ rfl ⟨none, 0, rfl, FA.nil _ _ _, HB9.out⟩
    rw [results_cell_tmp2 rfl]
    go_simp
    rfl
  · have q0 : decide ((4096 : Int) ≤ (s.size : Int)) = false := by simp; omega
    rw [HP.out, if_neg hz]
    clear HP
    go_enter Tryd.func8, Tryd.ntmps8
    go_wp2_with fail
    try rw [hW0]
    refine (H1.out _ HB0.out).mono ?_
    rintro e w1 ⟨rfl, hw1⟩
    rw [hw1]
    clear hw1 w1
    go_wp2_with fail
    obtain ⟨W9, hW9⟩ : ∃ W9, set5 W0 w.heap.size (.string ⟨#[]⟩) (.string ⟨#[]⟩) (.slice none 0 0) (.string ⟨#[]⟩) (.bool false) = W9 := ⟨_, rfl⟩
    have HB9 : Hid (Below w.heap.size w W9) := by rw [Hid, ← hW9]; exact set5_below HB0.out (Nat.le_refl _) _ _ _ _ _
    have HX9 : RB W9 w.heap.size ⟨#[]⟩ ⟨#[]⟩ (.slice none 0 0) ⟨#[]⟩ false := by rw [← hW9]; exact HX0.out.set5 ⟨#[]⟩ ⟨#[]⟩ (.slice none 0 0) ⟨#[]⟩ false
    unfold set5 at hW9
    rw [hW9]
    obtain ⟨k0, k1, k2, k3, k4⟩ := HX9.box
    clear hW9 HX9
    refine bodyPost_ret (v := psV (noPs 4) none 0) ?_ rfl ⟨none, 0, rfl, FA.nil _ _ _, HB9.out⟩
    rw [results_cell_tmp2 rfl]
    go_simp
    rfl
set_option maxRecDepth 20000 in
set_option maxHeartbeats 8000000 in
theorem parse_nohead (s : ByteArray) (k : Nat) (m : Int) (w : World) (hs : s.size ≤ 9223372036854775807) (hm : w.cell? ⟨0, 0, none⟩ = some (.int .i64 m)) (hk : ix4 s = some k) (hn : rdH (s.extract 0 k) = none) :
    Calls Tryd.prog 8 #[.string s] w fun e w' => ∃ a c, e = .returned (psV (parseR s) a c) ∧ FA w'.heap.size w' a (parseR s).fs ∧ Below w.heap.size w w' := by
  have HM : Hid (∀ W, Below w.heap.size w W → W.cell? ⟨0, 0, none⟩ = some (.int .i64 m)) := fun W b => mx_below hm b
  have hI : Lib.indexB (s.extract 0 (min s.size 4096)) hEnd = (k : Int) := by
    rcases ix4_index s with ⟨_, h⟩ | ⟨j, h, e⟩
    · rw [hk] at h; cases h
    · rw [hk] at e; cases e; exact h
  have H1 : Hid (∀ W, Below w.heap.size w W → _) := fun W b => findS_any (s.extract 0 (min s.size 4096)) hEnd (k : Int) (by rw [ByteArray.size_extract]; omega) hI m W (HM.out W b)
  rw [show hEnd = (⟨#[13, 10, 13, 10]⟩ : ByteArray) from rfl, ← show (min (s.size : Int) 4096).toNat = min s.size 4096 by omega] at H1
  obtain ⟨HE, hsz, hks⟩ := ends_of hk
  have hk4 := (ix4_some hk).2.1
  have hhz : (s.extract 0 k).size ≤ 4096 := by rw [ByteArray.size_extract]; omega
  have H2 : Hid (∀ W, Below w.heap.size w W → _) := fun W b => readHead_none (s.extract 0 k) m W hhz (HM.out W b) hn
  have HP : Hid (parseR s = noPs 170) := by rw [Hid, parseR, hk]; show atP s k (rdH (s.extract 0 k)) = _; rw [hn]; rfl
  rw [HP.out]
  unfold zeroRq at H2
  have q0 : ¬ (k : Int) < 0 := by omega
  have q1 : (0 : Int) ≤ (k : Int) := by omega
  have q2 : (k : Int) ≤ (s.size : Int) := by omega
  clear hI hn hm HE hsz hhz HP hk
  obtain ⟨W0, hW0⟩ : ∃ W0, w.alloc (.cells #[.string ⟨#[]⟩, .string ⟨#[]⟩, .slice none 0 0, .string ⟨#[]⟩, .bool false] 24) = W0 := ⟨_, rfl⟩
  have HB0 : Hid (Below w.heap.size w W0) := by rw [Hid, ← hW0]; exact (Below.refl _ _).alloc (Nat.le_refl _) _
  have HX0 : Hid (RB W0 w.heap.size ⟨#[]⟩ ⟨#[]⟩ (.slice none 0 0) ⟨#[]⟩ false) := by rw [Hid, ← hW0]; exact block_alloc_at _ _
  obtain ⟨f0, f1, f2, f3, f4⟩ := HX0.out.free
  obtain ⟨k0, k1, k2, k3, k4⟩ := HX0.out.box
  go_enter Tryd.func8, Tryd.ntmps8
  go_wp2_with fail
  try rw [hW0]
  refine (H1.out _ HB0.out).mono ?_
  rintro e w1 ⟨rfl, hw1⟩
  rw [hw1]
  clear hw1 w1
  go_wp2_with fail
  refine (H2.out _ HB0.out).mono ?_
  rintro e w2 ⟨rfl, b2⟩
  have HB2 : Hid (Below w.heap.size w w2) := HB0.out.trans (b2.mono HB0.out.size)
  have HX2 : Hid (RB w2 w.heap.size ⟨#[]⟩ ⟨#[]⟩ (.slice none 0 0) ⟨#[]⟩ false) := HX0.out.below b2
  clear b2 f0 f1 f2 f3 f4 k0 k1 k2 k3 k4
  obtain ⟨f0, f1, f2, f3, f4⟩ := HX2.out.free
  obtain ⟨k0, k1, k2, k3, k4⟩ := HX2.out.box
  go_wp2_with fail
  obtain ⟨W9, hW9⟩ : ∃ W9, set5 (set5 w2 w.heap.size (.string ⟨#[]⟩) (.string ⟨#[]⟩) (.slice none 0 0) (.string ⟨#[]⟩) (.bool false)) w.heap.size (.string ⟨#[]⟩) (.string ⟨#[]⟩) (.slice none 0 0) (.string ⟨#[]⟩) (.bool false) = W9 := ⟨_, rfl⟩
  have HB9 : Hid (Below w.heap.size w W9) := by rw [Hid, ← hW9]; exact set5_below (hid_mk (set5_below HB2.out (Nat.le_refl _) _ _ _ _ _)).out (Nat.le_refl _) _ _ _ _ _
  have HX9 : RB W9 w.heap.size ⟨#[]⟩ ⟨#[]⟩ (.slice none 0 0) ⟨#[]⟩ false := by rw [← hW9]; exact (hid_mk (HX2.out.set5 ⟨#[]⟩ ⟨#[]⟩ (.slice none 0 0) ⟨#[]⟩ false)).out.set5 ⟨#[]⟩ ⟨#[]⟩ (.slice none 0 0) ⟨#[]⟩ false
  unfold set5 at hW9
  rw [hW9]
  obtain ⟨k0, k1, k2, k3, k4⟩ := HX9.box
  clear hW9 HX9
  refine bodyPost_ret (v := psV (noPs 170) none 0) ?_ rfl ⟨none, 0, rfl, FA.nil _ _ _, HB9.out⟩
  rw [results_cell_tmp2 rfl]
  go_simp
  rfl
set_option maxRecDepth 20000 in
set_option maxHeartbeats 8000000 in
theorem parse_bad (s : ByteArray) (k : Nat) (m : Int) (w : World) (hs : s.size ≤ 9223372036854775807) (hm : w.cell? ⟨0, 0, none⟩ = some (.int .i64 m)) (hk : ix4 s = some k) (mt tg : ByteArray) (fs : List Fd) (hn : rdH (s.extract 0 k) = some (mt, tg, fs, false)) :
    Calls Tryd.prog 8 #[.string s] w fun e w' => ∃ a c, e = .returned (psV (parseR s) a c) ∧ FA w'.heap.size w' a (parseR s).fs ∧ Below w.heap.size w w' := by
  have HM : Hid (∀ W, Below w.heap.size w W → W.cell? ⟨0, 0, none⟩ = some (.int .i64 m)) := fun W b => mx_below hm b
  have hI : Lib.indexB (s.extract 0 (min s.size 4096)) hEnd = (k : Int) := by
    rcases ix4_index s with ⟨_, h⟩ | ⟨j, h, e⟩
    · rw [hk] at h; cases h
    · rw [hk] at e; cases e; exact h
  have H1 : Hid (∀ W, Below w.heap.size w W → _) := fun W b => findS_any (s.extract 0 (min s.size 4096)) hEnd (k : Int) (by rw [ByteArray.size_extract]; omega) hI m W (HM.out W b)
  rw [show hEnd = (⟨#[13, 10, 13, 10]⟩ : ByteArray) from rfl, ← show (min (s.size : Int) 4096).toNat = min s.size 4096 by omega] at H1
  obtain ⟨HE, hsz, hks⟩ := ends_of hk
  have hk4 := (ix4_some hk).2.1
  have hhz : (s.extract 0 k).size ≤ 4096 := by rw [ByteArray.size_extract]; omega
  have H2 : Hid (∀ W, Below w.heap.size w W → _) := fun W b => readHead_some (s.extract 0 k) m W hhz (HM.out W b) mt tg fs false hn
  have HP : Hid (parseR s = noPs 170) := by rw [Hid, parseR, hk]; show atP s k (rdH (s.extract 0 k)) = _; rw [hn]; rfl
  rw [HP.out]
  simp only [rqV] at H2
  obtain ⟨F, hF⟩ : ∃ F, fs.length = F := ⟨_, rfl⟩
  rw [hF] at H2
  have q0 : ¬ (k : Int) < 0 := by omega
  have q1 : (0 : Int) ≤ (k : Int) := by omega
  have q2 : (k : Int) ≤ (s.size : Int) := by omega
  clear hI hn hm HE hsz hhz HP hk hF
  obtain ⟨W0, hW0⟩ : ∃ W0, w.alloc (.cells #[.string ⟨#[]⟩, .string ⟨#[]⟩, .slice none 0 0, .string ⟨#[]⟩, .bool false] 24) = W0 := ⟨_, rfl⟩
  have HB0 : Hid (Below w.heap.size w W0) := by rw [Hid, ← hW0]; exact (Below.refl _ _).alloc (Nat.le_refl _) _
  have HX0 : Hid (RB W0 w.heap.size ⟨#[]⟩ ⟨#[]⟩ (.slice none 0 0) ⟨#[]⟩ false) := by rw [Hid, ← hW0]; exact block_alloc_at _ _
  obtain ⟨f0, f1, f2, f3, f4⟩ := HX0.out.free
  obtain ⟨k0, k1, k2, k3, k4⟩ := HX0.out.box
  go_enter Tryd.func8, Tryd.ntmps8
  go_wp2_with fail
  try rw [hW0]
  refine (H1.out _ HB0.out).mono ?_
  rintro e w1 ⟨rfl, hw1⟩
  rw [hw1]
  clear hw1 w1
  go_wp2_with fail
  refine (H2.out _ HB0.out).mono ?_
  rintro e w2 ⟨fa, fc, rfl, _, b2⟩
  have HB2 : Hid (Below w.heap.size w w2) := HB0.out.trans (b2.mono HB0.out.size)
  have HX2 : Hid (RB w2 w.heap.size ⟨#[]⟩ ⟨#[]⟩ (.slice none 0 0) ⟨#[]⟩ false) := HX0.out.below b2
  clear b2 f0 f1 f2 f3 f4 k0 k1 k2 k3 k4
  obtain ⟨f0, f1, f2, f3, f4⟩ := HX2.out.free
  obtain ⟨k0, k1, k2, k3, k4⟩ := HX2.out.box
  go_wp2_with fail
  obtain ⟨W9, hW9⟩ : ∃ W9, set5 (set5 w2 w.heap.size (.string mt) (.string tg) (.slice fa F fc) (.string ⟨#[]⟩) (.bool false)) w.heap.size (.string ⟨#[]⟩) (.string ⟨#[]⟩) (.slice none 0 0) (.string ⟨#[]⟩) (.bool false) = W9 := ⟨_, rfl⟩
  have HB9 : Hid (Below w.heap.size w W9) := by rw [Hid, ← hW9]; exact set5_below (hid_mk (set5_below HB2.out (Nat.le_refl _) _ _ _ _ _)).out (Nat.le_refl _) _ _ _ _ _
  have HX9 : RB W9 w.heap.size ⟨#[]⟩ ⟨#[]⟩ (.slice none 0 0) ⟨#[]⟩ false := by rw [← hW9]; exact (hid_mk (HX2.out.set5 mt tg (.slice fa F fc) ⟨#[]⟩ false)).out.set5 ⟨#[]⟩ ⟨#[]⟩ (.slice none 0 0) ⟨#[]⟩ false
  unfold set5 at hW9
  rw [hW9]
  obtain ⟨k0, k1, k2, k3, k4⟩ := HX9.box
  clear hW9 HX9
  refine bodyPost_ret (v := psV (noPs 170) none 0) ?_ rfl ⟨none, 0, rfl, FA.nil _ _ _, HB9.out⟩
  rw [results_cell_tmp2 rfl]
  go_simp
  rfl
end Go.Proofs.YthhhoppmbimeiaaDoor
