/-
  The contract of the twin's head.
-/
import Derived.Test.YthhhoppmbimeiaaDoorPrsB
namespace Go.Proofs.YthhhoppmbimeiaaDoor
open Go.RowKit
theorem dw_head {α : Type} {p : α → Bool} : ∀ {l : List α} {a : α} {t : List α}, l.dropWhile p = a :: t → p a = false
  | [], _, _, h => by cases h
  | b :: l, a, t, h => by
    by_cases hb : p b = true
    · rw [List.dropWhile_cons_of_pos hb] at h; exact dw_head h
    · rw [List.dropWhile_cons_of_neg hb] at h; cases h; simpa using hb
theorem dw_idem {α : Type} {p : α → Bool} (l : List α) : (l.dropWhile p).dropWhile p = l.dropWhile p := by
  cases h : l.dropWhile p with
  | nil => rfl
  | cons a t => rw [List.dropWhile_cons_of_neg (by simp [dw_head h])]
theorem trimS_idem (l cs : List UInt8) : Lib.trimS (Lib.trimS l cs) cs = Lib.trimS l cs := by
  unfold Lib.trimS Lib.trimLeftS Lib.trimRightS
  obtain ⟨d, hd⟩ : ∃ d, l.reverse.dropWhile (cs.contains ·) = d := ⟨_, rfl⟩
  rw [hd]
  obtain ⟨x, hx⟩ : ∃ x, d.reverse.dropWhile (cs.contains ·) = x := ⟨_, rfl⟩
  rw [hx]
  have e : x.reverse.dropWhile (cs.contains ·) = x.reverse := by
    have hs : x.reverse <+: d := by
      have := List.reverse_prefix.2 (hx ▸ List.dropWhile_suffix (cs.contains ·) (l := d.reverse))
      rwa [List.reverse_reverse] at this
    cases hq : x.reverse with
    | nil => rfl
    | cons a t =>
      rw [hq] at hs
      obtain ⟨u, hu⟩ := hs
      have := dw_head (hd.trans hu.symm)
      rw [List.dropWhile_cons_of_neg (by simpa using this)]
  rw [e, List.reverse_reverse, ← hx, dw_idem]
theorem trimT_idem (s : ByteArray) : trimT (trimT s) = trimT s := by
  unfold trimT
  rw [trimS_idem]
theorem fldL_eq (l : ByteArray) : fldL l = if (cutR l 58).2.2 = true ∧ tokR (cutR l 58).1 = true ∧ valA (trimT (cutR l 58).2.1) = true then some ⟨(cutR l 58).1, trimT (cutR l 58).2.1⟩ else none := by
  unfold fldL fldR valR
  simp only [trimT_idem, beq_self_eq_true, Bool.and_true, Bool.and_eq_true]
theorem first_eq (l : ByteArray) : firstR l = if (cutR l 32).2.2 = true ∧ (cutR (cutR l 32).2.1 32).2.2 = true ∧ (cutR (cutR l 32).2.1 32).2.1 = ver then some ((cutR l 32).1, (cutR (cutR l 32).2.1 32).1) else none := by
  unfold firstR
  cases h1 : ixB l 32 with
  | none => simp [cutR, h1]
  | some k =>
    simp only [cutR, h1]
    cases h2 : ixB (l.extract (k + 1) l.size) 32 with
    | none => simp
    | some j => simp
def qGood (t : ByteArray) (fs : List Fd) (ok : Bool) : Bool := match firstR (lineR t).1 with
  | none => false
  | some (m, tg) => metR m && tarR tg && ok && togR fs
/-- What the twin's head leaves. -/
def QHP (t : ByteArray) (fs : List Fd) (ok : Bool) (w : World) (e : Ending) (w' : World) : Prop :=
  ∃ r : Rq, e = .returned (.tuple #[rqV r, .int .i64 (if qGood t fs ok = true then 0 else 170)]) ∧ Below w.heap.size w w' ∧ (qGood t fs ok = true → firstR (lineR t).1 = some (r.met, r.tar) ∧ r.fs = fs ∧ r.body = ⟨#[]⟩ ∧ r.shut = clsR fs ∧ w'.ownsRow w.heap.size 53 2 (.slice r.a r.fs.length r.c) r.fs.length (flF r.fs))
theorem QHP.bad {t : ByteArray} {fs : List Fd} {ok : Bool} {w w' : World} (h : qGood t fs ok = false) (hB : Below w.heap.size w w') (r : Rq) : QHP t fs ok w (.returned (.tuple #[rqV r, .int .i64 170])) w' :=
  ⟨r, by rw [h]; rfl, hB, fun q => by rw [h] at q; cases q⟩
theorem QHP.good {t : ByteArray} {fs : List Fd} {ok : Bool} {w w' : World} (h : qGood t fs ok = true) (hB : Below w.heap.size w w') (r : Rq) (hr : firstR (lineR t).1 = some (r.met, r.tar) ∧ r.fs = fs ∧ r.body = ⟨#[]⟩ ∧ r.shut = clsR fs ∧ w'.ownsRow w.heap.size 53 2 (.slice r.a r.fs.length r.c) r.fs.length (flF r.fs)) : QHP t fs ok w (.returned (.tuple #[rqV r, .int .i64 0])) w' :=
  ⟨r, by rw [h]; rfl, hB, fun _ => hr⟩
theorem cutR_size (s : ByteArray) (c : Nat) : (cutR s c).1.size ≤ s.size ∧ (cutR s c).2.1.size ≤ s.size := by
  unfold cutR
  cases hq : ixB s c with
  | some k => exact ⟨by show (s.extract 0 k).size ≤ _; rw [ByteArray.size_extract]; omega, by show (s.extract (k + 1) s.size).size ≤ _; rw [ByteArray.size_extract]; omega⟩
  | none => exact ⟨Nat.zero_le _, Nat.zero_le _⟩
theorem lineR_size (s : ByteArray) : (lineR s).1.size ≤ s.size ∧ (lineR s).2.1.size ≤ s.size := by
  unfold lineR
  cases hq : ixL s with
  | some k => exact ⟨by show (s.extract 0 k).size ≤ _; rw [ByteArray.size_extract]; omega, by show (s.extract (k + 2) s.size).size ≤ _; rw [ByteArray.size_extract]; omega⟩
  | none => exact ⟨Nat.zero_le _, Nat.zero_le _⟩
theorem ver_list {v : ByteArray} : (v.toList == [72, 84, 84, 80, 47, 49, 46, 49]) = decide (v = ver) := by
  rw [Bool.eq_iff_iff, beq_iff_eq, decide_eq_true_eq]
  constructor
  · intro e; exact toList_inj (by rw [e, ByteArray.toList_eq]; rfl)
  · rintro rfl; rw [ByteArray.toList_eq]; rfl
set_option maxRecDepth 20000 in
set_option maxHeartbeats 8000000 in
theorem qhead_first (t : ByteArray) (hs : t.size ≤ 1000000) (fs : List Fd) (ok : Bool) (w : World) (hbad : ∀ m tg, firstR (lineR t).1 = some (m, tg) → (metR m && tarR tg) = false) :
    Calls Tryd.prog 25 #[.string t] w (QHP t fs ok w) := by
  have HQ : Hid (qGood t fs ok = false) := by
    rw [Hid, qGood]
    cases hf : firstR (lineR t).1 with
    | none => rfl
    | some x =>
      obtain ⟨m, tg⟩ := x
      have := hbad m tg hf
      simp only
      rw [this]
      rfl
  have HBAD : Hid _ := hbad
  have hlz := lineR_size t
  have hc1 := cutR_size (lineR t).1 32
  have hc2 := cutR_size (cutR (lineR t).1 32).2.1 32
  have H1 : Hid (∀ W : World, _) := fun W => qline_any t (by omega) W
  have H2 : Hid (∀ W : World, _) := fun W => qcut_any (lineR t).1 32 (by omega) W
  have H3 : Hid (∀ W : World, _) := fun W => qcut_any (cutR (lineR t).1 32).2.1 32 (by omega) W
  have H4 : Hid (∀ W : World, _) := fun W => qmethod_any (cutR (lineR t).1 32).1 (by omega) W
  have H5 : Hid (∀ W : World, _) := fun W => qtarget_any (cutR (cutR (lineR t).1 32).2.1 32).1 (by omega) W
  have HFE : Hid (firstR (lineR t).1 = _) := first_eq (lineR t).1
  obtain ⟨l, hl⟩ : ∃ x, (lineR t).1 = x := ⟨_, rfl⟩
  obtain ⟨rest, hrest⟩ : ∃ x, (lineR t).2.1 = x := ⟨_, rfl⟩
  obtain ⟨lb, hlb⟩ : ∃ x, (lineR t).2.2 = x := ⟨_, rfl⟩
  rw [hl, hrest, hlb] at H1
  rw [hl] at H2 H3 H4 H5 HFE
  obtain ⟨mt, hmt⟩ : ∃ x, (cutR l 32).1 = x := ⟨_, rfl⟩
  obtain ⟨more, hmore⟩ : ∃ x, (cutR l 32).2.1 = x := ⟨_, rfl⟩
  obtain ⟨b1, hb1⟩ : ∃ x, (cutR l 32).2.2 = x := ⟨_, rfl⟩
  rw [hmt, hmore, hb1] at H2 HFE
  rw [hmore] at H3 H5
  rw [hmt] at H4
  obtain ⟨tg, htg⟩ : ∃ x, (cutR more 32).1 = x := ⟨_, rfl⟩
  obtain ⟨vs, hvs⟩ : ∃ x, (cutR more 32).2.1 = x := ⟨_, rfl⟩
  obtain ⟨b2, hb2⟩ : ∃ x, (cutR more 32).2.2 = x := ⟨_, rfl⟩
  rw [htg, hvs, hb2] at H3 HFE
  rw [htg] at H5
  obtain ⟨bm, hbm⟩ : ∃ x, metR mt = x := ⟨_, rfl⟩
  obtain ⟨bt, hbt⟩ : ∃ x, tarR tg = x := ⟨_, rfl⟩
  have HBM : Hid _ := hbm
  have HBT : Hid _ := hbt
  rw [hbm] at H4
  rw [hbt] at H5
  have hv0 := ver_list (v := vs)
  rw [hl] at HBAD
  clear hl hrest hlb hmt hmore hb1 htg hvs hb2 hbm hbt hlz hc1 hc2 hbad
  obtain ⟨W0, hW0⟩ : ∃ W0, (w.alloc (.cells #[.string ⟨#[]⟩, .string ⟨#[]⟩, .slice none 0 0, .string ⟨#[]⟩, .bool false] 24)).alloc (.cells #[.string ⟨#[]⟩, .string ⟨#[]⟩, .slice none 0 0, .string ⟨#[]⟩, .bool false] 24) = W0 := ⟨_, rfl⟩
  have HZ0 : Hid (W0.heap.size = w.heap.size + 2) := by rw [Hid, ← hW0]; simp
  have HB0 : Hid (Below w.heap.size w W0) := by rw [Hid, ← hW0]; exact ((Below.refl _ _).alloc (Nat.le_refl _) _).alloc (by simp) _
  have HX0 : Hid (RB W0 w.heap.size ⟨#[]⟩ ⟨#[]⟩ (.slice none 0 0) ⟨#[]⟩ false) := by rw [Hid, ← hW0]; exact RB.below (V := w.alloc (.cells #[.string ⟨#[]⟩, .string ⟨#[]⟩, .slice none 0 0, .string ⟨#[]⟩, .bool false] 24)) (block_alloc_at _ _) ((Below.refl _ _).alloc (Nat.le_refl _) _)
  have HY0 : Hid (RB W0 (w.heap.size + 1) ⟨#[]⟩ ⟨#[]⟩ (.slice none 0 0) ⟨#[]⟩ false) := by
    rw [Hid, ← hW0]
    have := block_alloc_at (w.alloc (.cells #[.string ⟨#[]⟩, .string ⟨#[]⟩, .slice none 0 0, .string ⟨#[]⟩, .bool false] 24)) (.cells #[.string ⟨#[]⟩, .string ⟨#[]⟩, .slice none 0 0, .string ⟨#[]⟩, .bool false] 24)
    simpa [RB] using this
  cases b1 with
  | false =>
    go_enter Tryd.func25, Tryd.ntmps25
    go_wp2_with fail
    try rw [hW0]
    refine (H1.out _).mono ?_
    rintro e w1 ⟨rfl, b1'⟩
    go_wp2_with fail
    refine (H2.out _).mono ?_
    rintro e w2 ⟨rfl, b2'⟩
    go_wp2_with fail
    refine (H3.out _).mono ?_
    rintro e w3 ⟨rfl, b3'⟩
    have HW3 : Hid (Below W0.heap.size W0 w3) := (b1'.trans (b2'.mono b1'.size)).trans (b3'.mono (Nat.le_trans b1'.size b2'.size))
    have HX3 : Hid (RB w3 w.heap.size ⟨#[]⟩ ⟨#[]⟩ (.slice none 0 0) ⟨#[]⟩ false) := HX0.out.below HW3.out
    have HY3 : Hid (RB w3 (w.heap.size + 1) ⟨#[]⟩ ⟨#[]⟩ (.slice none 0 0) ⟨#[]⟩ false) := HY0.out.below HW3.out
    have HB3 : Hid (Below w.heap.size w w3) := HB0.out.trans (HW3.out.mono HB0.out.size)
    clear b1' b2' b3'
    obtain ⟨f0, f1, f2, f3, f4⟩ := HX3.out.free
    obtain ⟨k0, k1, k2, k3, k4⟩ := HX3.out.box
    obtain ⟨g0, g1, g2, g3, g4⟩ := HY3.out.free
    obtain ⟨j0, j1, j2, j3, j4⟩ := HY3.out.box
    go_wp2_with fail
    obtain ⟨W9, hW9⟩ : ∃ W9, set5 w3 w.heap.size (.string ⟨#[]⟩) (.string ⟨#[]⟩) (.slice none 0 0) (.string ⟨#[]⟩) (.bool false) = W9 := ⟨_, rfl⟩
    have HB9 : Hid (Below w.heap.size w W9) := by rw [Hid, ← hW9]; exact set5_below HB3.out (Nat.le_refl _) _ _ _ _ _
    have HX9 : RB W9 w.heap.size ⟨#[]⟩ ⟨#[]⟩ (.slice none 0 0) ⟨#[]⟩ false := by rw [← hW9]; exact RB.set5 HX3.out ⟨#[]⟩ ⟨#[]⟩ (.slice none 0 0) ⟨#[]⟩ false
    unfold set5 at hW9
    rw [hW9]
    clear f0 f1 f2 f3 f4 k0 k1 k2 k3 k4
    obtain ⟨k0, k1, k2, k3, k4⟩ := HX9.box
    clear hW9 HX9
    refine bodyPost_ret (v := .tuple #[.agg #[.string ⟨#[]⟩, .string ⟨#[]⟩, (.slice none 0 0), .string ⟨#[]⟩, .bool false], .int .i64 170]) ?_ rfl (QHP.bad HQ.out HB9.out ⟨⟨#[]⟩, ⟨#[]⟩, none, 0, [], ⟨#[]⟩, false⟩)
    rw [results_cell_tmp rfl]
    go_simp
  | true =>
  cases b2 with
  | false =>
    go_enter Tryd.func25, Tryd.ntmps25
    go_wp2_with fail
    try rw [hW0]
    refine (H1.out _).mono ?_
    rintro e w1 ⟨rfl, b1'⟩
    go_wp2_with fail
    refine (H2.out _).mono ?_
    rintro e w2 ⟨rfl, b2'⟩
    go_wp2_with fail
    refine (H3.out _).mono ?_
    rintro e w3 ⟨rfl, b3'⟩
    have HW3 : Hid (Below W0.heap.size W0 w3) := (b1'.trans (b2'.mono b1'.size)).trans (b3'.mono (Nat.le_trans b1'.size b2'.size))
    have HX3 : Hid (RB w3 w.heap.size ⟨#[]⟩ ⟨#[]⟩ (.slice none 0 0) ⟨#[]⟩ false) := HX0.out.below HW3.out
    have HY3 : Hid (RB w3 (w.heap.size + 1) ⟨#[]⟩ ⟨#[]⟩ (.slice none 0 0) ⟨#[]⟩ false) := HY0.out.below HW3.out
    have HB3 : Hid (Below w.heap.size w w3) := HB0.out.trans (HW3.out.mono HB0.out.size)
    clear b1' b2' b3'
    obtain ⟨f0, f1, f2, f3, f4⟩ := HX3.out.free
    obtain ⟨k0, k1, k2, k3, k4⟩ := HX3.out.box
    obtain ⟨g0, g1, g2, g3, g4⟩ := HY3.out.free
    obtain ⟨j0, j1, j2, j3, j4⟩ := HY3.out.box
    go_wp2_with fail
    obtain ⟨W9, hW9⟩ : ∃ W9, set5 w3 w.heap.size (.string ⟨#[]⟩) (.string ⟨#[]⟩) (.slice none 0 0) (.string ⟨#[]⟩) (.bool false) = W9 := ⟨_, rfl⟩
    have HB9 : Hid (Below w.heap.size w W9) := by rw [Hid, ← hW9]; exact set5_below HB3.out (Nat.le_refl _) _ _ _ _ _
    have HX9 : RB W9 w.heap.size ⟨#[]⟩ ⟨#[]⟩ (.slice none 0 0) ⟨#[]⟩ false := by rw [← hW9]; exact RB.set5 HX3.out ⟨#[]⟩ ⟨#[]⟩ (.slice none 0 0) ⟨#[]⟩ false
    unfold set5 at hW9
    rw [hW9]
    clear f0 f1 f2 f3 f4 k0 k1 k2 k3 k4
    obtain ⟨k0, k1, k2, k3, k4⟩ := HX9.box
    clear hW9 HX9
    refine bodyPost_ret (v := .tuple #[.agg #[.string ⟨#[]⟩, .string ⟨#[]⟩, (.slice none 0 0), .string ⟨#[]⟩, .bool false], .int .i64 170]) ?_ rfl (QHP.bad HQ.out HB9.out ⟨⟨#[]⟩, ⟨#[]⟩, none, 0, [], ⟨#[]⟩, false⟩)
    rw [results_cell_tmp rfl]
    go_simp
  | true =>
  cases bm with
  | false =>
    go_enter Tryd.func25, Tryd.ntmps25
    go_wp2_with fail
    try rw [hW0]
    refine (H1.out _).mono ?_
    rintro e w1 ⟨rfl, b1'⟩
    go_wp2_with fail
    refine (H2.out _).mono ?_
    rintro e w2 ⟨rfl, b2'⟩
    go_wp2_with fail
    refine (H3.out _).mono ?_
    rintro e w3 ⟨rfl, b3'⟩
    have HW3 : Hid (Below W0.heap.size W0 w3) := (b1'.trans (b2'.mono b1'.size)).trans (b3'.mono (Nat.le_trans b1'.size b2'.size))
    have HX3 : Hid (RB w3 w.heap.size ⟨#[]⟩ ⟨#[]⟩ (.slice none 0 0) ⟨#[]⟩ false) := HX0.out.below HW3.out
    have HY3 : Hid (RB w3 (w.heap.size + 1) ⟨#[]⟩ ⟨#[]⟩ (.slice none 0 0) ⟨#[]⟩ false) := HY0.out.below HW3.out
    have HB3 : Hid (Below w.heap.size w w3) := HB0.out.trans (HW3.out.mono HB0.out.size)
    clear b1' b2' b3'
    obtain ⟨f0, f1, f2, f3, f4⟩ := HX3.out.free
    obtain ⟨k0, k1, k2, k3, k4⟩ := HX3.out.box
    obtain ⟨g0, g1, g2, g3, g4⟩ := HY3.out.free
    obtain ⟨j0, j1, j2, j3, j4⟩ := HY3.out.box
    go_wp2_with fail
    refine (H4.out _).mono ?_
    rintro e w4 ⟨rfl, hw4⟩
    rw [hw4]
    clear hw4 w4
    go_wp2_with fail
    obtain ⟨W9, hW9⟩ : ∃ W9, set5 w3 w.heap.size (.string ⟨#[]⟩) (.string ⟨#[]⟩) (.slice none 0 0) (.string ⟨#[]⟩) (.bool false) = W9 := ⟨_, rfl⟩
    have HB9 : Hid (Below w.heap.size w W9) := by rw [Hid, ← hW9]; exact set5_below HB3.out (Nat.le_refl _) _ _ _ _ _
    have HX9 : RB W9 w.heap.size ⟨#[]⟩ ⟨#[]⟩ (.slice none 0 0) ⟨#[]⟩ false := by rw [← hW9]; exact RB.set5 HX3.out ⟨#[]⟩ ⟨#[]⟩ (.slice none 0 0) ⟨#[]⟩ false
    unfold set5 at hW9
    rw [hW9]
    clear f0 f1 f2 f3 f4 k0 k1 k2 k3 k4
    obtain ⟨k0, k1, k2, k3, k4⟩ := HX9.box
    clear hW9 HX9
    refine bodyPost_ret (v := .tuple #[.agg #[.string ⟨#[]⟩, .string ⟨#[]⟩, (.slice none 0 0), .string ⟨#[]⟩, .bool false], .int .i64 170]) ?_ rfl (QHP.bad HQ.out HB9.out ⟨⟨#[]⟩, ⟨#[]⟩, none, 0, [], ⟨#[]⟩, false⟩)
    rw [results_cell_tmp rfl]
    go_simp
  | true =>
  cases bt with
  | false =>
    go_enter Tryd.func25, Tryd.ntmps25
    go_wp2_with fail
    try rw [hW0]
    refine (H1.out _).mono ?_
    rintro e w1 ⟨rfl, b1'⟩
    go_wp2_with fail
    refine (H2.out _).mono ?_
    rintro e w2 ⟨rfl, b2'⟩
    go_wp2_with fail
    refine (H3.out _).mono ?_
    rintro e w3 ⟨rfl, b3'⟩
    have HW3 : Hid (Below W0.heap.size W0 w3) := (b1'.trans (b2'.mono b1'.size)).trans (b3'.mono (Nat.le_trans b1'.size b2'.size))
    have HX3 : Hid (RB w3 w.heap.size ⟨#[]⟩ ⟨#[]⟩ (.slice none 0 0) ⟨#[]⟩ false) := HX0.out.below HW3.out
    have HY3 : Hid (RB w3 (w.heap.size + 1) ⟨#[]⟩ ⟨#[]⟩ (.slice none 0 0) ⟨#[]⟩ false) := HY0.out.below HW3.out
    have HB3 : Hid (Below w.heap.size w w3) := HB0.out.trans (HW3.out.mono HB0.out.size)
    clear b1' b2' b3'
    obtain ⟨f0, f1, f2, f3, f4⟩ := HX3.out.free
    obtain ⟨k0, k1, k2, k3, k4⟩ := HX3.out.box
    obtain ⟨g0, g1, g2, g3, g4⟩ := HY3.out.free
    obtain ⟨j0, j1, j2, j3, j4⟩ := HY3.out.box
    go_wp2_with fail
    refine (H4.out _).mono ?_
    rintro e w4 ⟨rfl, hw4⟩
    rw [hw4]
    clear hw4 w4
    go_wp2_with fail
    refine (H5.out _).mono ?_
    rintro e w4 ⟨rfl, hw4⟩
    rw [hw4]
    clear hw4 w4
    go_wp2_with fail
    obtain ⟨W9, hW9⟩ : ∃ W9, set5 w3 w.heap.size (.string ⟨#[]⟩) (.string ⟨#[]⟩) (.slice none 0 0) (.string ⟨#[]⟩) (.bool false) = W9 := ⟨_, rfl⟩
    have HB9 : Hid (Below w.heap.size w W9) := by rw [Hid, ← hW9]; exact set5_below HB3.out (Nat.le_refl _) _ _ _ _ _
    have HX9 : RB W9 w.heap.size ⟨#[]⟩ ⟨#[]⟩ (.slice none 0 0) ⟨#[]⟩ false := by rw [← hW9]; exact RB.set5 HX3.out ⟨#[]⟩ ⟨#[]⟩ (.slice none 0 0) ⟨#[]⟩ false
    unfold set5 at hW9
    rw [hW9]
    clear f0 f1 f2 f3 f4 k0 k1 k2 k3 k4
    obtain ⟨k0, k1, k2, k3, k4⟩ := HX9.box
    clear hW9 HX9
    refine bodyPost_ret (v := .tuple #[.agg #[.string ⟨#[]⟩, .string ⟨#[]⟩, (.slice none 0 0), .string ⟨#[]⟩, .bool false], .int .i64 170]) ?_ rfl (QHP.bad HQ.out HB9.out ⟨⟨#[]⟩, ⟨#[]⟩, none, 0, [], ⟨#[]⟩, false⟩)
    rw [results_cell_tmp rfl]
    go_simp
  | true =>
    have hvv : (vs.toList == [72, 84, 84, 80, 47, 49, 46, 49]) = false := by
      rw [hv0, decide_eq_false_iff_not]
      intro e
      have h1 := HFE.out
      rw [if_pos ⟨by first | rfl | trivial, by first | rfl | trivial, e⟩] at h1
      have h2 := HBAD.out mt tg h1
      rw [HBM.out, HBT.out] at h2
      cases h2
    clear hv0
    go_enter Tryd.func25, Tryd.ntmps25
    go_wp2_with fail
    try rw [hW0]
    refine (H1.out _).mono ?_
    rintro e w1 ⟨rfl, b1'⟩
    go_wp2_with fail
    refine (H2.out _).mono ?_
    rintro e w2 ⟨rfl, b2'⟩
    go_wp2_with fail
    refine (H3.out _).mono ?_
    rintro e w3 ⟨rfl, b3'⟩
    have HW3 : Hid (Below W0.heap.size W0 w3) := (b1'.trans (b2'.mono b1'.size)).trans (b3'.mono (Nat.le_trans b1'.size b2'.size))
    have HX3 : Hid (RB w3 w.heap.size ⟨#[]⟩ ⟨#[]⟩ (.slice none 0 0) ⟨#[]⟩ false) := HX0.out.below HW3.out
    have HY3 : Hid (RB w3 (w.heap.size + 1) ⟨#[]⟩ ⟨#[]⟩ (.slice none 0 0) ⟨#[]⟩ false) := HY0.out.below HW3.out
    have HB3 : Hid (Below w.heap.size w w3) := HB0.out.trans (HW3.out.mono HB0.out.size)
    clear b1' b2' b3'
    obtain ⟨f0, f1, f2, f3, f4⟩ := HX3.out.free
    obtain ⟨k0, k1, k2, k3, k4⟩ := HX3.out.box
    obtain ⟨g0, g1, g2, g3, g4⟩ := HY3.out.free
    obtain ⟨j0, j1, j2, j3, j4⟩ := HY3.out.box
    go_wp2_with fail
    refine (H4.out _).mono ?_
    rintro e w4 ⟨rfl, hw4⟩
    rw [hw4]
    clear hw4 w4
    go_wp2_with fail
    refine (H5.out _).mono ?_
    rintro e w4 ⟨rfl, hw4⟩
    rw [hw4]
    clear hw4 w4
    go_wp2_with fail
    obtain ⟨W9, hW9⟩ : ∃ W9, set5 w3 w.heap.size (.string ⟨#[]⟩) (.string ⟨#[]⟩) (.slice none 0 0) (.string ⟨#[]⟩) (.bool false) = W9 := ⟨_, rfl⟩
    have HB9 : Hid (Below w.heap.size w W9) := by rw [Hid, ← hW9]; exact set5_below HB3.out (Nat.le_refl _) _ _ _ _ _
    have HX9 : RB W9 w.heap.size ⟨#[]⟩ ⟨#[]⟩ (.slice none 0 0) ⟨#[]⟩ false := by rw [← hW9]; exact RB.set5 HX3.out ⟨#[]⟩ ⟨#[]⟩ (.slice none 0 0) ⟨#[]⟩ false
    unfold set5 at hW9
    rw [hW9]
    clear f0 f1 f2 f3 f4 k0 k1 k2 k3 k4
    obtain ⟨k0, k1, k2, k3, k4⟩ := HX9.box
    clear hW9 HX9
    refine bodyPost_ret (v := .tuple #[.agg #[.string ⟨#[]⟩, .string ⟨#[]⟩, (.slice none 0 0), .string ⟨#[]⟩, .bool false], .int .i64 170]) ?_ rfl (QHP.bad HQ.out HB9.out ⟨⟨#[]⟩, ⟨#[]⟩, none, 0, [], ⟨#[]⟩, false⟩)
    rw [results_cell_tmp rfl]
    go_simp
end Go.Proofs.YthhhoppmbimeiaaDoor
