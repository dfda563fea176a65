/-
  The contract of the twin's ParseSet.
-/
import Derived.Test.YtimabpfahhbadaaDoorBhd
import Derived.Test.YtimabpfahhbadaaDoorPst
import Derived.Test.YtimabpfahhbadaaDoorQst
import Derived.Test.YtimabpfahhbadaaDoorRDigits
namespace Go.Proofs.YtimabpfahhbadaaDoor
open Go.RowKit
theorem q5_z {N : Nat} {c : Ck} {t : ByteArray} (h : ckZ N c) (ht : t.size ≤ N) : ckZ N (qstep c t) := by
  have h1 : ckZ N (q1 c t) := by unfold q1; split; exact ⟨h.1, h.2.1, Nat.le_trans (cutW_size _ _) ht, h.2.2.2⟩; exact h
  have h2 : ckZ N (q2 (q1 c t) t) := by unfold q2; split; exact ⟨h1.1, h1.2.1, h1.2.2.1, h1.2.2.2⟩; exact h1
  have h3 : ckZ N (q3 (q2 (q1 c t) t) t) := by unfold q3; split; exact ⟨h2.1, h2.2.1, h2.2.2.1, Nat.le_trans (cutW_size _ _) ht⟩; exact h2
  exact ⟨h3.1, h3.2.1, h3.2.2.1, h3.2.2.2⟩
theorem fold_z {N : Nat} : ∀ (r : List ByteArray) (c : Ck), ckZ N c → (∀ t ∈ r, t.size ≤ N) → ckZ N (r.foldl qstep c)
  | [], _, h, _ => h
  | t :: r, c, h, hr => fold_z r (qstep c t) (q5_z h (hr t (List.mem_cons_self ..))) (fun x hx => hr x (List.mem_cons_of_mem _ hx))
theorem behind_yes {t d : ByteArray} (hd : d.size ≤ 140737488355328) (h : preW t d = true) (w : World) : Calls Tryd.prog 38 #[.string t, .string d] w fun e w' => e = .returned (.tuple #[.string (cutW t d), .bool true]) ∧ w' = w := by
  have := behind_any t d hd w
  unfold behR at this
  rw [h, if_pos rfl] at this
  exact this
theorem behind_no {t d : ByteArray} (hd : d.size ≤ 140737488355328) (h : preW t d = false) (w : World) : Calls Tryd.prog 38 #[.string t, .string d] w fun e w' => e = .returned (.tuple #[.string ⟨#[]⟩, .bool false]) ∧ w' = w := by
  have := behind_any t d hd w
  unfold behR at this
  rw [h, if_neg (by decide)] at this
  exact this
theorem pre_split {t d : ByteArray} (h : preW t d = true) : t = d ++ cutW t d := by
  unfold preW Lib.hasPrefix at h
  obtain ⟨r, hr⟩ := List.isPrefixOf_iff_prefix.1 h
  apply ext_list
  rw [app_list]
  unfold cutW
  rw [← hr]
  simp
structure KindT (t : ByteArray) (a b c d e : Bool) : Prop where
  p1 : preW t wPath = a
  p2 : preW t wAge = b
  p3 : preW t wSame = c
  p4 : (t.toList == [72, 116, 116, 112, 79, 110, 108, 121]) = d
  p5 : (t.toList == [83, 101, 99, 117, 114, 101]) = e
theorem qstep_eq {t : ByteArray} {a b c d e : Bool} (k : KindT t a b c d e) (nm vl pa : ByteArray) (ag : Int) (hs hh sc : Bool) (sm : ByteArray) : qstep ⟨nm, vl, pa, ag, hs, hh, sc, sm⟩ t = ⟨nm, vl, cond a (cutW t wPath) pa, cond b (digR (cutW t wAge) 2147483647).1 ag, cond b true hs, hh || d, sc || e, cond c (cutW t wSame) sm⟩ := by
  unfold qstep q5 q4
  rw [k.p4, k.p5]
  unfold q3 q2 q1
  rw [k.p1, k.p2, k.p3]
  cases a <;> cases b <;> cases c <;> rfl
theorem kinds (t : ByteArray) : KindT t true false false false false ∨ KindT t false true false false false ∨ KindT t false false true false false ∨ KindT t false false false true false ∨ KindT t false false false false true ∨ KindT t false false false false false := by
  have f : ∀ (a x b : ByteArray), Lib.hasPrefix (a.data.toList ++ x.data.toList) b.data.toList = false → preW (a ++ x) b = false := fun a x b h => pre_app a x b h
  cases h1 : preW t wPath with
  | true =>
    obtain ⟨x, hx⟩ : ∃ x, t = wPath ++ x := ⟨_, pre_split h1⟩
    subst hx
    exact Or.inl ⟨h1, f _ _ _ rfl, f _ _ _ rfl, by rw [toList_app]; rfl, by rw [toList_app]; rfl⟩
  | false =>
  cases h2 : preW t wAge with
  | true =>
    obtain ⟨x, hx⟩ : ∃ x, t = wAge ++ x := ⟨_, pre_split h2⟩
    subst hx
    exact Or.inr (Or.inl ⟨h1, h2, f _ _ _ rfl, by rw [toList_app]; rfl, by rw [toList_app]; rfl⟩)
  | false =>
  cases h3 : preW t wSame with
  | true =>
    obtain ⟨x, hx⟩ : ∃ x, t = wSame ++ x := ⟨_, pre_split h3⟩
    subst hx
    exact Or.inr (Or.inr (Or.inl ⟨h1, h2, h3, by rw [toList_app]; rfl, by rw [toList_app]; rfl⟩))
  | false =>
  cases h4 : (t.toList == [72, 116, 116, 112, 79, 110, 108, 121]) with
  | true =>
    refine Or.inr (Or.inr (Or.inr (Or.inl ⟨h1, h2, h3, h4, ?_⟩)))
    rw [beq_iff_eq] at h4
    rw [h4]
    decide
  | false =>
  cases h5 : (t.toList == [83, 101, 99, 117, 114, 101]) with
  | true => exact Or.inr (Or.inr (Or.inr (Or.inr (Or.inl ⟨h1, h2, h3, h4, h5⟩))))
  | false => exact Or.inr (Or.inr (Or.inr (Or.inr (Or.inr ⟨h1, h2, h3, h4, h5⟩))))
/-- What was written in the box alone. -/
structure OnlyG (g : Nat) (w w' : World) : Prop where
  size : w'.heap.size = w.heap.size
  other : ∀ j, j ≠ g → w'.heap[j]? = w.heap[j]?
  below : ∀ B a, B ≤ g → Below B a w → Below B a w'
theorem OnlyG.refl (g : Nat) (w : World) : OnlyG g w w := ⟨rfl, fun _ _ => rfl, fun _ _ _ h => h⟩
theorem OnlyG.set (g i : Nat) (w : World) (v : Value) : OnlyG g w (w.setCell ⟨g, i, none⟩ v) := ⟨by simp [World.setCell], fun j hj => Below.heap_setCell _ _ _ _ hj, fun B a hB h => h.setCell (p := ⟨g, i, none⟩) hB _⟩
theorem OnlyG.trans {g : Nat} {a b c : World} (h : OnlyG g a b) (k : OnlyG g b c) : OnlyG g a c := ⟨k.size.trans h.size, fun j hj => (k.other j hj).trans (h.other j hj), fun B x hB hb => k.below B x hB (h.below B x hB hb)⟩
set_option maxRecDepth 20000 in
set_option maxHeartbeats 32000000 in
theorem qparseSet_any (v : ByteArray) (hs : v.size ≤ 1000000000) (w : World) :
    Calls Tryd.prog 19 #[.string v] w fun e w' => e = .returned (.tuple #[ckV (psR v).1, .int .i64 (psR v).2]) ∧ Below w.heap.size w w' := by
  have hpz : ∀ t ∈ parts v, t.size ≤ 1000000000 := split_sizes smb _ v _ hs
  have hlen : (parts v).length ≤ 1000000001 := by
    have h1 := parts_len (sep := smb) (by decide) v
    have h2 := Lib.countB_le smb (by decide) v.size v (Nat.le_refl _)
    rw [show partsOf smb v = parts v from rfl] at h1
    omega
  have H1 : Hid (∀ W : World, _) := fun W => qsplit_any v hs W
  obtain ⟨t0, r0, hp⟩ := parts_ne v
  have HNO : Hid (okS t0 = false → psR v = (ckN, 190)) := fun h => qps_none hp h
  have HG : Hid (setR (qrR t0 r0) = (v, 0) → psR v = (qrR t0 r0, 0)) := fun h => qps_good h
  have HF : Hid (¬ setR (qrR t0 r0) = (v, 0) → psR v = (ckN, 190)) := fun h => qps_bad hp h
  rw [hp] at H1 hpz hlen
  have hrz := rdP_size t0
  have h0z := hpz t0 (List.mem_cons_self ..)
  have HQZ : ckZ 1000000000 (qrR t0 r0) := fold_z r0 _ (ck0_z (by omega) (by omega)) (fun x hx => hpz x (List.mem_cons_of_mem _ hx))
  have H2 : Hid (∀ W : World, _) := fun W => qpair_any t0 (by omega) W
  have H3 : Hid (∀ W : World, _) := fun W => qset_any (qrR t0 r0) HQZ W
  have hcut := setR_cut (qrR t0 r0)
  obtain ⟨R, hR⟩ : ∃ R, setR (qrR t0 r0) = R := ⟨_, rfl⟩
  rw [hR] at H3 HG HF hcut
  obtain ⟨T, hT⟩ : ∃ T, psR v = T := ⟨_, rfl⟩
  rw [hT] at HG HF HNO ⊢
  have hok := pairR_ok t0
  have HRD : Hid (okS t0 = true → (pairR t0).1 = (rdP t0).name ∧ (pairR t0).2.1 = (rdP t0).val) := pairR_rd
  obtain ⟨fp, hfp⟩ : ∃ fp, pairR t0 = fp := ⟨_, rfl⟩
  rw [hfp] at H2 hok HRD
  obtain ⟨pn, pv, po⟩ := fp
  simp only at H2 hok HRD
  rw [← hok] at HRD HNO
  have HQR : Hid (po = true → qrR t0 r0 = r0.foldl qstep (ck0 pn pv)) := fun h => by
    obtain ⟨e1, e2⟩ := HRD.out h
    rw [qrR, e1, e2]
  have HPZ : Hid _ := hpz
  clear hR hT hfp hok hrz h0z HQZ HRD
  obtain ⟨Q, hQ⟩ : ∃ Q, qrR t0 r0 = Q := ⟨_, rfl⟩
  rw [hQ] at H3 HG HQR
  clear hQ hp hpz
  rw [List.length_cons] at H1 hlen
  obtain ⟨n, hn⟩ : ∃ n, r0.length = n := ⟨_, rfl⟩
  rw [hn] at H1 hlen
  have HNL : Hid _ := hn
  clear hn
  obtain ⟨W0, hW0⟩ : ∃ W0, w.alloc (.cells (ckA ckN) 37) = W0 := ⟨_, rfl⟩
  have HB0 : Hid (Below w.heap.size w W0) := by rw [Hid, ← hW0]; exact (Below.refl _ _).alloc (Nat.le_refl _) _
  have HX0 : Hid (CkB W0 w.heap.size ckN) := by rw [Hid, ← hW0]; exact block_alloc_at _ _
  unfold ckA ckN ck0 at hW0
  simp only at hW0
  simp only [ckV] at H3
  go_enter Tryd.func19, Tryd.ntmps19
  go_wp2_with fail
  try rw [hW0]
  refine (H1.out _).mono ?_
  rintro e w1 ⟨pa, pc, rfl, hpo, b1⟩
  have HTX : Hid (TextsAt w1 pa (t0 :: r0)) := row_texts hpo
  have HB1 : Hid (Below w.heap.size w w1) := HB0.out.trans (b1.mono HB0.out.size)
  have HX1 : Hid (CkB w1 w.heap.size ckN) := HX0.out.below b1
  clear hpo b1 H1 hW0
  obtain ⟨b, off, rfl, hbl, x0⟩ := HTX.out 0 t0 rfl
  rw [Nat.add_zero] at x0
  have HBL : Hid (b < w1.heap.size) := hbl
  clear hbl
  have hlz : (0 : Int) < (n : Int) + 1 := by omega
  go_wp2_with fail
  refine (H2.out _).mono ?_
  rintro e w2 ⟨rfl, b2⟩
  have HB2 : Hid (Below w.heap.size w w2) := HB1.out.trans (b2.mono HB1.out.size)
  have HX2 : Hid (CkB w2 w.heap.size ckN) := HX1.out.below b2
  have HT2 : Hid (TextsAt w2 (some ⟨b, off, none⟩) (t0 :: r0)) := TextsAt.below HTX.out b2
  have HBL2 : Hid (b < w2.heap.size) := Nat.lt_of_lt_of_le HBL.out b2.size
  clear b2 H2 x0
  cases po with
  | false =>
    have HRR : Hid (T = (ckN, 190)) := HNO.out rfl
    clear HG HF HNO HQR H3 hcut
    obtain ⟨k0, k1, k2, k3, k4, k5, k6, k7⟩ := ck_cells HX2.out
    have f0 := CkB.free HX2.out 0
    have f1 := CkB.free HX2.out 1
    have f2 := CkB.free HX2.out 2
    have f3 := CkB.free HX2.out 3
    have f4 := CkB.free HX2.out 4
    have f5 := CkB.free HX2.out 5
    have f6 := CkB.free HX2.out 6
    have f7 := CkB.free HX2.out 7
    simp only [ckN, ck0] at k0 k1 k2 k3 k4 k5 k6 k7
    obtain ⟨W9, hW9⟩ : ∃ W9, set8 w2 w.heap.size ckN = W9 := ⟨_, rfl⟩
    have HX9 : CkB W9 w.heap.size ckN := by rw [← hW9]; exact set8_box HX2.out ckN
    have HB9 : Hid (Below w.heap.size w W9) := by rw [Hid, ← hW9]; exact set8_below HB2.out (Nat.le_refl _) ckN
    obtain ⟨x0, x1, x2, x3, x4, x5, x6, x7⟩ := ck_cells HX9
    unfold set8 at hW9
    simp only [ckN, ck0] at hW9 x0 x1 x2 x3 x4 x5 x6 x7
    have HW9 : Hid _ := hW9
    clear HX9 hW9
    go_wp2_with fail
    rw [HW9.out]
    refine bodyPost_ret (v := .tuple #[.agg #[.string ⟨#[]⟩, .string ⟨#[]⟩, .string ⟨#[]⟩, .int .i64 0, .bool false, .bool false, .bool false, .string ⟨#[]⟩], .int .i64 190]) ?_ rfl ⟨by rw [HRR.out]; rfl, HB9.out⟩
    rw [results_cell_tmp rfl]
    go_simp
    try rfl
  | true =>
    have hqr := HQR.out rfl
    clear HNO HQR
    obtain ⟨W3, hW3⟩ : ∃ W3, w2.alloc (.cells (ckA (ck0 pn pv)) 37) = W3 := ⟨_, rfl⟩
    have HB3 : Hid (Below w.heap.size w W3) := by rw [Hid, ← hW3]; exact HB2.out.alloc HB2.out.size _
    have HX3 : Hid (CkB W3 w.heap.size ckN) := by rw [Hid, ← hW3]; exact HX2.out.alloc _
    have HC3 : Hid (CkB W3 w2.heap.size (ck0 pn pv)) := by rw [Hid, ← hW3]; exact block_alloc_at _ _
    have HT3 : Hid (TextsAt W3 (some ⟨b, off, none⟩) (t0 :: r0)) := by rw [Hid, ← hW3]; exact TextsAt.below HT2.out ((Below.refl _ _).alloc (Nat.le_refl _) _)
    unfold ckA ck0 at hW3
    simp only at hW3
    have HW3 : Hid _ := hW3
    have HQR : Hid _ := hqr
    clear hW3 hqr
    obtain ⟨g8, hg8⟩ : ∃ g8, w2.heap.size = g8 := ⟨_, rfl⟩
    have HG8 : Hid (g8 ≠ b ∧ g8 ≠ w.heap.size ∧ w.heap.size ≤ g8) := by
      have h1 := HBL2.out
      have h2 := HX2.out.lt
      have h3 := HB2.out.size
      refine ⟨?_, ?_, ?_⟩ <;> omega
    rw [hg8] at HC3
    go_wp2_with fail
    rw [HW3.out]
    try rw [hg8]
    clear HW3 hg8
    go_loopw [9] (fun i wr => ∃ (k : Nat) (c : Ck), k ≤ n ∧ i = .int .i64 ((k : Int) + 1) ∧ Hid (Q = (r0.drop k).foldl qstep c) ∧ Hid (CkB wr g8 c) ∧ Hid (CkB wr w.heap.size ckN) ∧ Hid (TextsAt wr (some ⟨b, off, none⟩) (t0 :: r0)) ∧ Hid (Below w.heap.size w wr)) (fun i _ => n + 1 - (intOf i).toNat)
    case atStart => exact ⟨0, ck0 pn pv, by omega, rfl, by rw [Hid, List.drop_zero]; exact HQR.out, HC3.out, HX3.out, HT3.out, HB3.out⟩
    case round =>
      obtain ⟨k, c, hkn, rfl, HE, HC, HX, HTT, HB⟩ := hrel
      by_cases hlt : k < n
      · have hkz : (k : Int) + 1 < (n : Int) + 1 := by omega
        obtain ⟨t, ht⟩ : ∃ t, r0[k]? = some t := ⟨r0[k]'(by rw [HNL.out]; exact hlt), List.getElem?_eq_getElem _⟩
        have htz := HPZ.out t (List.mem_cons_of_mem _ (List.mem_of_getElem? ht))
        have HEE : Hid (Q = (r0.drop (k + 1)).foldl qstep (qstep c t)) := by rw [Hid, HE.out, drop_of ht, List.foldl_cons]
        have HTC : Hid (∀ W : World, W.heap[b]? = wr.heap[b]? → W.cell? ⟨b, off + (k + 1), none⟩ = some (.string t)) := fun W hW => by
          obtain ⟨b', off', e, _, hc⟩ := HTT.out (k + 1) t (by rw [List.getElem?_cons_succ]; exact ht)
          cases e
          exact (World.cell?_of_block hW).trans hc
        have r0c := HTC.out wr rfl
        have HTA : Hid (∀ W : World, OnlyG g8 wr W → TextsAt W (some ⟨b, off, none⟩) (t0 :: r0)) := fun W hW j z hj => by
          obtain ⟨b', off', e, hb', hc⟩ := HTT.out j z hj
          cases e
          exact ⟨b, off, rfl, by rw [hW.size]; exact hb', (World.cell?_of_block (hW.other b (Ne.symm HG8.out.1))).trans hc⟩
        obtain ⟨nm, vl, pa, ag, hs, hh, sc, sm⟩ := c
        clear HE HTT ht
        rcases kinds t with kp | kp | kp | kp | kp | kp
        · cases hh with
          | false =>
            cases sc with
            | false =>
              have hb0 : wr.heap[g8]? = some (.cells #[.string nm, .string vl, .string pa, .int .i64 ag, .bool hs, .bool false, .bool false, .string sm] 37 (0, 0)) := HC.out
              have cwr2 : wr.cell? ⟨g8, 2, none⟩ = some (.string pa) := cell_of_block hb0 rfl
              have fwr2 : wr.frozen? ⟨g8, 2, none⟩ = false := free_of_block hb0 _
              have cwr5 : wr.cell? ⟨g8, 5, none⟩ = some (.bool false) := cell_of_block hb0 rfl
              have fwr5 : wr.frozen? ⟨g8, 5, none⟩ = false := free_of_block hb0 _
              have cwr6 : wr.cell? ⟨g8, 6, none⟩ = some (.bool false) := cell_of_block hb0 rfl
              have fwr6 : wr.frozen? ⟨g8, 6, none⟩ = false := free_of_block hb0 _
              obtain ⟨V1, hV1⟩ : ∃ V1, wr.setCell ⟨g8, 2, none⟩ (.string (cutW t wPath)) = V1 := ⟨_, rfl⟩
              have hb1 : V1.heap[g8]? = some (.cells #[.string nm, .string vl, .string (cutW t wPath), .int .i64 ag, .bool hs, .bool false, .bool false, .string sm] 37 (0, 0)) := by rw [← hV1]; have q := set_block hb0 2 (.string (cutW t wPath)); simpa using q
              have HO1 : Hid (OnlyG g8 wr V1) := by rw [Hid, ← hV1]; exact OnlyG.set g8 2 wr _
              have tV1 := HTC.out V1 (HO1.out.other b (Ne.symm HG8.out.1))
              have cV15 : V1.cell? ⟨g8, 5, none⟩ = some (.bool false) := cell_of_block hb1 rfl
              have fV15 : V1.frozen? ⟨g8, 5, none⟩ = false := free_of_block hb1 _
              have cV16 : V1.cell? ⟨g8, 6, none⟩ = some (.bool false) := cell_of_block hb1 rfl
              have fV16 : V1.frozen? ⟨g8, 6, none⟩ = false := free_of_block hb1 _
              obtain ⟨V2, hV2⟩ : ∃ V2, V1.setCell ⟨g8, 5, none⟩ (.bool false) = V2 := ⟨_, rfl⟩
              have hb2 : V2.heap[g8]? = some (.cells #[.string nm, .string vl, .string (cutW t wPath), .int .i64 ag, .bool hs, .bool false, .bool false, .string sm] 37 (0, 0)) := by rw [← hV2]; have q := set_block hb1 5 (.bool false); simpa using q
              have HO2 : Hid (OnlyG g8 wr V2) := by rw [Hid, ← hV2]; exact (HO1.out).trans (OnlyG.set g8 5 V1 _)
              have tV2 := HTC.out V2 (HO2.out.other b (Ne.symm HG8.out.1))
              have cV26 : V2.cell? ⟨g8, 6, none⟩ = some (.bool false) := cell_of_block hb2 rfl
              have fV26 : V2.frozen? ⟨g8, 6, none⟩ = false := free_of_block hb2 _
              have cV25 : V2.cell? ⟨g8, 5, none⟩ = some (.bool false) := cell_of_block hb2 rfl
              have fV25 : V2.frozen? ⟨g8, 5, none⟩ = false := free_of_block hb2 _
              obtain ⟨V3, hV3⟩ : ∃ V3, V2.setCell ⟨g8, 6, none⟩ (.bool false) = V3 := ⟨_, rfl⟩
              have hb3 : V3.heap[g8]? = some (.cells #[.string nm, .string vl, .string (cutW t wPath), .int .i64 ag, .bool hs, .bool false, .bool false, .string sm] 37 (0, 0)) := by rw [← hV3]; have q := set_block hb2 6 (.bool false); simpa using q
              have HO3 : Hid (OnlyG g8 wr V3) := by rw [Hid, ← hV3]; exact (HO2.out).trans (OnlyG.set g8 6 V2 _)
              have tV3 := HTC.out V3 (HO3.out.other b (Ne.symm HG8.out.1))
              have HCF : Hid (CkB V3 g8 (qstep ⟨nm, vl, pa, ag, hs, false, false, sm⟩ t)) := by
                rw [Hid, CkB, hb3, qstep_eq kp]
                rfl
              have k4 := kp.p4
              have k5 := kp.p5
              have H4 : Hid (∀ W : World, _) := fun W => behind_yes (t := t) (d := wPath) (by decide) kp.p1 W
              have H5 : Hid (∀ W : World, _) := fun W => behind_no (t := t) (d := wAge) (by decide) kp.p2 W
              have H6 : Hid (∀ W : World, _) := fun W => behind_no (t := t) (d := wSame) (by decide) kp.p3 W
              clear hb0 hb1 hb2 hb3 kp HC
              obtain ⟨x1, hx1⟩ : ∃ x1, cutW t wPath = x1 := ⟨_, rfl⟩
              rw [hx1] at H4 hV1
              clear hx1
              simp only [wPath] at H4
              simp only [wAge] at H5
              simp only [wSame] at H6
              go_wp2_with (first | (go_at_call 38; with_reducible refine (H4.out _).mono ?_; rintro e w' ⟨rfl, rfl⟩) | (go_at_call 38; with_reducible refine (H5.out _).mono ?_; rintro e w' ⟨rfl, rfl⟩) | (go_at_call 38; with_reducible refine (H6.out _).mono ?_; rintro e w' ⟨rfl, rfl⟩))
              go_roundw
              case rel => exact ⟨k + 1, _, by omega, by go_num, HEE.out, HCF.out, (HO3.out.other _ (Ne.symm HG8.out.2.1)).trans HX.out, HTA.out _ HO3.out, HO3.out.below _ _ HG8.out.2.2 HB.out⟩
              case measure => simp [intOf]; omega
            | true =>
              have hb0 : wr.heap[g8]? = some (.cells #[.string nm, .string vl, .string pa, .int .i64 ag, .bool hs, .bool false, .bool true, .string sm] 37 (0, 0)) := HC.out
              have cwr2 : wr.cell? ⟨g8, 2, none⟩ = some (.string pa) := cell_of_block hb0 rfl
              have fwr2 : wr.frozen? ⟨g8, 2, none⟩ = false := free_of_block hb0 _
              have cwr5 : wr.cell? ⟨g8, 5, none⟩ = some (.bool false) := cell_of_block hb0 rfl
              have fwr5 : wr.frozen? ⟨g8, 5, none⟩ = false := free_of_block hb0 _
              have cwr6 : wr.cell? ⟨g8, 6, none⟩ = some (.bool true) := cell_of_block hb0 rfl
              have fwr6 : wr.frozen? ⟨g8, 6, none⟩ = false := free_of_block hb0 _
              obtain ⟨V1, hV1⟩ : ∃ V1, wr.setCell ⟨g8, 2, none⟩ (.string (cutW t wPath)) = V1 := ⟨_, rfl⟩
              have hb1 : V1.heap[g8]? = some (.cells #[.string nm, .string vl, .string (cutW t wPath), .int .i64 ag, .bool hs, .bool false, .bool true, .string sm] 37 (0, 0)) := by rw [← hV1]; have q := set_block hb0 2 (.string (cutW t wPath)); simpa using q
              have HO1 : Hid (OnlyG g8 wr V1) := by rw [Hid, ← hV1]; exact OnlyG.set g8 2 wr _
              have tV1 := HTC.out V1 (HO1.out.other b (Ne.symm HG8.out.1))
              have cV15 : V1.cell? ⟨g8, 5, none⟩ = some (.bool false) := cell_of_block hb1 rfl
              have fV15 : V1.frozen? ⟨g8, 5, none⟩ = false := free_of_block hb1 _
              have cV16 : V1.cell? ⟨g8, 6, none⟩ = some (.bool true) := cell_of_block hb1 rfl
              have fV16 : V1.frozen? ⟨g8, 6, none⟩ = false := free_of_block hb1 _
              obtain ⟨V2, hV2⟩ : ∃ V2, V1.setCell ⟨g8, 5, none⟩ (.bool false) = V2 := ⟨_, rfl⟩
              have hb2 : V2.heap[g8]? = some (.cells #[.string nm, .string vl, .string (cutW t wPath), .int .i64 ag, .bool hs, .bool false, .bool true, .string sm] 37 (0, 0)) := by rw [← hV2]; have q := set_block hb1 5 (.bool false); simpa using q
              have HO2 : Hid (OnlyG g8 wr V2) := by rw [Hid, ← hV2]; exact (HO1.out).trans (OnlyG.set g8 5 V1 _)
              have tV2 := HTC.out V2 (HO2.out.other b (Ne.symm HG8.out.1))
              have cV26 : V2.cell? ⟨g8, 6, none⟩ = some (.bool true) := cell_of_block hb2 rfl
              have fV26 : V2.frozen? ⟨g8, 6, none⟩ = false := free_of_block hb2 _
              have cV25 : V2.cell? ⟨g8, 5, none⟩ = some (.bool false) := cell_of_block hb2 rfl
              have fV25 : V2.frozen? ⟨g8, 5, none⟩ = false := free_of_block hb2 _
              obtain ⟨V3, hV3⟩ : ∃ V3, V2.setCell ⟨g8, 6, none⟩ (.bool true) = V3 := ⟨_, rfl⟩
              have hb3 : V3.heap[g8]? = some (.cells #[.string nm, .string vl, .string (cutW t wPath), .int .i64 ag, .bool hs, .bool false, .bool true, .string sm] 37 (0, 0)) := by rw [← hV3]; have q := set_block hb2 6 (.bool true); simpa using q
              have HO3 : Hid (OnlyG g8 wr V3) := by rw [Hid, ← hV3]; exact (HO2.out).trans (OnlyG.set g8 6 V2 _)
              have tV3 := HTC.out V3 (HO3.out.other b (Ne.symm HG8.out.1))
              have HCF : Hid (CkB V3 g8 (qstep ⟨nm, vl, pa, ag, hs, false, true, sm⟩ t)) := by
                rw [Hid, CkB, hb3, qstep_eq kp]
                rfl
              have k4 := kp.p4
              have k5 := kp.p5
              have H4 : Hid (∀ W : World, _) := fun W => behind_yes (t := t) (d := wPath) (by decide) kp.p1 W
              have H5 : Hid (∀ W : World, _) := fun W => behind_no (t := t) (d := wAge) (by decide) kp.p2 W
              have H6 : Hid (∀ W : World, _) := fun W => behind_no (t := t) (d := wSame) (by decide) kp.p3 W
              clear hb0 hb1 hb2 hb3 kp HC
              obtain ⟨x1, hx1⟩ : ∃ x1, cutW t wPath = x1 := ⟨_, rfl⟩
              rw [hx1] at H4 hV1
              clear hx1
              simp only [wPath] at H4
              simp only [wAge] at H5
              simp only [wSame] at H6
              go_wp2_with (first | (go_at_call 38; with_reducible refine (H4.out _).mono ?_; rintro e w' ⟨rfl, rfl⟩) | (go_at_call 38; with_reducible refine (H5.out _).mono ?_; rintro e w' ⟨rfl, rfl⟩) | (go_at_call 38; with_reducible refine (H6.out _).mono ?_; rintro e w' ⟨rfl, rfl⟩))
              go_roundw
              case rel => exact ⟨k + 1, _, by omega, by go_num, HEE.out, HCF.out, (HO3.out.other _ (Ne.symm HG8.out.2.1)).trans HX.out, HTA.out _ HO3.out, HO3.out.below _ _ HG8.out.2.2 HB.out⟩
              case measure => simp [intOf]; omega
          | true =>
            cases sc with
            | false =>
              have hb0 : wr.heap[g8]? = some (.cells #[.string nm, .string vl, .string pa, .int .i64 ag, .bool hs, .bool true, .bool false, .string sm] 37 (0, 0)) := HC.out
              have cwr2 : wr.cell? ⟨g8, 2, none⟩ = some (.string pa) := cell_of_block hb0 rfl
              have fwr2 : wr.frozen? ⟨g8, 2, none⟩ = false := free_of_block hb0 _
              have cwr5 : wr.cell? ⟨g8, 5, none⟩ = some (.bool true) := cell_of_block hb0 rfl
              have fwr5 : wr.frozen? ⟨g8, 5, none⟩ = false := free_of_block hb0 _
              have cwr6 : wr.cell? ⟨g8, 6, none⟩ = some (.bool false) := cell_of_block hb0 rfl
              have fwr6 : wr.frozen? ⟨g8, 6, none⟩ = false := free_of_block hb0 _
              obtain ⟨V1, hV1⟩ : ∃ V1, wr.setCell ⟨g8, 2, none⟩ (.string (cutW t wPath)) = V1 := ⟨_, rfl⟩
              have hb1 : V1.heap[g8]? = some (.cells #[.string nm, .string vl, .string (cutW t wPath), .int .i64 ag, .bool hs, .bool true, .bool false, .string sm] 37 (0, 0)) := by rw [← hV1]; have q := set_block hb0 2 (.string (cutW t wPath)); simpa using q
              have HO1 : Hid (OnlyG g8 wr V1) := by rw [Hid, ← hV1]; exact OnlyG.set g8 2 wr _
              have tV1 := HTC.out V1 (HO1.out.other b (Ne.symm HG8.out.1))
              have cV15 : V1.cell? ⟨g8, 5, none⟩ = some (.bool true) := cell_of_block hb1 rfl
              have fV15 : V1.frozen? ⟨g8, 5, none⟩ = false := free_of_block hb1 _
              have cV16 : V1.cell? ⟨g8, 6, none⟩ = some (.bool false) := cell_of_block hb1 rfl
              have fV16 : V1.frozen? ⟨g8, 6, none⟩ = false := free_of_block hb1 _
              obtain ⟨V2, hV2⟩ : ∃ V2, V1.setCell ⟨g8, 5, none⟩ (.bool true) = V2 := ⟨_, rfl⟩
              have hb2 : V2.heap[g8]? = some (.cells #[.string nm, .string vl, .string (cutW t wPath), .int .i64 ag, .bool hs, .bool true, .bool false, .string sm] 37 (0, 0)) := by rw [← hV2]; have q := set_block hb1 5 (.bool true); simpa using q
              have HO2 : Hid (OnlyG g8 wr V2) := by rw [Hid, ← hV2]; exact (HO1.out).trans (OnlyG.set g8 5 V1 _)
              have tV2 := HTC.out V2 (HO2.out.other b (Ne.symm HG8.out.1))
              have cV26 : V2.cell? ⟨g8, 6, none⟩ = some (.bool false) := cell_of_block hb2 rfl
              have fV26 : V2.frozen? ⟨g8, 6, none⟩ = false := free_of_block hb2 _
              have cV25 : V2.cell? ⟨g8, 5, none⟩ = some (.bool true) := cell_of_block hb2 rfl
              have fV25 : V2.frozen? ⟨g8, 5, none⟩ = false := free_of_block hb2 _
              obtain ⟨V3, hV3⟩ : ∃ V3, V2.setCell ⟨g8, 6, none⟩ (.bool false) = V3 := ⟨_, rfl⟩
              have hb3 : V3.heap[g8]? = some (.cells #[.string nm, .string vl, .string (cutW t wPath), .int .i64 ag, .bool hs, .bool true, .bool false, .string sm] 37 (0, 0)) := by rw [← hV3]; have q := set_block hb2 6 (.bool false); simpa using q
              have HO3 : Hid (OnlyG g8 wr V3) := by rw [Hid, ← hV3]; exact (HO2.out).trans (OnlyG.set g8 6 V2 _)
              have tV3 := HTC.out V3 (HO3.out.other b (Ne.symm HG8.out.1))
              have HCF : Hid (CkB V3 g8 (qstep ⟨nm, vl, pa, ag, hs, true, false, sm⟩ t)) := by
                rw [Hid, CkB, hb3, qstep_eq kp]
                rfl
              have k4 := kp.p4
              have k5 := kp.p5
              have H4 : Hid (∀ W : World, _) := fun W => behind_yes (t := t) (d := wPath) (by decide) kp.p1 W
              have H5 : Hid (∀ W : World, _) := fun W => behind_no (t := t) (d := wAge) (by decide) kp.p2 W
              have H6 : Hid (∀ W : World, _) := fun W => behind_no (t := t) (d := wSame) (by decide) kp.p3 W
              clear hb0 hb1 hb2 hb3 kp HC
              obtain ⟨x1, hx1⟩ : ∃ x1, cutW t wPath = x1 := ⟨_, rfl⟩
              rw [hx1] at H4 hV1
              clear hx1
              simp only [wPath] at H4
              simp only [wAge] at H5
              simp only [wSame] at H6
              go_wp2_with (first | (go_at_call 38; with_reducible refine (H4.out _).mono ?_; rintro e w' ⟨rfl, rfl⟩) | (go_at_call 38; with_reducible refine (H5.out _).mono ?_; rintro e w' ⟨rfl, rfl⟩) | (go_at_call 38; with_reducible refine (H6.out _).mono ?_; rintro e w' ⟨rfl, rfl⟩))
              go_roundw
              case rel => exact ⟨k + 1, _, by omega, by go_num, HEE.out, HCF.out, (HO3.out.other _ (Ne.symm HG8.out.2.1)).trans HX.out, HTA.out _ HO3.out, HO3.out.below _ _ HG8.out.2.2 HB.out⟩
              case measure => simp [intOf]; omega
            | true =>
              have hb0 : wr.heap[g8]? = some (.cells #[.string nm, .string vl, .string pa, .int .i64 ag, .bool hs, .bool true, .bool true, .string sm] 37 (0, 0)) := HC.out
              have cwr2 : wr.cell? ⟨g8, 2, none⟩ = some (.string pa) := cell_of_block hb0 rfl
              have fwr2 : wr.frozen? ⟨g8, 2, none⟩ = false := free_of_block hb0 _
              have cwr5 : wr.cell? ⟨g8, 5, none⟩ = some (.bool true) := cell_of_block hb0 rfl
              have fwr5 : wr.frozen? ⟨g8, 5, none⟩ = false := free_of_block hb0 _
              have cwr6 : wr.cell? ⟨g8, 6, none⟩ = some (.bool true) := cell_of_block hb0 rfl
              have fwr6 : wr.frozen? ⟨g8, 6, none⟩ = false := free_of_block hb0 _
              obtain ⟨V1, hV1⟩ : ∃ V1, wr.setCell ⟨g8, 2, none⟩ (.string (cutW t wPath)) = V1 := ⟨_, rfl⟩
              have hb1 : V1.heap[g8]? = some (.cells #[.string nm, .string vl, .string (cutW t wPath), .int .i64 ag, .bool hs, .bool true, .bool true, .string sm] 37 (0, 0)) := by rw [← hV1]; have q := set_block hb0 2 (.string (cutW t wPath)); simpa using q
              have HO1 : Hid (OnlyG g8 wr V1) := by rw [Hid, ← hV1]; exact OnlyG.set g8 2 wr _
              have tV1 := HTC.out V1 (HO1.out.other b (Ne.symm HG8.out.1))
              have cV15 : V1.cell? ⟨g8, 5, none⟩ = some (.bool true) := cell_of_block hb1 rfl
              have fV15 : V1.frozen? ⟨g8, 5, none⟩ = false := free_of_block hb1 _
              have cV16 : V1.cell? ⟨g8, 6, none⟩ = some (.bool true) := cell_of_block hb1 rfl
              have fV16 : V1.frozen? ⟨g8, 6, none⟩ = false := free_of_block hb1 _
              obtain ⟨V2, hV2⟩ : ∃ V2, V1.setCell ⟨g8, 5, none⟩ (.bool true) = V2 := ⟨_, rfl⟩
              have hb2 : V2.heap[g8]? = some (.cells #[.string nm, .string vl, .string (cutW t wPath), .int .i64 ag, .bool hs, .bool true, .bool true, .string sm] 37 (0, 0)) := by rw [← hV2]; have q := set_block hb1 5 (.bool true); simpa using q
              have HO2 : Hid (OnlyG g8 wr V2) := by rw [Hid, ← hV2]; exact (HO1.out).trans (OnlyG.set g8 5 V1 _)
              have tV2 := HTC.out V2 (HO2.out.other b (Ne.symm HG8.out.1))
              have cV26 : V2.cell? ⟨g8, 6, none⟩ = some (.bool true) := cell_of_block hb2 rfl
              have fV26 : V2.frozen? ⟨g8, 6, none⟩ = false := free_of_block hb2 _
              have cV25 : V2.cell? ⟨g8, 5, none⟩ = some (.bool true) := cell_of_block hb2 rfl
              have fV25 : V2.frozen? ⟨g8, 5, none⟩ = false := free_of_block hb2 _
              obtain ⟨V3, hV3⟩ : ∃ V3, V2.setCell ⟨g8, 6, none⟩ (.bool true) = V3 := ⟨_, rfl⟩
              have hb3 : V3.heap[g8]? = some (.cells #[.string nm, .string vl, .string (cutW t wPath), .int .i64 ag, .bool hs, .bool true, .bool true, .string sm] 37 (0, 0)) := by rw [← hV3]; have q := set_block hb2 6 (.bool true); simpa using q
              have HO3 : Hid (OnlyG g8 wr V3) := by rw [Hid, ← hV3]; exact (HO2.out).trans (OnlyG.set g8 6 V2 _)
              have tV3 := HTC.out V3 (HO3.out.other b (Ne.symm HG8.out.1))
              have HCF : Hid (CkB V3 g8 (qstep ⟨nm, vl, pa, ag, hs, true, true, sm⟩ t)) := by
                rw [Hid, CkB, hb3, qstep_eq kp]
                rfl
              have k4 := kp.p4
              have k5 := kp.p5
              have H4 : Hid (∀ W : World, _) := fun W => behind_yes (t := t) (d := wPath) (by decide) kp.p1 W
              have H5 : Hid (∀ W : World, _) := fun W => behind_no (t := t) (d := wAge) (by decide) kp.p2 W
              have H6 : Hid (∀ W : World, _) := fun W => behind_no (t := t) (d := wSame) (by decide) kp.p3 W
              clear hb0 hb1 hb2 hb3 kp HC
              obtain ⟨x1, hx1⟩ : ∃ x1, cutW t wPath = x1 := ⟨_, rfl⟩
              rw [hx1] at H4 hV1
              clear hx1
              simp only [wPath] at H4
              simp only [wAge] at H5
              simp only [wSame] at H6
              go_wp2_with (first | (go_at_call 38; with_reducible refine (H4.out _).mono ?_; rintro e w' ⟨rfl, rfl⟩) | (go_at_call 38; with_reducible refine (H5.out _).mono ?_; rintro e w' ⟨rfl, rfl⟩) | (go_at_call 38; with_reducible refine (H6.out _).mono ?_; rintro e w' ⟨rfl, rfl⟩))
              go_roundw
              case rel => exact ⟨k + 1, _, by omega, by go_num, HEE.out, HCF.out, (HO3.out.other _ (Ne.symm HG8.out.2.1)).trans HX.out, HTA.out _ HO3.out, HO3.out.below _ _ HG8.out.2.2 HB.out⟩
              case measure => simp [intOf]; omega
        · cases hh with
          | false =>
            cases sc with
            | false =>
              have hb0 : wr.heap[g8]? = some (.cells #[.string nm, .string vl, .string pa, .int .i64 ag, .bool hs, .bool false, .bool false, .string sm] 37 (0, 0)) := HC.out
              have cwr4 : wr.cell? ⟨g8, 4, none⟩ = some (.bool hs) := cell_of_block hb0 rfl
              have fwr4 : wr.frozen? ⟨g8, 4, none⟩ = false := free_of_block hb0 _
              have cwr5 : wr.cell? ⟨g8, 5, none⟩ = some (.bool false) := cell_of_block hb0 rfl
              have fwr5 : wr.frozen? ⟨g8, 5, none⟩ = false := free_of_block hb0 _
              have cwr6 : wr.cell? ⟨g8, 6, none⟩ = some (.bool false) := cell_of_block hb0 rfl
              have fwr6 : wr.frozen? ⟨g8, 6, none⟩ = false := free_of_block hb0 _
              obtain ⟨V1, hV1⟩ : ∃ V1, wr.setCell ⟨g8, 4, none⟩ (.bool true) = V1 := ⟨_, rfl⟩
              have hb1 : V1.heap[g8]? = some (.cells #[.string nm, .string vl, .string pa, .int .i64 ag, .bool true, .bool false, .bool false, .string sm] 37 (0, 0)) := by rw [← hV1]; have q := set_block hb0 4 (.bool true); simpa using q
              have HO1 : Hid (OnlyG g8 wr V1) := by rw [Hid, ← hV1]; exact OnlyG.set g8 4 wr _
              have tV1 := HTC.out V1 (HO1.out.other b (Ne.symm HG8.out.1))
              have cV13 : V1.cell? ⟨g8, 3, none⟩ = some (.int .i64 ag) := cell_of_block hb1 rfl
              have fV13 : V1.frozen? ⟨g8, 3, none⟩ = false := free_of_block hb1 _
              have cV15 : V1.cell? ⟨g8, 5, none⟩ = some (.bool false) := cell_of_block hb1 rfl
              have fV15 : V1.frozen? ⟨g8, 5, none⟩ = false := free_of_block hb1 _
              have cV16 : V1.cell? ⟨g8, 6, none⟩ = some (.bool false) := cell_of_block hb1 rfl
              have fV16 : V1.frozen? ⟨g8, 6, none⟩ = false := free_of_block hb1 _
              obtain ⟨V2, hV2⟩ : ∃ V2, V1.setCell ⟨g8, 3, none⟩ (.int .i64 (digR (cutW t wAge) 2147483647).1) = V2 := ⟨_, rfl⟩
              have hb2 : V2.heap[g8]? = some (.cells #[.string nm, .string vl, .string pa, .int .i64 (digR (cutW t wAge) 2147483647).1, .bool true, .bool false, .bool false, .string sm] 37 (0, 0)) := by rw [← hV2]; have q := set_block hb1 3 (.int .i64 (digR (cutW t wAge) 2147483647).1); simpa using q
              have HO2 : Hid (OnlyG g8 wr V2) := by rw [Hid, ← hV2]; exact (HO1.out).trans (OnlyG.set g8 3 V1 _)
              have tV2 := HTC.out V2 (HO2.out.other b (Ne.symm HG8.out.1))
              have cV25 : V2.cell? ⟨g8, 5, none⟩ = some (.bool false) := cell_of_block hb2 rfl
              have fV25 : V2.frozen? ⟨g8, 5, none⟩ = false := free_of_block hb2 _
              have cV26 : V2.cell? ⟨g8, 6, none⟩ = some (.bool false) := cell_of_block hb2 rfl
              have fV26 : V2.frozen? ⟨g8, 6, none⟩ = false := free_of_block hb2 _
              obtain ⟨V3, hV3⟩ : ∃ V3, V2.setCell ⟨g8, 5, none⟩ (.bool false) = V3 := ⟨_, rfl⟩
              have hb3 : V3.heap[g8]? = some (.cells #[.string nm, .string vl, .string pa, .int .i64 (digR (cutW t wAge) 2147483647).1, .bool true, .bool false, .bool false, .string sm] 37 (0, 0)) := by rw [← hV3]; have q := set_block hb2 5 (.bool false); simpa using q
              have HO3 : Hid (OnlyG g8 wr V3) := by rw [Hid, ← hV3]; exact (HO2.out).trans (OnlyG.set g8 5 V2 _)
              have tV3 := HTC.out V3 (HO3.out.other b (Ne.symm HG8.out.1))
              have cV36 : V3.cell? ⟨g8, 6, none⟩ = some (.bool false) := cell_of_block hb3 rfl
              have fV36 : V3.frozen? ⟨g8, 6, none⟩ = false := free_of_block hb3 _
              have cV35 : V3.cell? ⟨g8, 5, none⟩ = some (.bool false) := cell_of_block hb3 rfl
              have fV35 : V3.frozen? ⟨g8, 5, none⟩ = false := free_of_block hb3 _
              obtain ⟨V4, hV4⟩ : ∃ V4, V3.setCell ⟨g8, 6, none⟩ (.bool false) = V4 := ⟨_, rfl⟩
              have hb4 : V4.heap[g8]? = some (.cells #[.string nm, .string vl, .string pa, .int .i64 (digR (cutW t wAge) 2147483647).1, .bool true, .bool false, .bool false, .string sm] 37 (0, 0)) := by rw [← hV4]; have q := set_block hb3 6 (.bool false); simpa using q
              have HO4 : Hid (OnlyG g8 wr V4) := by rw [Hid, ← hV4]; exact (HO3.out).trans (OnlyG.set g8 6 V3 _)
              have tV4 := HTC.out V4 (HO4.out.other b (Ne.symm HG8.out.1))
              have HCF : Hid (CkB V4 g8 (qstep ⟨nm, vl, pa, ag, hs, false, false, sm⟩ t)) := by
                rw [Hid, CkB, hb4, qstep_eq kp]
                rfl
              have k4 := kp.p4
              have k5 := kp.p5
              have H4 : Hid (∀ W : World, _) := fun W => behind_no (t := t) (d := wPath) (by decide) kp.p1 W
              have H5 : Hid (∀ W : World, _) := fun W => behind_yes (t := t) (d := wAge) (by decide) kp.p2 W
              have H6 : Hid (∀ W : World, _) := fun W => behind_no (t := t) (d := wSame) (by decide) kp.p3 W
              have H7 : Hid (∀ W : World, _) := fun W => rdigits_any (cutW t wAge) 2147483647 (by have := cutW_size t wAge; omega) W
              clear hb0 hb1 hb2 hb3 hb4 kp HC
              obtain ⟨x1, hx1⟩ : ∃ x1, cutW t wAge = x1 := ⟨_, rfl⟩
              rw [hx1] at H5 H7 hV2
              clear hx1
              simp only [wPath] at H4
              simp only [wAge] at H5
              simp only [wSame] at H6
              go_wp2_with (first | (go_at_call 38; with_reducible refine (H4.out _).mono ?_; rintro e w' ⟨rfl, rfl⟩) | (go_at_call 38; with_reducible refine (H5.out _).mono ?_; rintro e w' ⟨rfl, rfl⟩) | (go_at_call 38; with_reducible refine (H6.out _).mono ?_; rintro e w' ⟨rfl, rfl⟩) | (go_at_call 39; refine (H7.out _).mono ?_; rintro e w' ⟨rfl, rfl⟩))
              go_roundw
              case rel => exact ⟨k + 1, _, by omega, by go_num, HEE.out, HCF.out, (HO4.out.other _ (Ne.symm HG8.out.2.1)).trans HX.out, HTA.out _ HO4.out, HO4.out.below _ _ HG8.out.2.2 HB.out⟩
              case measure => simp [intOf]; omega
            | true =>
              have hb0 : wr.heap[g8]? = some (.cells #[.string nm, .string vl, .string pa, .int .i64 ag, .bool hs, .bool false, .bool true, .string sm] 37 (0, 0)) := HC.out
              have cwr4 : wr.cell? ⟨g8, 4, none⟩ = some (.bool hs) := cell_of_block hb0 rfl
              have fwr4 : wr.frozen? ⟨g8, 4, none⟩ = false := free_of_block hb0 _
              have cwr5 : wr.cell? ⟨g8, 5, none⟩ = some (.bool false) := cell_of_block hb0 rfl
              have fwr5 : wr.frozen? ⟨g8, 5, none⟩ = false := free_of_block hb0 _
              have cwr6 : wr.cell? ⟨g8, 6, none⟩ = some (.bool true) := cell_of_block hb0 rfl
              have fwr6 : wr.frozen? ⟨g8, 6, none⟩ = false := free_of_block hb0 _
              obtain ⟨V1, hV1⟩ : ∃ V1, wr.setCell ⟨g8, 4, none⟩ (.bool true) = V1 := ⟨_, rfl⟩
              have hb1 : V1.heap[g8]? = some (.cells #[.string nm, .string vl, .string pa, .int .i64 ag, .bool true, .bool false, .bool true, .string sm] 37 (0, 0)) := by rw [← hV1]; have q := set_block hb0 4 (.bool true); simpa using q
              have HO1 : Hid (OnlyG g8 wr V1) := by rw [Hid, ← hV1]; exact OnlyG.set g8 4 wr _
              have tV1 := HTC.out V1 (HO1.out.other b (Ne.symm HG8.out.1))
              have cV13 : V1.cell? ⟨g8, 3, none⟩ = some (.int .i64 ag) := cell_of_block hb1 rfl
              have fV13 : V1.frozen? ⟨g8, 3, none⟩ = false := free_of_block hb1 _
              have cV15 : V1.cell? ⟨g8, 5, none⟩ = some (.bool false) := cell_of_block hb1 rfl
              have fV15 : V1.frozen? ⟨g8, 5, none⟩ = false := free_of_block hb1 _
              have cV16 : V1.cell? ⟨g8, 6, none⟩ = some (.bool true) := cell_of_block hb1 rfl
              have fV16 : V1.frozen? ⟨g8, 6, none⟩ = false := free_of_block hb1 _
              obtain ⟨V2, hV2⟩ : ∃ V2, V1.setCell ⟨g8, 3, none⟩ (.int .i64 (digR (cutW t wAge) 2147483647).1) = V2 := ⟨_, rfl⟩
              have hb2 : V2.heap[g8]? = some (.cells #[.string nm, .string vl, .string pa, .int .i64 (digR (cutW t wAge) 2147483647).1, .bool true, .bool false, .bool true, .string sm] 37 (0, 0)) := by rw [← hV2]; have q := set_block hb1 3 (.int .i64 (digR (cutW t wAge) 2147483647).1); simpa using q
              have HO2 : Hid (OnlyG g8 wr V2) := by rw [Hid, ← hV2]; exact (HO1.out).trans (OnlyG.set g8 3 V1 _)
              have tV2 := HTC.out V2 (HO2.out.other b (Ne.symm HG8.out.1))
              have cV25 : V2.cell? ⟨g8, 5, none⟩ = some (.bool false) := cell_of_block hb2 rfl
              have fV25 : V2.frozen? ⟨g8, 5, none⟩ = false := free_of_block hb2 _
              have cV26 : V2.cell? ⟨g8, 6, none⟩ = some (.bool true) := cell_of_block hb2 rfl
              have fV26 : V2.frozen? ⟨g8, 6, none⟩ = false := free_of_block hb2 _
              obtain ⟨V3, hV3⟩ : ∃ V3, V2.setCell ⟨g8, 5, none⟩ (.bool false) = V3 := ⟨_, rfl⟩
              have hb3 : V3.heap[g8]? = some (.cells #[.string nm, .string vl, .string pa, .int .i64 (digR (cutW t wAge) 2147483647).1, .bool true, .bool false, .bool true, .string sm] 37 (0, 0)) := by rw [← hV3]; have q := set_block hb2 5 (.bool false); simpa using q
              have HO3 : Hid (OnlyG g8 wr V3) := by rw [Hid, ← hV3]; exact (HO2.out).trans (OnlyG.set g8 5 V2 _)
              have tV3 := HTC.out V3 (HO3.out.other b (Ne.symm HG8.out.1))
              have cV36 : V3.cell? ⟨g8, 6, none⟩ = some (.bool true) := cell_of_block hb3 rfl
              have fV36 : V3.frozen? ⟨g8, 6, none⟩ = false := free_of_block hb3 _
              have cV35 : V3.cell? ⟨g8, 5, none⟩ = some (.bool false) := cell_of_block hb3 rfl
              have fV35 : V3.frozen? ⟨g8, 5, none⟩ = false := free_of_block hb3 _
              obtain ⟨V4, hV4⟩ : ∃ V4, V3.setCell ⟨g8, 6, none⟩ (.bool true) = V4 := ⟨_, rfl⟩
              have hb4 : V4.heap[g8]? = some (.cells #[.string nm, .string vl, .string pa, .int .i64 (digR (cutW t wAge) 2147483647).1, .bool true, .bool false, .bool true, .string sm] 37 (0, 0)) := by rw [← hV4]; have q := set_block hb3 6 (.bool true); simpa using q
              have HO4 : Hid (OnlyG g8 wr V4) := by rw [Hid, ← hV4]; exact (HO3.out).trans (OnlyG.set g8 6 V3 _)
              have tV4 := HTC.out V4 (HO4.out.other b (Ne.symm HG8.out.1))
              have HCF : Hid (CkB V4 g8 (qstep ⟨nm, vl, pa, ag, hs, false, true, sm⟩ t)) := by
                rw [Hid, CkB, hb4, qstep_eq kp]
                rfl
              have k4 := kp.p4
              have k5 := kp.p5
              have H4 : Hid (∀ W : World, _) := fun W => behind_no (t := t) (d := wPath) (by decide) kp.p1 W
              have H5 : Hid (∀ W : World, _) := fun W => behind_yes (t := t) (d := wAge) (by decide) kp.p2 W
              have H6 : Hid (∀ W : World, _) := fun W => behind_no (t := t) (d := wSame) (by decide) kp.p3 W
              have H7 : Hid (∀ W : World, _) := fun W => rdigits_any (cutW t wAge) 2147483647 (by have := cutW_size t wAge; omega) W
              clear hb0 hb1 hb2 hb3 hb4 kp HC
              obtain ⟨x1, hx1⟩ : ∃ x1, cutW t wAge = x1 := ⟨_, rfl⟩
              rw [hx1] at H5 H7 hV2
              clear hx1
              simp only [wPath] at H4
              simp only [wAge] at H5
              simp only [wSame] at H6
              go_wp2_with (first | (go_at_call 38; with_reducible refine (H4.out _).mono ?_; rintro e w' ⟨rfl, rfl⟩) | (go_at_call 38; with_reducible refine (H5.out _).mono ?_; rintro e w' ⟨rfl, rfl⟩) | (go_at_call 38; with_reducible refine (H6.out _).mono ?_; rintro e w' ⟨rfl, rfl⟩) | (go_at_call 39; refine (H7.out _).mono ?_; rintro e w' ⟨rfl, rfl⟩))
              go_roundw
              case rel => exact ⟨k + 1, _, by omega, by go_num, HEE.out, HCF.out, (HO4.out.other _ (Ne.symm HG8.out.2.1)).trans HX.out, HTA.out _ HO4.out, HO4.out.below _ _ HG8.out.2.2 HB.out⟩
              case measure => simp [intOf]; omega
          | true =>
            cases sc with
            | false =>
              have hb0 : wr.heap[g8]? = some (.cells #[.string nm, .string vl, .string pa, .int .i64 ag, .bool hs, .bool true, .bool false, .string sm] 37 (0, 0)) := HC.out
              have cwr4 : wr.cell? ⟨g8, 4, none⟩ = some (.bool hs) := cell_of_block hb0 rfl
              have fwr4 : wr.frozen? ⟨g8, 4, none⟩ = false := free_of_block hb0 _
              have cwr5 : wr.cell? ⟨g8, 5, none⟩ = some (.bool true) := cell_of_block hb0 rfl
              have fwr5 : wr.frozen? ⟨g8, 5, none⟩ = false := free_of_block hb0 _
              have cwr6 : wr.cell? ⟨g8, 6, none⟩ = some (.bool false) := cell_of_block hb0 rfl
              have fwr6 : wr.frozen? ⟨g8, 6, none⟩ = false := free_of_block hb0 _
              obtain ⟨V1, hV1⟩ : ∃ V1, wr.setCell ⟨g8, 4, none⟩ (.bool true) = V1 := ⟨_, rfl⟩
              have hb1 : V1.heap[g8]? = some (.cells #[.string nm, .string vl, .string pa, .int .i64 ag, .bool true, .bool true, .bool false, .string sm] 37 (0, 0)) := by rw [← hV1]; have q := set_block hb0 4 (.bool true); simpa using q
              have HO1 : Hid (OnlyG g8 wr V1) := by rw [Hid, ← hV1]; exact OnlyG.set g8 4 wr _
              have tV1 := HTC.out V1 (HO1.out.other b (Ne.symm HG8.out.1))
              have cV13 : V1.cell? ⟨g8, 3, none⟩ = some (.int .i64 ag) := cell_of_block hb1 rfl
              have fV13 : V1.frozen? ⟨g8, 3, none⟩ = false := free_of_block hb1 _
              have cV15 : V1.cell? ⟨g8, 5, none⟩ = some (.bool true) := cell_of_block hb1 rfl
              have fV15 : V1.frozen? ⟨g8, 5, none⟩ = false := free_of_block hb1 _
              have cV16 : V1.cell? ⟨g8, 6, none⟩ = some (.bool false) := cell_of_block hb1 rfl
              have fV16 : V1.frozen? ⟨g8, 6, none⟩ = false := free_of_block hb1 _
              obtain ⟨V2, hV2⟩ : ∃ V2, V1.setCell ⟨g8, 3, none⟩ (.int .i64 (digR (cutW t wAge) 2147483647).1) = V2 := ⟨_, rfl⟩
              have hb2 : V2.heap[g8]? = some (.cells #[.string nm, .string vl, .string pa, .int .i64 (digR (cutW t wAge) 2147483647).1, .bool true, .bool true, .bool false, .string sm] 37 (0, 0)) := by rw [← hV2]; have q := set_block hb1 3 (.int .i64 (digR (cutW t wAge) 2147483647).1); simpa using q
              have HO2 : Hid (OnlyG g8 wr V2) := by rw [Hid, ← hV2]; exact (HO1.out).trans (OnlyG.set g8 3 V1 _)
              have tV2 := HTC.out V2 (HO2.out.other b (Ne.symm HG8.out.1))
              have cV25 : V2.cell? ⟨g8, 5, none⟩ = some (.bool true) := cell_of_block hb2 rfl
              have fV25 : V2.frozen? ⟨g8, 5, none⟩ = false := free_of_block hb2 _
              have cV26 : V2.cell? ⟨g8, 6, none⟩ = some (.bool false) := cell_of_block hb2 rfl
              have fV26 : V2.frozen? ⟨g8, 6, none⟩ = false := free_of_block hb2 _
              obtain ⟨V3, hV3⟩ : ∃ V3, V2.setCell ⟨g8, 5, none⟩ (.bool true) = V3 := ⟨_, rfl⟩
              have hb3 : V3.heap[g8]? = some (.cells #[.string nm, .string vl, .string pa, .int .i64 (digR (cutW t wAge) 2147483647).1, .bool true, .bool true, .bool false, .string sm] 37 (0, 0)) := by rw [← hV3]; have q := set_block hb2 5 (.bool true); simpa using q
              have HO3 : Hid (OnlyG g8 wr V3) := by rw [Hid, ← hV3]; exact (HO2.out).trans (OnlyG.set g8 5 V2 _)
              have tV3 := HTC.out V3 (HO3.out.other b (Ne.symm HG8.out.1))
              have cV36 : V3.cell? ⟨g8, 6, none⟩ = some (.bool false) := cell_of_block hb3 rfl
              have fV36 : V3.frozen? ⟨g8, 6, none⟩ = false := free_of_block hb3 _
              have cV35 : V3.cell? ⟨g8, 5, none⟩ = some (.bool true) := cell_of_block hb3 rfl
              have fV35 : V3.frozen? ⟨g8, 5, none⟩ = false := free_of_block hb3 _
              obtain ⟨V4, hV4⟩ : ∃ V4, V3.setCell ⟨g8, 6, none⟩ (.bool false) = V4 := ⟨_, rfl⟩
              have hb4 : V4.heap[g8]? = some (.cells #[.string nm, .string vl, .string pa, .int .i64 (digR (cutW t wAge) 2147483647).1, .bool true, .bool true, .bool false, .string sm] 37 (0, 0)) := by rw [← hV4]; have q := set_block hb3 6 (.bool false); simpa using q
              have HO4 : Hid (OnlyG g8 wr V4) := by rw [Hid, ← hV4]; exact (HO3.out).trans (OnlyG.set g8 6 V3 _)
              have tV4 := HTC.out V4 (HO4.out.other b (Ne.symm HG8.out.1))
              have HCF : Hid (CkB V4 g8 (qstep ⟨nm, vl, pa, ag, hs, true, false, sm⟩ t)) := by
                rw [Hid, CkB, hb4, qstep_eq kp]
                rfl
              have k4 := kp.p4
              have k5 := kp.p5
              have H4 : Hid (∀ W : World, _) := fun W => behind_no (t := t) (d := wPath) (by decide) kp.p1 W
              have H5 : Hid (∀ W : World, _) := fun W => behind_yes (t := t) (d := wAge) (by decide) kp.p2 W
              have H6 : Hid (∀ W : World, _) := fun W => behind_no (t := t) (d := wSame) (by decide) kp.p3 W
              have H7 : Hid (∀ W : World, _) := fun W => rdigits_any (cutW t wAge) 2147483647 (by have := cutW_size t wAge; omega) W
              clear hb0 hb1 hb2 hb3 hb4 kp HC
              obtain ⟨x1, hx1⟩ : ∃ x1, cutW t wAge = x1 := ⟨_, rfl⟩
              rw [hx1] at H5 H7 hV2
              clear hx1
              simp only [wPath] at H4
              simp only [wAge] at H5
              simp only [wSame] at H6
              go_wp2_with (first | (go_at_call 38; with_reducible refine (H4.out _).mono ?_; rintro e w' ⟨rfl, rfl⟩) | (go_at_call 38; with_reducible refine (H5.out _).mono ?_; rintro e w' ⟨rfl, rfl⟩) | (go_at_call 38; with_reducible refine (H6.out _).mono ?_; rintro e w' ⟨rfl, rfl⟩) | (go_at_call 39; refine (H7.out _).mono ?_; rintro e w' ⟨rfl, rfl⟩))
              go_roundw
              case rel => exact ⟨k + 1, _, by omega, by go_num, HEE.out, HCF.out, (HO4.out.other _ (Ne.symm HG8.out.2.1)).trans HX.out, HTA.out _ HO4.out, HO4.out.below _ _ HG8.out.2.2 HB.out⟩
              case measure => simp [intOf]; omega
            | true =>
              have hb0 : wr.heap[g8]? = some (.cells #[.string nm, .string vl, .string pa, .int .i64 ag, .bool hs, .bool true, .bool true, .string sm] 37 (0, 0)) := HC.out
              have cwr4 : wr.cell? ⟨g8, 4, none⟩ = some (.bool hs) := cell_of_block hb0 rfl
              have fwr4 : wr.frozen? ⟨g8, 4, none⟩ = false := free_of_block hb0 _
              have cwr5 : wr.cell? ⟨g8, 5, none⟩ = some (.bool true) := cell_of_block hb0 rfl
              have fwr5 : wr.frozen? ⟨g8, 5, none⟩ = false := free_of_block hb0 _
              have cwr6 : wr.cell? ⟨g8, 6, none⟩ = some (.bool true) := cell_of_block hb0 rfl
              have fwr6 : wr.frozen? ⟨g8, 6, none⟩ = false := free_of_block hb0 _
              obtain ⟨V1, hV1⟩ : ∃ V1, wr.setCell ⟨g8, 4, none⟩ (.bool true) = V1 := ⟨_, rfl⟩
              have hb1 : V1.heap[g8]? = some (.cells #[.string nm, .string vl, .string pa, .int .i64 ag, .bool true, .bool true, .bool true, .string sm] 37 (0, 0)) := by rw [← hV1]; have q := set_block hb0 4 (.bool true); simpa using q
              have HO1 : Hid (OnlyG g8 wr V1) := by rw [Hid, ← hV1]; exact OnlyG.set g8 4 wr _
              have tV1 := HTC.out V1 (HO1.out.other b (Ne.symm HG8.out.1))
              have cV13 : V1.cell? ⟨g8, 3, none⟩ = some (.int .i64 ag) := cell_of_block hb1 rfl
              have fV13 : V1.frozen? ⟨g8, 3, none⟩ = false := free_of_block hb1 _
              have cV15 : V1.cell? ⟨g8, 5, none⟩ = some (.bool true) := cell_of_block hb1 rfl
              have fV15 : V1.frozen? ⟨g8, 5, none⟩ = false := free_of_block hb1 _
              have cV16 : V1.cell? ⟨g8, 6, none⟩ = some (.bool true) := cell_of_block hb1 rfl
              have fV16 : V1.frozen? ⟨g8, 6, none⟩ = false := free_of_block hb1 _
              obtain ⟨V2, hV2⟩ : ∃ V2, V1.setCell ⟨g8, 3, none⟩ (.int .i64 (digR (cutW t wAge) 2147483647).1) = V2 := ⟨_, rfl⟩
              have hb2 : V2.heap[g8]? = some (.cells #[.string nm, .string vl, .string pa, .int .i64 (digR (cutW t wAge) 2147483647).1, .bool true, .bool true, .bool true, .string sm] 37 (0, 0)) := by rw [← hV2]; have q := set_block hb1 3 (.int .i64 (digR (cutW t wAge) 2147483647).1); simpa using q
              have HO2 : Hid (OnlyG g8 wr V2) := by rw [Hid, ← hV2]; exact (HO1.out).trans (OnlyG.set g8 3 V1 _)
              have tV2 := HTC.out V2 (HO2.out.other b (Ne.symm HG8.out.1))
              have cV25 : V2.cell? ⟨g8, 5, none⟩ = some (.bool true) := cell_of_block hb2 rfl
              have fV25 : V2.frozen? ⟨g8, 5, none⟩ = false := free_of_block hb2 _
              have cV26 : V2.cell? ⟨g8, 6, none⟩ = some (.bool true) := cell_of_block hb2 rfl
              have fV26 : V2.frozen? ⟨g8, 6, none⟩ = false := free_of_block hb2 _
              obtain ⟨V3, hV3⟩ : ∃ V3, V2.setCell ⟨g8, 5, none⟩ (.bool true) = V3 := ⟨_, rfl⟩
              have hb3 : V3.heap[g8]? = some (.cells #[.string nm, .string vl, .string pa, .int .i64 (digR (cutW t wAge) 2147483647).1, .bool true, .bool true, .bool true, .string sm] 37 (0, 0)) := by rw [← hV3]; have q := set_block hb2 5 (.bool true); simpa using q
              have HO3 : Hid (OnlyG g8 wr V3) := by rw [Hid, ← hV3]; exact (HO2.out).trans (OnlyG.set g8 5 V2 _)
              have tV3 := HTC.out V3 (HO3.out.other b (Ne.symm HG8.out.1))
              have cV36 : V3.cell? ⟨g8, 6, none⟩ = some (.bool true) := cell_of_block hb3 rfl
              have fV36 : V3.frozen? ⟨g8, 6, none⟩ = false := free_of_block hb3 _
              have cV35 : V3.cell? ⟨g8, 5, none⟩ = some (.bool true) := cell_of_block hb3 rfl
              have fV35 : V3.frozen? ⟨g8, 5, none⟩ = false := free_of_block hb3 _
              obtain ⟨V4, hV4⟩ : ∃ V4, V3.setCell ⟨g8, 6, none⟩ (.bool true) = V4 := ⟨_, rfl⟩
              have hb4 : V4.heap[g8]? = some (.cells #[.string nm, .string vl, .string pa, .int .i64 (digR (cutW t wAge) 2147483647).1, .bool true, .bool true, .bool true, .string sm] 37 (0, 0)) := by rw [← hV4]; have q := set_block hb3 6 (.bool true); simpa using q
              have HO4 : Hid (OnlyG g8 wr V4) := by rw [Hid, ← hV4]; exact (HO3.out).trans (OnlyG.set g8 6 V3 _)
              have tV4 := HTC.out V4 (HO4.out.other b (Ne.symm HG8.out.1))
              have HCF : Hid (CkB V4 g8 (qstep ⟨nm, vl, pa, ag, hs, true, true, sm⟩ t)) := by
                rw [Hid, CkB, hb4, qstep_eq kp]
                rfl
              have k4 := kp.p4
              have k5 := kp.p5
              have H4 : Hid (∀ W : World, _) := fun W => behind_no (t := t) (d := wPath) (by decide) kp.p1 W
              have H5 : Hid (∀ W : World, _) := fun W => behind_yes (t := t) (d := wAge) (by decide) kp.p2 W
              have H6 : Hid (∀ W : World, _) := fun W => behind_no (t := t) (d := wSame) (by decide) kp.p3 W
              have H7 : Hid (∀ W : World, _) := fun W => rdigits_any (cutW t wAge) 2147483647 (by have := cutW_size t wAge; omega) W
              clear hb0 hb1 hb2 hb3 hb4 kp HC
              obtain ⟨x1, hx1⟩ : ∃ x1, cutW t wAge = x1 := ⟨_, rfl⟩
              rw [hx1] at H5 H7 hV2
              clear hx1
              simp only [wPath] at H4
              simp only [wAge] at H5
              simp only [wSame] at H6
              go_wp2_with (first | (go_at_call 38; with_reducible refine (H4.out _).mono ?_; rintro e w' ⟨rfl, rfl⟩) | (go_at_call 38; with_reducible refine (H5.out _).mono ?_; rintro e w' ⟨rfl, rfl⟩) | (go_at_call 38; with_reducible refine (H6.out _).mono ?_; rintro e w' ⟨rfl, rfl⟩) | (go_at_call 39; refine (H7.out _).mono ?_; rintro e w' ⟨rfl, rfl⟩))
              go_roundw
              case rel => exact ⟨k + 1, _, by omega, by go_num, HEE.out, HCF.out, (HO4.out.other _ (Ne.symm HG8.out.2.1)).trans HX.out, HTA.out _ HO4.out, HO4.out.below _ _ HG8.out.2.2 HB.out⟩
              case measure => simp [intOf]; omega
        · cases hh with
          | false =>
            cases sc with
            | false =>
              have hb0 : wr.heap[g8]? = some (.cells #[.string nm, .string vl, .string pa, .int .i64 ag, .bool hs, .bool false, .bool false, .string sm] 37 (0, 0)) := HC.out
              have cwr7 : wr.cell? ⟨g8, 7, none⟩ = some (.string sm) := cell_of_block hb0 rfl
              have fwr7 : wr.frozen? ⟨g8, 7, none⟩ = false := free_of_block hb0 _
              have cwr5 : wr.cell? ⟨g8, 5, none⟩ = some (.bool false) := cell_of_block hb0 rfl
              have fwr5 : wr.frozen? ⟨g8, 5, none⟩ = false := free_of_block hb0 _
              have cwr6 : wr.cell? ⟨g8, 6, none⟩ = some (.bool false) := cell_of_block hb0 rfl
              have fwr6 : wr.frozen? ⟨g8, 6, none⟩ = false := free_of_block hb0 _
              obtain ⟨V1, hV1⟩ : ∃ V1, wr.setCell ⟨g8, 7, none⟩ (.string (cutW t wSame)) = V1 := ⟨_, rfl⟩
              have hb1 : V1.heap[g8]? = some (.cells #[.string nm, .string vl, .string pa, .int .i64 ag, .bool hs, .bool false, .bool false, .string (cutW t wSame)] 37 (0, 0)) := by rw [← hV1]; have q := set_block hb0 7 (.string (cutW t wSame)); simpa using q
              have HO1 : Hid (OnlyG g8 wr V1) := by rw [Hid, ← hV1]; exact OnlyG.set g8 7 wr _
              have tV1 := HTC.out V1 (HO1.out.other b (Ne.symm HG8.out.1))
              have cV15 : V1.cell? ⟨g8, 5, none⟩ = some (.bool false) := cell_of_block hb1 rfl
              have fV15 : V1.frozen? ⟨g8, 5, none⟩ = false := free_of_block hb1 _
              have cV16 : V1.cell? ⟨g8, 6, none⟩ = some (.bool false) := cell_of_block hb1 rfl
              have fV16 : V1.frozen? ⟨g8, 6, none⟩ = false := free_of_block hb1 _
              obtain ⟨V2, hV2⟩ : ∃ V2, V1.setCell ⟨g8, 5, none⟩ (.bool false) = V2 := ⟨_, rfl⟩
              have hb2 : V2.heap[g8]? = some (.cells #[.string nm, .string vl, .string pa, .int .i64 ag, .bool hs, .bool false, .bool false, .string (cutW t wSame)] 37 (0, 0)) := by rw [← hV2]; have q := set_block hb1 5 (.bool false); simpa using q
              have HO2 : Hid (OnlyG g8 wr V2) := by rw [Hid, ← hV2]; exact (HO1.out).trans (OnlyG.set g8 5 V1 _)
              have tV2 := HTC.out V2 (HO2.out.other b (Ne.symm HG8.out.1))
              have cV26 : V2.cell? ⟨g8, 6, none⟩ = some (.bool false) := cell_of_block hb2 rfl
              have fV26 : V2.frozen? ⟨g8, 6, none⟩ = false := free_of_block hb2 _
              have cV25 : V2.cell? ⟨g8, 5, none⟩ = some (.bool false) := cell_of_block hb2 rfl
              have fV25 : V2.frozen? ⟨g8, 5, none⟩ = false := free_of_block hb2 _
              obtain ⟨V3, hV3⟩ : ∃ V3, V2.setCell ⟨g8, 6, none⟩ (.bool false) = V3 := ⟨_, rfl⟩
              have hb3 : V3.heap[g8]? = some (.cells #[.string nm, .string vl, .string pa, .int .i64 ag, .bool hs, .bool false, .bool false, .string (cutW t wSame)] 37 (0, 0)) := by rw [← hV3]; have q := set_block hb2 6 (.bool false); simpa using q
              have HO3 : Hid (OnlyG g8 wr V3) := by rw [Hid, ← hV3]; exact (HO2.out).trans (OnlyG.set g8 6 V2 _)
              have tV3 := HTC.out V3 (HO3.out.other b (Ne.symm HG8.out.1))
              have HCF : Hid (CkB V3 g8 (qstep ⟨nm, vl, pa, ag, hs, false, false, sm⟩ t)) := by
                rw [Hid, CkB, hb3, qstep_eq kp]
                rfl
              have k4 := kp.p4
              have k5 := kp.p5
              have H4 : Hid (∀ W : World, _) := fun W => behind_no (t := t) (d := wPath) (by decide) kp.p1 W
              have H5 : Hid (∀ W : World, _) := fun W => behind_no (t := t) (d := wAge) (by decide) kp.p2 W
              have H6 : Hid (∀ W : World, _) := fun W => behind_yes (t := t) (d := wSame) (by decide) kp.p3 W
              clear hb0 hb1 hb2 hb3 kp HC
              obtain ⟨x1, hx1⟩ : ∃ x1, cutW t wSame = x1 := ⟨_, rfl⟩
              rw [hx1] at H6 hV1
              clear hx1
              simp only [wPath] at H4
              simp only [wAge] at H5
              simp only [wSame] at H6
              go_wp2_with (first | (go_at_call 38; with_reducible refine (H4.out _).mono ?_; rintro e w' ⟨rfl, rfl⟩) | (go_at_call 38; with_reducible refine (H5.out _).mono ?_; rintro e w' ⟨rfl, rfl⟩) | (go_at_call 38; with_reducible refine (H6.out _).mono ?_; rintro e w' ⟨rfl, rfl⟩))
              go_roundw
              case rel => exact ⟨k + 1, _, by omega, by go_num, HEE.out, HCF.out, (HO3.out.other _ (Ne.symm HG8.out.2.1)).trans HX.out, HTA.out _ HO3.out, HO3.out.below _ _ HG8.out.2.2 HB.out⟩
              case measure => simp [intOf]; omega
            | true =>
              have hb0 : wr.heap[g8]? = some (.cells #[.string nm, .string vl, .string pa, .int .i64 ag, .bool hs, .bool false, .bool true, .string sm] 37 (0, 0)) := HC.out
              have cwr7 : wr.cell? ⟨g8, 7, none⟩ = some (.string sm) := cell_of_block hb0 rfl
              have fwr7 : wr.frozen? ⟨g8, 7, none⟩ = false := free_of_block hb0 _
              have cwr5 : wr.cell? ⟨g8, 5, none⟩ = some (.bool false) := cell_of_block hb0 rfl
              have fwr5 : wr.frozen? ⟨g8, 5, none⟩ = false := free_of_block hb0 _
              have cwr6 : wr.cell? ⟨g8, 6, none⟩ = some (.bool true) := cell_of_block hb0 rfl
              have fwr6 : wr.frozen? ⟨g8, 6, none⟩ = false := free_of_block hb0 _
              obtain ⟨V1, hV1⟩ : ∃ V1, wr.setCell ⟨g8, 7, none⟩ (.string (cutW t wSame)) = V1 := ⟨_, rfl⟩
              have hb1 : V1.heap[g8]? = some (.cells #[.string nm, .string vl, .string pa, .int .i64 ag, .bool hs, .bool false, .bool true, .string (cutW t wSame)] 37 (0, 0)) := by rw [← hV1]; have q := set_block hb0 7 (.string (cutW t wSame)); simpa using q
              have HO1 : Hid (OnlyG g8 wr V1) := by rw [Hid, ← hV1]; exact OnlyG.set g8 7 wr _
              have tV1 := HTC.out V1 (HO1.out.other b (Ne.symm HG8.out.1))
              have cV15 : V1.cell? ⟨g8, 5, none⟩ = some (.bool false) := cell_of_block hb1 rfl
              have fV15 : V1.frozen? ⟨g8, 5, none⟩ = false := free_of_block hb1 _
              have cV16 : V1.cell? ⟨g8, 6, none⟩ = some (.bool true) := cell_of_block hb1 rfl
              have fV16 : V1.frozen? ⟨g8, 6, none⟩ = false := free_of_block hb1 _
              obtain ⟨V2, hV2⟩ : ∃ V2, V1.setCell ⟨g8, 5, none⟩ (.bool false) = V2 := ⟨_, rfl⟩
              have hb2 : V2.heap[g8]? = some (.cells #[.string nm, .string vl, .string pa, .int .i64 ag, .bool hs, .bool false, .bool true, .string (cutW t wSame)] 37 (0, 0)) := by rw [← hV2]; have q := set_block hb1 5 (.bool false); simpa using q
              have HO2 : Hid (OnlyG g8 wr V2) := by rw [Hid, ← hV2]; exact (HO1.out).trans (OnlyG.set g8 5 V1 _)
              have tV2 := HTC.out V2 (HO2.out.other b (Ne.symm HG8.out.1))
              have cV26 : V2.cell? ⟨g8, 6, none⟩ = some (.bool true) := cell_of_block hb2 rfl
              have fV26 : V2.frozen? ⟨g8, 6, none⟩ = false := free_of_block hb2 _
              have cV25 : V2.cell? ⟨g8, 5, none⟩ = some (.bool false) := cell_of_block hb2 rfl
              have fV25 : V2.frozen? ⟨g8, 5, none⟩ = false := free_of_block hb2 _
              obtain ⟨V3, hV3⟩ : ∃ V3, V2.setCell ⟨g8, 6, none⟩ (.bool true) = V3 := ⟨_, rfl⟩
              have hb3 : V3.heap[g8]? = some (.cells #[.string nm, .string vl, .string pa, .int .i64 ag, .bool hs, .bool false, .bool true, .string (cutW t wSame)] 37 (0, 0)) := by rw [← hV3]; have q := set_block hb2 6 (.bool true); simpa using q
              have HO3 : Hid (OnlyG g8 wr V3) := by rw [Hid, ← hV3]; exact (HO2.out).trans (OnlyG.set g8 6 V2 _)
              have tV3 := HTC.out V3 (HO3.out.other b (Ne.symm HG8.out.1))
              have HCF : Hid (CkB V3 g8 (qstep ⟨nm, vl, pa, ag, hs, false, true, sm⟩ t)) := by
                rw [Hid, CkB, hb3, qstep_eq kp]
                rfl
              have k4 := kp.p4
              have k5 := kp.p5
              have H4 : Hid (∀ W : World, _) := fun W => behind_no (t := t) (d := wPath) (by decide) kp.p1 W
              have H5 : Hid (∀ W : World, _) := fun W => behind_no (t := t) (d := wAge) (by decide) kp.p2 W
              have H6 : Hid (∀ W : World, _) := fun W => behind_yes (t := t) (d := wSame) (by decide) kp.p3 W
              clear hb0 hb1 hb2 hb3 kp HC
              obtain ⟨x1, hx1⟩ : ∃ x1, cutW t wSame = x1 := ⟨_, rfl⟩
              rw [hx1] at H6 hV1
              clear hx1
              simp only [wPath] at H4
              simp only [wAge] at H5
              simp only [wSame] at H6
              go_wp2_with (first | (go_at_call 38; with_reducible refine (H4.out _).mono ?_; rintro e w' ⟨rfl, rfl⟩) | (go_at_call 38; with_reducible refine (H5.out _).mono ?_; rintro e w' ⟨rfl, rfl⟩) | (go_at_call 38; with_reducible refine (H6.out _).mono ?_; rintro e w' ⟨rfl, rfl⟩))
              go_roundw
              case rel => exact ⟨k + 1, _, by omega, by go_num, HEE.out, HCF.out, (HO3.out.other _ (Ne.symm HG8.out.2.1)).trans HX.out, HTA.out _ HO3.out, HO3.out.below _ _ HG8.out.2.2 HB.out⟩
              case measure => simp [intOf]; omega
          | true =>
            cases sc with
            | false =>
              have hb0 : wr.heap[g8]? = some (.cells #[.string nm, .string vl, .string pa, .int .i64 ag, .bool hs, .bool true, .bool false, .string sm] 37 (0, 0)) := HC.out
              have cwr7 : wr.cell? ⟨g8, 7, none⟩ = some (.string sm) := cell_of_block hb0 rfl
              have fwr7 : wr.frozen? ⟨g8, 7, none⟩ = false := free_of_block hb0 _
              have cwr5 : wr.cell? ⟨g8, 5, none⟩ = some (.bool true) := cell_of_block hb0 rfl
              have fwr5 : wr.frozen? ⟨g8, 5, none⟩ = false := free_of_block hb0 _
              have cwr6 : wr.cell? ⟨g8, 6, none⟩ = some (.bool false) := cell_of_block hb0 rfl
              have fwr6 : wr.frozen? ⟨g8, 6, none⟩ = false := free_of_block hb0 _
              obtain ⟨V1, hV1⟩ : ∃ V1, wr.setCell ⟨g8, 7, none⟩ (.string (cutW t wSame)) = V1 := ⟨_, rfl⟩
              have hb1 : V1.heap[g8]? = some (.cells #[.string nm, .string vl, .string pa, .int .i64 ag, .bool hs, .bool true, .bool false, .string (cutW t wSame)] 37 (0, 0)) := by rw [← hV1]; have q := set_block hb0 7 (.string (cutW t wSame)); simpa using q
              have HO1 : Hid (OnlyG g8 wr V1) := by rw [Hid, ← hV1]; exact OnlyG.set g8 7 wr _
              have tV1 := HTC.out V1 (HO1.out.other b (Ne.symm HG8.out.1))
              have cV15 : V1.cell? ⟨g8, 5, none⟩ = some (.bool true) := cell_of_block hb1 rfl
              have fV15 : V1.frozen? ⟨g8, 5, none⟩ = false := free_of_block hb1 _
              have cV16 : V1.cell? ⟨g8, 6, none⟩ = some (.bool false) := cell_of_block hb1 rfl
              have fV16 : V1.frozen? ⟨g8, 6, none⟩ = false := free_of_block hb1 _
              obtain ⟨V2, hV2⟩ : ∃ V2, V1.setCell ⟨g8, 5, none⟩ (.bool true) = V2 := ⟨_, rfl⟩
              have hb2 : V2.heap[g8]? = some (.cells #[.string nm, .string vl, .string pa, .int .i64 ag, .bool hs, .bool true, .bool false, .string (cutW t wSame)] 37 (0, 0)) := by rw [← hV2]; have q := set_block hb1 5 (.bool true); simpa using q
              have HO2 : Hid (OnlyG g8 wr V2) := by rw [Hid, ← hV2]; exact (HO1.out).trans (OnlyG.set g8 5 V1 _)
              have tV2 := HTC.out V2 (HO2.out.other b (Ne.symm HG8.out.1))
              have cV26 : V2.cell? ⟨g8, 6, none⟩ = some (.bool false) := cell_of_block hb2 rfl
              have fV26 : V2.frozen? ⟨g8, 6, none⟩ = false := free_of_block hb2 _
              have cV25 : V2.cell? ⟨g8, 5, none⟩ = some (.bool true) := cell_of_block hb2 rfl
              have fV25 : V2.frozen? ⟨g8, 5, none⟩ = false := free_of_block hb2 _
              obtain ⟨V3, hV3⟩ : ∃ V3, V2.setCell ⟨g8, 6, none⟩ (.bool false) = V3 := ⟨_, rfl⟩
              have hb3 : V3.heap[g8]? = some (.cells #[.string nm, .string vl, .string pa, .int .i64 ag, .bool hs, .bool true, .bool false, .string (cutW t wSame)] 37 (0, 0)) := by rw [← hV3]; have q := set_block hb2 6 (.bool false); simpa using q
              have HO3 : Hid (OnlyG g8 wr V3) := by rw [Hid, ← hV3]; exact (HO2.out).trans (OnlyG.set g8 6 V2 _)
              have tV3 := HTC.out V3 (HO3.out.other b (Ne.symm HG8.out.1))
              have HCF : Hid (CkB V3 g8 (qstep ⟨nm, vl, pa, ag, hs, true, false, sm⟩ t)) := by
                rw [Hid, CkB, hb3, qstep_eq kp]
                rfl
              have k4 := kp.p4
              have k5 := kp.p5
              have H4 : Hid (∀ W : World, _) := fun W => behind_no (t := t) (d := wPath) (by decide) kp.p1 W
              have H5 : Hid (∀ W : World, _) := fun W => behind_no (t := t) (d := wAge) (by decide) kp.p2 W
              have H6 : Hid (∀ W : World, _) := fun W => behind_yes (t := t) (d := wSame) (by decide) kp.p3 W
              clear hb0 hb1 hb2 hb3 kp HC
              obtain ⟨x1, hx1⟩ : ∃ x1, cutW t wSame = x1 := ⟨_, rfl⟩
              rw [hx1] at H6 hV1
              clear hx1
              simp only [wPath] at H4
              simp only [wAge] at H5
              simp only [wSame] at H6
              go_wp2_with (first | (go_at_call 38; with_reducible refine (H4.out _).mono ?_; rintro e w' ⟨rfl, rfl⟩) | (go_at_call 38; with_reducible refine (H5.out _).mono ?_; rintro e w' ⟨rfl, rfl⟩) | (go_at_call 38; with_reducible refine (H6.out _).mono ?_; rintro e w' ⟨rfl, rfl⟩))
              go_roundw
              case rel => exact ⟨k + 1, _, by omega, by go_num, HEE.out, HCF.out, (HO3.out.other _ (Ne.symm HG8.out.2.1)).trans HX.out, HTA.out _ HO3.out, HO3.out.below _ _ HG8.out.2.2 HB.out⟩
              case measure => simp [intOf]; omega
            | true =>
              have hb0 : wr.heap[g8]? = some (.cells #[.string nm, .string vl, .string pa, .int .i64 ag, .bool hs, .bool true, .bool true, .string sm] 37 (0, 0)) := HC.out
              have cwr7 : wr.cell? ⟨g8, 7, none⟩ = some (.string sm) := cell_of_block hb0 rfl
              have fwr7 : wr.frozen? ⟨g8, 7, none⟩ = false := free_of_block hb0 _
              have cwr5 : wr.cell? ⟨g8, 5, none⟩ = some (.bool true) := cell_of_block hb0 rfl
              have fwr5 : wr.frozen? ⟨g8, 5, none⟩ = false := free_of_block hb0 _
              have cwr6 : wr.cell? ⟨g8, 6, none⟩ = some (.bool true) := cell_of_block hb0 rfl
              have fwr6 : wr.frozen? ⟨g8, 6, none⟩ = false := free_of_block hb0 _
              obtain ⟨V1, hV1⟩ : ∃ V1, wr.setCell ⟨g8, 7, none⟩ (.string (cutW t wSame)) = V1 := ⟨_, rfl⟩
              have hb1 : V1.heap[g8]? = some (.cells #[.string nm, .string vl, .string pa, .int .i64 ag, .bool hs, .bool true, .bool true, .string (cutW t wSame)] 37 (0, 0)) := by rw [← hV1]; have q := set_block hb0 7 (.string (cutW t wSame)); simpa using q
              have HO1 : Hid (OnlyG g8 wr V1) := by rw [Hid, ← hV1]; exact OnlyG.set g8 7 wr _
              have tV1 := HTC.out V1 (HO1.out.other b (Ne.symm HG8.out.1))
              have cV15 : V1.cell? ⟨g8, 5, none⟩ = some (.bool true) := cell_of_block hb1 rfl
              have fV15 : V1.frozen? ⟨g8, 5, none⟩ = false := free_of_block hb1 _
              have cV16 : V1.cell? ⟨g8, 6, none⟩ = some (.bool true) := cell_of_block hb1 rfl
              have fV16 : V1.frozen? ⟨g8, 6, none⟩ = false := free_of_block hb1 _
              obtain ⟨V2, hV2⟩ : ∃ V2, V1.setCell ⟨g8, 5, none⟩ (.bool true) = V2 := ⟨_, rfl⟩
              have hb2 : V2.heap[g8]? = some (.cells #[.string nm, .string vl, .string pa, .int .i64 ag, .bool hs, .bool true, .bool true, .string (cutW t wSame)] 37 (0, 0)) := by rw [← hV2]; have q := set_block hb1 5 (.bool true); simpa using q
              have HO2 : Hid (OnlyG g8 wr V2) := by rw [Hid, ← hV2]; exact (HO1.out).trans (OnlyG.set g8 5 V1 _)
              have tV2 := HTC.out V2 (HO2.out.other b (Ne.symm HG8.out.1))
              have cV26 : V2.cell? ⟨g8, 6, none⟩ = some (.bool true) := cell_of_block hb2 rfl
              have fV26 : V2.frozen? ⟨g8, 6, none⟩ = false := free_of_block hb2 _
              have cV25 : V2.cell? ⟨g8, 5, none⟩ = some (.bool true) := cell_of_block hb2 rfl
              have fV25 : V2.frozen? ⟨g8, 5, none⟩ = false := free_of_block hb2 _
              obtain ⟨V3, hV3⟩ : ∃ V3, V2.setCell ⟨g8, 6, none⟩ (.bool true) = V3 := ⟨_, rfl⟩
              have hb3 : V3.heap[g8]? = some (.cells #[.string nm, .string vl, .string pa, .int .i64 ag, .bool hs, .bool true, .bool true, .string (cutW t wSame)] 37 (0, 0)) := by rw [← hV3]; have q := set_block hb2 6 (.bool true); simpa using q
              have HO3 : Hid (OnlyG g8 wr V3) := by rw [Hid, ← hV3]; exact (HO2.out).trans (OnlyG.set g8 6 V2 _)
              have tV3 := HTC.out V3 (HO3.out.other b (Ne.symm HG8.out.1))
              have HCF : Hid (CkB V3 g8 (qstep ⟨nm, vl, pa, ag, hs, true, true, sm⟩ t)) := by
                rw [Hid, CkB, hb3, qstep_eq kp]
                rfl
              have k4 := kp.p4
              have k5 := kp.p5
              have H4 : Hid (∀ W : World, _) := fun W => behind_no (t := t) (d := wPath) (by decide) kp.p1 W
              have H5 : Hid (∀ W : World, _) := fun W => behind_no (t := t) (d := wAge) (by decide) kp.p2 W
              have H6 : Hid (∀ W : World, _) := fun W => behind_yes (t := t) (d := wSame) (by decide) kp.p3 W
              clear hb0 hb1 hb2 hb3 kp HC
              obtain ⟨x1, hx1⟩ : ∃ x1, cutW t wSame = x1 := ⟨_, rfl⟩
              rw [hx1] at H6 hV1
              clear hx1
              simp only [wPath] at H4
              simp only [wAge] at H5
              simp only [wSame] at H6
              go_wp2_with (first | (go_at_call 38; with_reducible refine (H4.out _).mono ?_; rintro e w' ⟨rfl, rfl⟩) | (go_at_call 38; with_reducible refine (H5.out _).mono ?_; rintro e w' ⟨rfl, rfl⟩) | (go_at_call 38; with_reducible refine (H6.out _).mono ?_; rintro e w' ⟨rfl, rfl⟩))
              go_roundw
              case rel => exact ⟨k + 1, _, by omega, by go_num, HEE.out, HCF.out, (HO3.out.other _ (Ne.symm HG8.out.2.1)).trans HX.out, HTA.out _ HO3.out, HO3.out.below _ _ HG8.out.2.2 HB.out⟩
              case measure => simp [intOf]; omega
        · cases hh with
          | false =>
            cases sc with
            | false =>
              have hb0 : wr.heap[g8]? = some (.cells #[.string nm, .string vl, .string pa, .int .i64 ag, .bool hs, .bool false, .bool false, .string sm] 37 (0, 0)) := HC.out
              have cwr5 : wr.cell? ⟨g8, 5, none⟩ = some (.bool false) := cell_of_block hb0 rfl
              have fwr5 : wr.frozen? ⟨g8, 5, none⟩ = false := free_of_block hb0 _
              have cwr6 : wr.cell? ⟨g8, 6, none⟩ = some (.bool false) := cell_of_block hb0 rfl
              have fwr6 : wr.frozen? ⟨g8, 6, none⟩ = false := free_of_block hb0 _
              obtain ⟨V1, hV1⟩ : ∃ V1, wr.setCell ⟨g8, 5, none⟩ (.bool true) = V1 := ⟨_, rfl⟩
              have hb1 : V1.heap[g8]? = some (.cells #[.string nm, .string vl, .string pa, .int .i64 ag, .bool hs, .bool true, .bool false, .string sm] 37 (0, 0)) := by rw [← hV1]; have q := set_block hb0 5 (.bool true); simpa using q
              have HO1 : Hid (OnlyG g8 wr V1) := by rw [Hid, ← hV1]; exact OnlyG.set g8 5 wr _
              have tV1 := HTC.out V1 (HO1.out.other b (Ne.symm HG8.out.1))
              have cV16 : V1.cell? ⟨g8, 6, none⟩ = some (.bool false) := cell_of_block hb1 rfl
              have fV16 : V1.frozen? ⟨g8, 6, none⟩ = false := free_of_block hb1 _
              have cV15 : V1.cell? ⟨g8, 5, none⟩ = some (.bool true) := cell_of_block hb1 rfl
              have fV15 : V1.frozen? ⟨g8, 5, none⟩ = false := free_of_block hb1 _
              obtain ⟨V2, hV2⟩ : ∃ V2, V1.setCell ⟨g8, 6, none⟩ (.bool false) = V2 := ⟨_, rfl⟩
              have hb2 : V2.heap[g8]? = some (.cells #[.string nm, .string vl, .string pa, .int .i64 ag, .bool hs, .bool true, .bool false, .string sm] 37 (0, 0)) := by rw [← hV2]; have q := set_block hb1 6 (.bool false); simpa using q
              have HO2 : Hid (OnlyG g8 wr V2) := by rw [Hid, ← hV2]; exact (HO1.out).trans (OnlyG.set g8 6 V1 _)
              have tV2 := HTC.out V2 (HO2.out.other b (Ne.symm HG8.out.1))
              have HCF : Hid (CkB V2 g8 (qstep ⟨nm, vl, pa, ag, hs, false, false, sm⟩ t)) := by
                rw [Hid, CkB, hb2, qstep_eq kp]
                rfl
              have k4 := kp.p4
              have k5 := kp.p5
              have H4 : Hid (∀ W : World, _) := fun W => behind_no (t := t) (d := wPath) (by decide) kp.p1 W
              have H5 : Hid (∀ W : World, _) := fun W => behind_no (t := t) (d := wAge) (by decide) kp.p2 W
              have H6 : Hid (∀ W : World, _) := fun W => behind_no (t := t) (d := wSame) (by decide) kp.p3 W
              clear hb0 hb1 hb2 kp HC
              simp only [wPath] at H4
              simp only [wAge] at H5
              simp only [wSame] at H6
              go_wp2_with (first | (go_at_call 38; with_reducible refine (H4.out _).mono ?_; rintro e w' ⟨rfl, rfl⟩) | (go_at_call 38; with_reducible refine (H5.out _).mono ?_; rintro e w' ⟨rfl, rfl⟩) | (go_at_call 38; with_reducible refine (H6.out _).mono ?_; rintro e w' ⟨rfl, rfl⟩))
              go_roundw
              case rel => exact ⟨k + 1, _, by omega, by go_num, HEE.out, HCF.out, (HO2.out.other _ (Ne.symm HG8.out.2.1)).trans HX.out, HTA.out _ HO2.out, HO2.out.below _ _ HG8.out.2.2 HB.out⟩
              case measure => simp [intOf]; omega
            | true =>
              have hb0 : wr.heap[g8]? = some (.cells #[.string nm, .string vl, .string pa, .int .i64 ag, .bool hs, .bool false, .bool true, .string sm] 37 (0, 0)) := HC.out
              have cwr5 : wr.cell? ⟨g8, 5, none⟩ = some (.bool false) := cell_of_block hb0 rfl
              have fwr5 : wr.frozen? ⟨g8, 5, none⟩ = false := free_of_block hb0 _
              have cwr6 : wr.cell? ⟨g8, 6, none⟩ = some (.bool true) := cell_of_block hb0 rfl
              have fwr6 : wr.frozen? ⟨g8, 6, none⟩ = false := free_of_block hb0 _
              obtain ⟨V1, hV1⟩ : ∃ V1, wr.setCell ⟨g8, 5, none⟩ (.bool true) = V1 := ⟨_, rfl⟩
              have hb1 : V1.heap[g8]? = some (.cells #[.string nm, .string vl, .string pa, .int .i64 ag, .bool hs, .bool true, .bool true, .string sm] 37 (0, 0)) := by rw [← hV1]; have q := set_block hb0 5 (.bool true); simpa using q
              have HO1 : Hid (OnlyG g8 wr V1) := by rw [Hid, ← hV1]; exact OnlyG.set g8 5 wr _
              have tV1 := HTC.out V1 (HO1.out.other b (Ne.symm HG8.out.1))
              have cV16 : V1.cell? ⟨g8, 6, none⟩ = some (.bool true) := cell_of_block hb1 rfl
              have fV16 : V1.frozen? ⟨g8, 6, none⟩ = false := free_of_block hb1 _
              have cV15 : V1.cell? ⟨g8, 5, none⟩ = some (.bool true) := cell_of_block hb1 rfl
              have fV15 : V1.frozen? ⟨g8, 5, none⟩ = false := free_of_block hb1 _
              obtain ⟨V2, hV2⟩ : ∃ V2, V1.setCell ⟨g8, 6, none⟩ (.bool true) = V2 := ⟨_, rfl⟩
              have hb2 : V2.heap[g8]? = some (.cells #[.string nm, .string vl, .string pa, .int .i64 ag, .bool hs, .bool true, .bool true, .string sm] 37 (0, 0)) := by rw [← hV2]; have q := set_block hb1 6 (.bool true); simpa using q
              have HO2 : Hid (OnlyG g8 wr V2) := by rw [Hid, ← hV2]; exact (HO1.out).trans (OnlyG.set g8 6 V1 _)
              have tV2 := HTC.out V2 (HO2.out.other b (Ne.symm HG8.out.1))
              have HCF : Hid (CkB V2 g8 (qstep ⟨nm, vl, pa, ag, hs, false, true, sm⟩ t)) := by
                rw [Hid, CkB, hb2, qstep_eq kp]
                rfl
              have k4 := kp.p4
              have k5 := kp.p5
              have H4 : Hid (∀ W : World, _) := fun W => behind_no (t := t) (d := wPath) (by decide) kp.p1 W
              have H5 : Hid (∀ W : World, _) := fun W => behind_no (t := t) (d := wAge) (by decide) kp.p2 W
              have H6 : Hid (∀ W : World, _) := fun W => behind_no (t := t) (d := wSame) (by decide) kp.p3 W
              clear hb0 hb1 hb2 kp HC
              simp only [wPath] at H4
              simp only [wAge] at H5
              simp only [wSame] at H6
              go_wp2_with (first | (go_at_call 38; with_reducible refine (H4.out _).mono ?_; rintro e w' ⟨rfl, rfl⟩) | (go_at_call 38; with_reducible refine (H5.out _).mono ?_; rintro e w' ⟨rfl, rfl⟩) | (go_at_call 38; with_reducible refine (H6.out _).mono ?_; rintro e w' ⟨rfl, rfl⟩))
              go_roundw
              case rel => exact ⟨k + 1, _, by omega, by go_num, HEE.out, HCF.out, (HO2.out.other _ (Ne.symm HG8.out.2.1)).trans HX.out, HTA.out _ HO2.out, HO2.out.below _ _ HG8.out.2.2 HB.out⟩
              case measure => simp [intOf]; omega
          | true =>
            cases sc with
            | false =>
              have hb0 : wr.heap[g8]? = some (.cells #[.string nm, .string vl, .string pa, .int .i64 ag, .bool hs, .bool true, .bool false, .string sm] 37 (0, 0)) := HC.out
              have cwr5 : wr.cell? ⟨g8, 5, none⟩ = some (.bool true) := cell_of_block hb0 rfl
              have fwr5 : wr.frozen? ⟨g8, 5, none⟩ = false := free_of_block hb0 _
              have cwr6 : wr.cell? ⟨g8, 6, none⟩ = some (.bool false) := cell_of_block hb0 rfl
              have fwr6 : wr.frozen? ⟨g8, 6, none⟩ = false := free_of_block hb0 _
              obtain ⟨V1, hV1⟩ : ∃ V1, wr.setCell ⟨g8, 5, none⟩ (.bool true) = V1 := ⟨_, rfl⟩
              have hb1 : V1.heap[g8]? = some (.cells #[.string nm, .string vl, .string pa, .int .i64 ag, .bool hs, .bool true, .bool false, .string sm] 37 (0, 0)) := by rw [← hV1]; have q := set_block hb0 5 (.bool true); simpa using q
              have HO1 : Hid (OnlyG g8 wr V1) := by rw [Hid, ← hV1]; exact OnlyG.set g8 5 wr _
              have tV1 := HTC.out V1 (HO1.out.other b (Ne.symm HG8.out.1))
              have cV16 : V1.cell? ⟨g8, 6, none⟩ = some (.bool false) := cell_of_block hb1 rfl
              have fV16 : V1.frozen? ⟨g8, 6, none⟩ = false := free_of_block hb1 _
              have cV15 : V1.cell? ⟨g8, 5, none⟩ = some (.bool true) := cell_of_block hb1 rfl
              have fV15 : V1.frozen? ⟨g8, 5, none⟩ = false := free_of_block hb1 _
              obtain ⟨V2, hV2⟩ : ∃ V2, V1.setCell ⟨g8, 6, none⟩ (.bool false) = V2 := ⟨_, rfl⟩
              have hb2 : V2.heap[g8]? = some (.cells #[.string nm, .string vl, .string pa, .int .i64 ag, .bool hs, .bool true, .bool false, .string sm] 37 (0, 0)) := by rw [← hV2]; have q := set_block hb1 6 (.bool false); simpa using q
              have HO2 : Hid (OnlyG g8 wr V2) := by rw [Hid, ← hV2]; exact (HO1.out).trans (OnlyG.set g8 6 V1 _)
              have tV2 := HTC.out V2 (HO2.out.other b (Ne.symm HG8.out.1))
              have HCF : Hid (CkB V2 g8 (qstep ⟨nm, vl, pa, ag, hs, true, false, sm⟩ t)) := by
                rw [Hid, CkB, hb2, qstep_eq kp]
                rfl
              have k4 := kp.p4
              have k5 := kp.p5
              have H4 : Hid (∀ W : World, _) := fun W => behind_no (t := t) (d := wPath) (by decide) kp.p1 W
              have H5 : Hid (∀ W : World, _) := fun W => behind_no (t := t) (d := wAge) (by decide) kp.p2 W
              have H6 : Hid (∀ W : World, _) := fun W => behind_no (t := t) (d := wSame) (by decide) kp.p3 W
              clear hb0 hb1 hb2 kp HC
              simp only [wPath] at H4
              simp only [wAge] at H5
              simp only [wSame] at H6
              go_wp2_with (first | (go_at_call 38; with_reducible refine (H4.out _).mono ?_; rintro e w' ⟨rfl, rfl⟩) | (go_at_call 38; with_reducible refine (H5.out _).mono ?_; rintro e w' ⟨rfl, rfl⟩) | (go_at_call 38; with_reducible refine (H6.out _).mono ?_; rintro e w' ⟨rfl, rfl⟩))
              go_roundw
              case rel => exact ⟨k + 1, _, by omega, by go_num, HEE.out, HCF.out, (HO2.out.other _ (Ne.symm HG8.out.2.1)).trans HX.out, HTA.out _ HO2.out, HO2.out.below _ _ HG8.out.2.2 HB.out⟩
              case measure => simp [intOf]; omega
            | true =>
              have hb0 : wr.heap[g8]? = some (.cells #[.string nm, .string vl, .string pa, .int .i64 ag, .bool hs, .bool true, .bool true, .string sm] 37 (0, 0)) := HC.out
              have cwr5 : wr.cell? ⟨g8, 5, none⟩ = some (.bool true) := cell_of_block hb0 rfl
              have fwr5 : wr.frozen? ⟨g8, 5, none⟩ = false := free_of_block hb0 _
              have cwr6 : wr.cell? ⟨g8, 6, none⟩ = some (.bool true) := cell_of_block hb0 rfl
              have fwr6 : wr.frozen? ⟨g8, 6, none⟩ = false := free_of_block hb0 _
              obtain ⟨V1, hV1⟩ : ∃ V1, wr.setCell ⟨g8, 5, none⟩ (.bool true) = V1 := ⟨_, rfl⟩
              have hb1 : V1.heap[g8]? = some (.cells #[.string nm, .string vl, .string pa, .int .i64 ag, .bool hs, .bool true, .bool true, .string sm] 37 (0, 0)) := by rw [← hV1]; have q := set_block hb0 5 (.bool true); simpa using q
              have HO1 : Hid (OnlyG g8 wr V1) := by rw [Hid, ← hV1]; exact OnlyG.set g8 5 wr _
              have tV1 := HTC.out V1 (HO1.out.other b (Ne.symm HG8.out.1))
              have cV16 : V1.cell? ⟨g8, 6, none⟩ = some (.bool true) := cell_of_block hb1 rfl
              have fV16 : V1.frozen? ⟨g8, 6, none⟩ = false := free_of_block hb1 _
              have cV15 : V1.cell? ⟨g8, 5, none⟩ = some (.bool true) := cell_of_block hb1 rfl
              have fV15 : V1.frozen? ⟨g8, 5, none⟩ = false := free_of_block hb1 _
              obtain ⟨V2, hV2⟩ : ∃ V2, V1.setCell ⟨g8, 6, none⟩ (.bool true) = V2 := ⟨_, rfl⟩
              have hb2 : V2.heap[g8]? = some (.cells #[.string nm, .string vl, .string pa, .int .i64 ag, .bool hs, .bool true, .bool true, .string sm] 37 (0, 0)) := by rw [← hV2]; have q := set_block hb1 6 (.bool true); simpa using q
              have HO2 : Hid (OnlyG g8 wr V2) := by rw [Hid, ← hV2]; exact (HO1.out).trans (OnlyG.set g8 6 V1 _)
              have tV2 := HTC.out V2 (HO2.out.other b (Ne.symm HG8.out.1))
              have HCF : Hid (CkB V2 g8 (qstep ⟨nm, vl, pa, ag, hs, true, true, sm⟩ t)) := by
                rw [Hid, CkB, hb2, qstep_eq kp]
                rfl
              have k4 := kp.p4
              have k5 := kp.p5
              have H4 : Hid (∀ W : World, _) := fun W => behind_no (t := t) (d := wPath) (by decide) kp.p1 W
              have H5 : Hid (∀ W : World, _) := fun W => behind_no (t := t) (d := wAge) (by decide) kp.p2 W
              have H6 : Hid (∀ W : World, _) := fun W => behind_no (t := t) (d := wSame) (by decide) kp.p3 W
              clear hb0 hb1 hb2 kp HC
              simp only [wPath] at H4
              simp only [wAge] at H5
              simp only [wSame] at H6
              go_wp2_with (first | (go_at_call 38; with_reducible refine (H4.out _).mono ?_; rintro e w' ⟨rfl, rfl⟩) | (go_at_call 38; with_reducible refine (H5.out _).mono ?_; rintro e w' ⟨rfl, rfl⟩) | (go_at_call 38; with_reducible refine (H6.out _).mono ?_; rintro e w' ⟨rfl, rfl⟩))
              go_roundw
              case rel => exact ⟨k + 1, _, by omega, by go_num, HEE.out, HCF.out, (HO2.out.other _ (Ne.symm HG8.out.2.1)).trans HX.out, HTA.out _ HO2.out, HO2.out.below _ _ HG8.out.2.2 HB.out⟩
              case measure => simp [intOf]; omega
        · cases hh with
          | false =>
            cases sc with
            | false =>
              have hb0 : wr.heap[g8]? = some (.cells #[.string nm, .string vl, .string pa, .int .i64 ag, .bool hs, .bool false, .bool false, .string sm] 37 (0, 0)) := HC.out
              have cwr5 : wr.cell? ⟨g8, 5, none⟩ = some (.bool false) := cell_of_block hb0 rfl
              have fwr5 : wr.frozen? ⟨g8, 5, none⟩ = false := free_of_block hb0 _
              have cwr6 : wr.cell? ⟨g8, 6, none⟩ = some (.bool false) := cell_of_block hb0 rfl
              have fwr6 : wr.frozen? ⟨g8, 6, none⟩ = false := free_of_block hb0 _
              obtain ⟨V1, hV1⟩ : ∃ V1, wr.setCell ⟨g8, 5, none⟩ (.bool false) = V1 := ⟨_, rfl⟩
              have hb1 : V1.heap[g8]? = some (.cells #[.string nm, .string vl, .string pa, .int .i64 ag, .bool hs, .bool false, .bool false, .string sm] 37 (0, 0)) := by rw [← hV1]; have q := set_block hb0 5 (.bool false); simpa using q
              have HO1 : Hid (OnlyG g8 wr V1) := by rw [Hid, ← hV1]; exact OnlyG.set g8 5 wr _
              have tV1 := HTC.out V1 (HO1.out.other b (Ne.symm HG8.out.1))
              have cV16 : V1.cell? ⟨g8, 6, none⟩ = some (.bool false) := cell_of_block hb1 rfl
              have fV16 : V1.frozen? ⟨g8, 6, none⟩ = false := free_of_block hb1 _
              have cV15 : V1.cell? ⟨g8, 5, none⟩ = some (.bool false) := cell_of_block hb1 rfl
              have fV15 : V1.frozen? ⟨g8, 5, none⟩ = false := free_of_block hb1 _
              obtain ⟨V2, hV2⟩ : ∃ V2, V1.setCell ⟨g8, 6, none⟩ (.bool true) = V2 := ⟨_, rfl⟩
              have hb2 : V2.heap[g8]? = some (.cells #[.string nm, .string vl, .string pa, .int .i64 ag, .bool hs, .bool false, .bool true, .string sm] 37 (0, 0)) := by rw [← hV2]; have q := set_block hb1 6 (.bool true); simpa using q
              have HO2 : Hid (OnlyG g8 wr V2) := by rw [Hid, ← hV2]; exact (HO1.out).trans (OnlyG.set g8 6 V1 _)
              have tV2 := HTC.out V2 (HO2.out.other b (Ne.symm HG8.out.1))
              have HCF : Hid (CkB V2 g8 (qstep ⟨nm, vl, pa, ag, hs, false, false, sm⟩ t)) := by
                rw [Hid, CkB, hb2, qstep_eq kp]
                rfl
              have k4 := kp.p4
              have k5 := kp.p5
              have H4 : Hid (∀ W : World, _) := fun W => behind_no (t := t) (d := wPath) (by decide) kp.p1 W
              have H5 : Hid (∀ W : World, _) := fun W => behind_no (t := t) (d := wAge) (by decide) kp.p2 W
              have H6 : Hid (∀ W : World, _) := fun W => behind_no (t := t) (d := wSame) (by decide) kp.p3 W
              clear hb0 hb1 hb2 kp HC
              simp only [wPath] at H4
              simp only [wAge] at H5
              simp only [wSame] at H6
              go_wp2_with (first | (go_at_call 38; with_reducible refine (H4.out _).mono ?_; rintro e w' ⟨rfl, rfl⟩) | (go_at_call 38; with_reducible refine (H5.out _).mono ?_; rintro e w' ⟨rfl, rfl⟩) | (go_at_call 38; with_reducible refine (H6.out _).mono ?_; rintro e w' ⟨rfl, rfl⟩))
              go_roundw
              case rel => exact ⟨k + 1, _, by omega, by go_num, HEE.out, HCF.out, (HO2.out.other _ (Ne.symm HG8.out.2.1)).trans HX.out, HTA.out _ HO2.out, HO2.out.below _ _ HG8.out.2.2 HB.out⟩
              case measure => simp [intOf]; omega
            | true =>
              have hb0 : wr.heap[g8]? = some (.cells #[.string nm, .string vl, .string pa, .int .i64 ag, .bool hs, .bool false, .bool true, .string sm] 37 (0, 0)) := HC.out
              have cwr5 : wr.cell? ⟨g8, 5, none⟩ = some (.bool false) := cell_of_block hb0 rfl
              have fwr5 : wr.frozen? ⟨g8, 5, none⟩ = false := free_of_block hb0 _
              have cwr6 : wr.cell? ⟨g8, 6, none⟩ = some (.bool true) := cell_of_block hb0 rfl
              have fwr6 : wr.frozen? ⟨g8, 6, none⟩ = false := free_of_block hb0 _
              obtain ⟨V1, hV1⟩ : ∃ V1, wr.setCell ⟨g8, 5, none⟩ (.bool false) = V1 := ⟨_, rfl⟩
              have hb1 : V1.heap[g8]? = some (.cells #[.string nm, .string vl, .string pa, .int .i64 ag, .bool hs, .bool false, .bool true, .string sm] 37 (0, 0)) := by rw [← hV1]; have q := set_block hb0 5 (.bool false); simpa using q
              have HO1 : Hid (OnlyG g8 wr V1) := by rw [Hid, ← hV1]; exact OnlyG.set g8 5 wr _
              have tV1 := HTC.out V1 (HO1.out.other b (Ne.symm HG8.out.1))
              have cV16 : V1.cell? ⟨g8, 6, none⟩ = some (.bool true) := cell_of_block hb1 rfl
              have fV16 : V1.frozen? ⟨g8, 6, none⟩ = false := free_of_block hb1 _
              have cV15 : V1.cell? ⟨g8, 5, none⟩ = some (.bool false) := cell_of_block hb1 rfl
              have fV15 : V1.frozen? ⟨g8, 5, none⟩ = false := free_of_block hb1 _
              obtain ⟨V2, hV2⟩ : ∃ V2, V1.setCell ⟨g8, 6, none⟩ (.bool true) = V2 := ⟨_, rfl⟩
              have hb2 : V2.heap[g8]? = some (.cells #[.string nm, .string vl, .string pa, .int .i64 ag, .bool hs, .bool false, .bool true, .string sm] 37 (0, 0)) := by rw [← hV2]; have q := set_block hb1 6 (.bool true); simpa using q
              have HO2 : Hid (OnlyG g8 wr V2) := by rw [Hid, ← hV2]; exact (HO1.out).trans (OnlyG.set g8 6 V1 _)
              have tV2 := HTC.out V2 (HO2.out.other b (Ne.symm HG8.out.1))
              have HCF : Hid (CkB V2 g8 (qstep ⟨nm, vl, pa, ag, hs, false, true, sm⟩ t)) := by
                rw [Hid, CkB, hb2, qstep_eq kp]
                rfl
              have k4 := kp.p4
              have k5 := kp.p5
              have H4 : Hid (∀ W : World, _) := fun W => behind_no (t := t) (d := wPath) (by decide) kp.p1 W
              have H5 : Hid (∀ W : World, _) := fun W => behind_no (t := t) (d := wAge) (by decide) kp.p2 W
              have H6 : Hid (∀ W : World, _) := fun W => behind_no (t := t) (d := wSame) (by decide) kp.p3 W
              clear hb0 hb1 hb2 kp HC
              simp only [wPath] at H4
              simp only [wAge] at H5
              simp only [wSame] at H6
              go_wp2_with (first | (go_at_call 38; with_reducible refine (H4.out _).mono ?_; rintro e w' ⟨rfl, rfl⟩) | (go_at_call 38; with_reducible refine (H5.out _).mono ?_; rintro e w' ⟨rfl, rfl⟩) | (go_at_call 38; with_reducible refine (H6.out _).mono ?_; rintro e w' ⟨rfl, rfl⟩))
              go_roundw
              case rel => exact ⟨k + 1, _, by omega, by go_num, HEE.out, HCF.out, (HO2.out.other _ (Ne.symm HG8.out.2.1)).trans HX.out, HTA.out _ HO2.out, HO2.out.below _ _ HG8.out.2.2 HB.out⟩
              case measure => simp [intOf]; omega
          | true =>
            cases sc with
            | false =>
              have hb0 : wr.heap[g8]? = some (.cells #[.string nm, .string vl, .string pa, .int .i64 ag, .bool hs, .bool true, .bool false, .string sm] 37 (0, 0)) := HC.out
              have cwr5 : wr.cell? ⟨g8, 5, none⟩ = some (.bool true) := cell_of_block hb0 rfl
              have fwr5 : wr.frozen? ⟨g8, 5, none⟩ = false := free_of_block hb0 _
              have cwr6 : wr.cell? ⟨g8, 6, none⟩ = some (.bool false) := cell_of_block hb0 rfl
              have fwr6 : wr.frozen? ⟨g8, 6, none⟩ = false := free_of_block hb0 _
              obtain ⟨V1, hV1⟩ : ∃ V1, wr.setCell ⟨g8, 5, none⟩ (.bool true) = V1 := ⟨_, rfl⟩
              have hb1 : V1.heap[g8]? = some (.cells #[.string nm, .string vl, .string pa, .int .i64 ag, .bool hs, .bool true, .bool false, .string sm] 37 (0, 0)) := by rw [← hV1]; have q := set_block hb0 5 (.bool true); simpa using q
              have HO1 : Hid (OnlyG g8 wr V1) := by rw [Hid, ← hV1]; exact OnlyG.set g8 5 wr _
              have tV1 := HTC.out V1 (HO1.out.other b (Ne.symm HG8.out.1))
              have cV16 : V1.cell? ⟨g8, 6, none⟩ = some (.bool false) := cell_of_block hb1 rfl
              have fV16 : V1.frozen? ⟨g8, 6, none⟩ = false := free_of_block hb1 _
              have cV15 : V1.cell? ⟨g8, 5, none⟩ = some (.bool true) := cell_of_block hb1 rfl
              have fV15 : V1.frozen? ⟨g8, 5, none⟩ = false := free_of_block hb1 _
              obtain ⟨V2, hV2⟩ : ∃ V2, V1.setCell ⟨g8, 6, none⟩ (.bool true) = V2 := ⟨_, rfl⟩
              have hb2 : V2.heap[g8]? = some (.cells #[.string nm, .string vl, .string pa, .int .i64 ag, .bool hs, .bool true, .bool true, .string sm] 37 (0, 0)) := by rw [← hV2]; have q := set_block hb1 6 (.bool true); simpa using q
              have HO2 : Hid (OnlyG g8 wr V2) := by rw [Hid, ← hV2]; exact (HO1.out).trans (OnlyG.set g8 6 V1 _)
              have tV2 := HTC.out V2 (HO2.out.other b (Ne.symm HG8.out.1))
              have HCF : Hid (CkB V2 g8 (qstep ⟨nm, vl, pa, ag, hs, true, false, sm⟩ t)) := by
                rw [Hid, CkB, hb2, qstep_eq kp]
                rfl
              have k4 := kp.p4
              have k5 := kp.p5
              have H4 : Hid (∀ W : World, _) := fun W => behind_no (t := t) (d := wPath) (by decide) kp.p1 W
              have H5 : Hid (∀ W : World, _) := fun W => behind_no (t := t) (d := wAge) (by decide) kp.p2 W
              have H6 : Hid (∀ W : World, _) := fun W => behind_no (t := t) (d := wSame) (by decide) kp.p3 W
              clear hb0 hb1 hb2 kp HC
              simp only [wPath] at H4
              simp only [wAge] at H5
              simp only [wSame] at H6
              go_wp2_with (first | (go_at_call 38; with_reducible refine (H4.out _).mono ?_; rintro e w' ⟨rfl, rfl⟩) | (go_at_call 38; with_reducible refine (H5.out _).mono ?_; rintro e w' ⟨rfl, rfl⟩) | (go_at_call 38; with_reducible refine (H6.out _).mono ?_; rintro e w' ⟨rfl, rfl⟩))
              go_roundw
              case rel => exact ⟨k + 1, _, by omega, by go_num, HEE.out, HCF.out, (HO2.out.other _ (Ne.symm HG8.out.2.1)).trans HX.out, HTA.out _ HO2.out, HO2.out.below _ _ HG8.out.2.2 HB.out⟩
              case measure => simp [intOf]; omega
            | true =>
              have hb0 : wr.heap[g8]? = some (.cells #[.string nm, .string vl, .string pa, .int .i64 ag, .bool hs, .bool true, .bool true, .string sm] 37 (0, 0)) := HC.out
              have cwr5 : wr.cell? ⟨g8, 5, none⟩ = some (.bool true) := cell_of_block hb0 rfl
              have fwr5 : wr.frozen? ⟨g8, 5, none⟩ = false := free_of_block hb0 _
              have cwr6 : wr.cell? ⟨g8, 6, none⟩ = some (.bool true) := cell_of_block hb0 rfl
              have fwr6 : wr.frozen? ⟨g8, 6, none⟩ = false := free_of_block hb0 _
              obtain ⟨V1, hV1⟩ : ∃ V1, wr.setCell ⟨g8, 5, none⟩ (.bool true) = V1 := ⟨_, rfl⟩
              have hb1 : V1.heap[g8]? = some (.cells #[.string nm, .string vl, .string pa, .int .i64 ag, .bool hs, .bool true, .bool true, .string sm] 37 (0, 0)) := by rw [← hV1]; have q := set_block hb0 5 (.bool true); simpa using q
              have HO1 : Hid (OnlyG g8 wr V1) := by rw [Hid, ← hV1]; exact OnlyG.set g8 5 wr _
              have tV1 := HTC.out V1 (HO1.out.other b (Ne.symm HG8.out.1))
              have cV16 : V1.cell? ⟨g8, 6, none⟩ = some (.bool true) := cell_of_block hb1 rfl
              have fV16 : V1.frozen? ⟨g8, 6, none⟩ = false := free_of_block hb1 _
              have cV15 : V1.cell? ⟨g8, 5, none⟩ = some (.bool true) := cell_of_block hb1 rfl
              have fV15 : V1.frozen? ⟨g8, 5, none⟩ = false := free_of_block hb1 _
              obtain ⟨V2, hV2⟩ : ∃ V2, V1.setCell ⟨g8, 6, none⟩ (.bool true) = V2 := ⟨_, rfl⟩
              have hb2 : V2.heap[g8]? = some (.cells #[.string nm, .string vl, .string pa, .int .i64 ag, .bool hs, .bool true, .bool true, .string sm] 37 (0, 0)) := by rw [← hV2]; have q := set_block hb1 6 (.bool true); simpa using q
              have HO2 : Hid (OnlyG g8 wr V2) := by rw [Hid, ← hV2]; exact (HO1.out).trans (OnlyG.set g8 6 V1 _)
              have tV2 := HTC.out V2 (HO2.out.other b (Ne.symm HG8.out.1))
              have HCF : Hid (CkB V2 g8 (qstep ⟨nm, vl, pa, ag, hs, true, true, sm⟩ t)) := by
                rw [Hid, CkB, hb2, qstep_eq kp]
                rfl
              have k4 := kp.p4
              have k5 := kp.p5
              have H4 : Hid (∀ W : World, _) := fun W => behind_no (t := t) (d := wPath) (by decide) kp.p1 W
              have H5 : Hid (∀ W : World, _) := fun W => behind_no (t := t) (d := wAge) (by decide) kp.p2 W
              have H6 : Hid (∀ W : World, _) := fun W => behind_no (t := t) (d := wSame) (by decide) kp.p3 W
              clear hb0 hb1 hb2 kp HC
              simp only [wPath] at H4
              simp only [wAge] at H5
              simp only [wSame] at H6
              go_wp2_with (first | (go_at_call 38; with_reducible refine (H4.out _).mono ?_; rintro e w' ⟨rfl, rfl⟩) | (go_at_call 38; with_reducible refine (H5.out _).mono ?_; rintro e w' ⟨rfl, rfl⟩) | (go_at_call 38; with_reducible refine (H6.out _).mono ?_; rintro e w' ⟨rfl, rfl⟩))
              go_roundw
              case rel => exact ⟨k + 1, _, by omega, by go_num, HEE.out, HCF.out, (HO2.out.other _ (Ne.symm HG8.out.2.1)).trans HX.out, HTA.out _ HO2.out, HO2.out.below _ _ HG8.out.2.2 HB.out⟩
              case measure => simp [intOf]; omega
        · cases hh with
          | false =>
            cases sc with
            | false =>
              have hb0 : wr.heap[g8]? = some (.cells #[.string nm, .string vl, .string pa, .int .i64 ag, .bool hs, .bool false, .bool false, .string sm] 37 (0, 0)) := HC.out
              have cwr5 : wr.cell? ⟨g8, 5, none⟩ = some (.bool false) := cell_of_block hb0 rfl
              have fwr5 : wr.frozen? ⟨g8, 5, none⟩ = false := free_of_block hb0 _
              have cwr6 : wr.cell? ⟨g8, 6, none⟩ = some (.bool false) := cell_of_block hb0 rfl
              have fwr6 : wr.frozen? ⟨g8, 6, none⟩ = false := free_of_block hb0 _
              obtain ⟨V1, hV1⟩ : ∃ V1, wr.setCell ⟨g8, 5, none⟩ (.bool false) = V1 := ⟨_, rfl⟩
              have hb1 : V1.heap[g8]? = some (.cells #[.string nm, .string vl, .string pa, .int .i64 ag, .bool hs, .bool false, .bool false, .string sm] 37 (0, 0)) := by rw [← hV1]; have q := set_block hb0 5 (.bool false); simpa using q
              have HO1 : Hid (OnlyG g8 wr V1) := by rw [Hid, ← hV1]; exact OnlyG.set g8 5 wr _
              have tV1 := HTC.out V1 (HO1.out.other b (Ne.symm HG8.out.1))
              have cV16 : V1.cell? ⟨g8, 6, none⟩ = some (.bool false) := cell_of_block hb1 rfl
              have fV16 : V1.frozen? ⟨g8, 6, none⟩ = false := free_of_block hb1 _
              have cV15 : V1.cell? ⟨g8, 5, none⟩ = some (.bool false) := cell_of_block hb1 rfl
              have fV15 : V1.frozen? ⟨g8, 5, none⟩ = false := free_of_block hb1 _
              obtain ⟨V2, hV2⟩ : ∃ V2, V1.setCell ⟨g8, 6, none⟩ (.bool false) = V2 := ⟨_, rfl⟩
              have hb2 : V2.heap[g8]? = some (.cells #[.string nm, .string vl, .string pa, .int .i64 ag, .bool hs, .bool false, .bool false, .string sm] 37 (0, 0)) := by rw [← hV2]; have q := set_block hb1 6 (.bool false); simpa using q
              have HO2 : Hid (OnlyG g8 wr V2) := by rw [Hid, ← hV2]; exact (HO1.out).trans (OnlyG.set g8 6 V1 _)
              have tV2 := HTC.out V2 (HO2.out.other b (Ne.symm HG8.out.1))
              have HCF : Hid (CkB V2 g8 (qstep ⟨nm, vl, pa, ag, hs, false, false, sm⟩ t)) := by
                rw [Hid, CkB, hb2, qstep_eq kp]
                rfl
              have k4 := kp.p4
              have k5 := kp.p5
              have H4 : Hid (∀ W : World, _) := fun W => behind_no (t := t) (d := wPath) (by decide) kp.p1 W
              have H5 : Hid (∀ W : World, _) := fun W => behind_no (t := t) (d := wAge) (by decide) kp.p2 W
              have H6 : Hid (∀ W : World, _) := fun W => behind_no (t := t) (d := wSame) (by decide) kp.p3 W
              clear hb0 hb1 hb2 kp HC
              simp only [wPath] at H4
              simp only [wAge] at H5
              simp only [wSame] at H6
              go_wp2_with (first | (go_at_call 38; with_reducible refine (H4.out _).mono ?_; rintro e w' ⟨rfl, rfl⟩) | (go_at_call 38; with_reducible refine (H5.out _).mono ?_; rintro e w' ⟨rfl, rfl⟩) | (go_at_call 38; with_reducible refine (H6.out _).mono ?_; rintro e w' ⟨rfl, rfl⟩))
              go_roundw
              case rel => exact ⟨k + 1, _, by omega, by go_num, HEE.out, HCF.out, (HO2.out.other _ (Ne.symm HG8.out.2.1)).trans HX.out, HTA.out _ HO2.out, HO2.out.below _ _ HG8.out.2.2 HB.out⟩
              case measure => simp [intOf]; omega
            | true =>
              have hb0 : wr.heap[g8]? = some (.cells #[.string nm, .string vl, .string pa, .int .i64 ag, .bool hs, .bool false, .bool true, .string sm] 37 (0, 0)) := HC.out
              have cwr5 : wr.cell? ⟨g8, 5, none⟩ = some (.bool false) := cell_of_block hb0 rfl
              have fwr5 : wr.frozen? ⟨g8, 5, none⟩ = false := free_of_block hb0 _
              have cwr6 : wr.cell? ⟨g8, 6, none⟩ = some (.bool true) := cell_of_block hb0 rfl
              have fwr6 : wr.frozen? ⟨g8, 6, none⟩ = false := free_of_block hb0 _
              obtain ⟨V1, hV1⟩ : ∃ V1, wr.setCell ⟨g8, 5, none⟩ (.bool false) = V1 := ⟨_, rfl⟩
              have hb1 : V1.heap[g8]? = some (.cells #[.string nm, .string vl, .string pa, .int .i64 ag, .bool hs, .bool false, .bool true, .string sm] 37 (0, 0)) := by rw [← hV1]; have q := set_block hb0 5 (.bool false); simpa using q
              have HO1 : Hid (OnlyG g8 wr V1) := by rw [Hid, ← hV1]; exact OnlyG.set g8 5 wr _
              have tV1 := HTC.out V1 (HO1.out.other b (Ne.symm HG8.out.1))
              have cV16 : V1.cell? ⟨g8, 6, none⟩ = some (.bool true) := cell_of_block hb1 rfl
              have fV16 : V1.frozen? ⟨g8, 6, none⟩ = false := free_of_block hb1 _
              have cV15 : V1.cell? ⟨g8, 5, none⟩ = some (.bool false) := cell_of_block hb1 rfl
              have fV15 : V1.frozen? ⟨g8, 5, none⟩ = false := free_of_block hb1 _
              obtain ⟨V2, hV2⟩ : ∃ V2, V1.setCell ⟨g8, 6, none⟩ (.bool true) = V2 := ⟨_, rfl⟩
              have hb2 : V2.heap[g8]? = some (.cells #[.string nm, .string vl, .string pa, .int .i64 ag, .bool hs, .bool false, .bool true, .string sm] 37 (0, 0)) := by rw [← hV2]; have q := set_block hb1 6 (.bool true); simpa using q
              have HO2 : Hid (OnlyG g8 wr V2) := by rw [Hid, ← hV2]; exact (HO1.out).trans (OnlyG.set g8 6 V1 _)
              have tV2 := HTC.out V2 (HO2.out.other b (Ne.symm HG8.out.1))
              have HCF : Hid (CkB V2 g8 (qstep ⟨nm, vl, pa, ag, hs, false, true, sm⟩ t)) := by
                rw [Hid, CkB, hb2, qstep_eq kp]
                rfl
              have k4 := kp.p4
              have k5 := kp.p5
              have H4 : Hid (∀ W : World, _) := fun W => behind_no (t := t) (d := wPath) (by decide) kp.p1 W
              have H5 : Hid (∀ W : World, _) := fun W => behind_no (t := t) (d := wAge) (by decide) kp.p2 W
              have H6 : Hid (∀ W : World, _) := fun W => behind_no (t := t) (d := wSame) (by decide) kp.p3 W
              clear hb0 hb1 hb2 kp HC
              simp only [wPath] at H4
              simp only [wAge] at H5
              simp only [wSame] at H6
              go_wp2_with (first | (go_at_call 38; with_reducible refine (H4.out _).mono ?_; rintro e w' ⟨rfl, rfl⟩) | (go_at_call 38; with_reducible refine (H5.out _).mono ?_; rintro e w' ⟨rfl, rfl⟩) | (go_at_call 38; with_reducible refine (H6.out _).mono ?_; rintro e w' ⟨rfl, rfl⟩))
              go_roundw
              case rel => exact ⟨k + 1, _, by omega, by go_num, HEE.out, HCF.out, (HO2.out.other _ (Ne.symm HG8.out.2.1)).trans HX.out, HTA.out _ HO2.out, HO2.out.below _ _ HG8.out.2.2 HB.out⟩
              case measure => simp [intOf]; omega
          | true =>
            cases sc with
            | false =>
              have hb0 : wr.heap[g8]? = some (.cells #[.string nm, .string vl, .string pa, .int .i64 ag, .bool hs, .bool true, .bool false, .string sm] 37 (0, 0)) := HC.out
              have cwr5 : wr.cell? ⟨g8, 5, none⟩ = some (.bool true) := cell_of_block hb0 rfl
              have fwr5 : wr.frozen? ⟨g8, 5, none⟩ = false := free_of_block hb0 _
              have cwr6 : wr.cell? ⟨g8, 6, none⟩ = some (.bool false) := cell_of_block hb0 rfl
              have fwr6 : wr.frozen? ⟨g8, 6, none⟩ = false := free_of_block hb0 _
              obtain ⟨V1, hV1⟩ : ∃ V1, wr.setCell ⟨g8, 5, none⟩ (.bool true) = V1 := ⟨_, rfl⟩
              have hb1 : V1.heap[g8]? = some (.cells #[.string nm, .string vl, .string pa, .int .i64 ag, .bool hs, .bool true, .bool false, .string sm] 37 (0, 0)) := by rw [← hV1]; have q := set_block hb0 5 (.bool true); simpa using q
              have HO1 : Hid (OnlyG g8 wr V1) := by rw [Hid, ← hV1]; exact OnlyG.set g8 5 wr _
              have tV1 := HTC.out V1 (HO1.out.other b (Ne.symm HG8.out.1))
              have cV16 : V1.cell? ⟨g8, 6, none⟩ = some (.bool false) := cell_of_block hb1 rfl
              have fV16 : V1.frozen? ⟨g8, 6, none⟩ = false := free_of_block hb1 _
              have cV15 : V1.cell? ⟨g8, 5, none⟩ = some (.bool true) := cell_of_block hb1 rfl
              have fV15 : V1.frozen? ⟨g8, 5, none⟩ = false := free_of_block hb1 _
              obtain ⟨V2, hV2⟩ : ∃ V2, V1.setCell ⟨g8, 6, none⟩ (.bool false) = V2 := ⟨_, rfl⟩
              have hb2 : V2.heap[g8]? = some (.cells #[.string nm, .string vl, .string pa, .int .i64 ag, .bool hs, .bool true, .bool false, .string sm] 37 (0, 0)) := by rw [← hV2]; have q := set_block hb1 6 (.bool false); simpa using q
              have HO2 : Hid (OnlyG g8 wr V2) := by rw [Hid, ← hV2]; exact (HO1.out).trans (OnlyG.set g8 6 V1 _)
              have tV2 := HTC.out V2 (HO2.out.other b (Ne.symm HG8.out.1))
              have HCF : Hid (CkB V2 g8 (qstep ⟨nm, vl, pa, ag, hs, true, false, sm⟩ t)) := by
                rw [Hid, CkB, hb2, qstep_eq kp]
                rfl
              have k4 := kp.p4
              have k5 := kp.p5
              have H4 : Hid (∀ W : World, _) := fun W => behind_no (t := t) (d := wPath) (by decide) kp.p1 W
              have H5 : Hid (∀ W : World, _) := fun W => behind_no (t := t) (d := wAge) (by decide) kp.p2 W
              have H6 : Hid (∀ W : World, _) := fun W => behind_no (t := t) (d := wSame) (by decide) kp.p3 W
              clear hb0 hb1 hb2 kp HC
              simp only [wPath] at H4
              simp only [wAge] at H5
              simp only [wSame] at H6
              go_wp2_with (first | (go_at_call 38; with_reducible refine (H4.out _).mono ?_; rintro e w' ⟨rfl, rfl⟩) | (go_at_call 38; with_reducible refine (H5.out _).mono ?_; rintro e w' ⟨rfl, rfl⟩) | (go_at_call 38; with_reducible refine (H6.out _).mono ?_; rintro e w' ⟨rfl, rfl⟩))
              go_roundw
              case rel => exact ⟨k + 1, _, by omega, by go_num, HEE.out, HCF.out, (HO2.out.other _ (Ne.symm HG8.out.2.1)).trans HX.out, HTA.out _ HO2.out, HO2.out.below _ _ HG8.out.2.2 HB.out⟩
              case measure => simp [intOf]; omega
            | true =>
              have hb0 : wr.heap[g8]? = some (.cells #[.string nm, .string vl, .string pa, .int .i64 ag, .bool hs, .bool true, .bool true, .string sm] 37 (0, 0)) := HC.out
              have cwr5 : wr.cell? ⟨g8, 5, none⟩ = some (.bool true) := cell_of_block hb0 rfl
              have fwr5 : wr.frozen? ⟨g8, 5, none⟩ = false := free_of_block hb0 _
              have cwr6 : wr.cell? ⟨g8, 6, none⟩ = some (.bool true) := cell_of_block hb0 rfl
              have fwr6 : wr.frozen? ⟨g8, 6, none⟩ = false := free_of_block hb0 _
              obtain ⟨V1, hV1⟩ : ∃ V1, wr.setCell ⟨g8, 5, none⟩ (.bool true) = V1 := ⟨_, rfl⟩
              have hb1 : V1.heap[g8]? = some (.cells #[.string nm, .string vl, .string pa, .int .i64 ag, .bool hs, .bool true, .bool true, .string sm] 37 (0, 0)) := by rw [← hV1]; have q := set_block hb0 5 (.bool true); simpa using q
              have HO1 : Hid (OnlyG g8 wr V1) := by rw [Hid, ← hV1]; exact OnlyG.set g8 5 wr _
              have tV1 := HTC.out V1 (HO1.out.other b (Ne.symm HG8.out.1))
              have cV16 : V1.cell? ⟨g8, 6, none⟩ = some (.bool true) := cell_of_block hb1 rfl
              have fV16 : V1.frozen? ⟨g8, 6, none⟩ = false := free_of_block hb1 _
              have cV15 : V1.cell? ⟨g8, 5, none⟩ = some (.bool true) := cell_of_block hb1 rfl
              have fV15 : V1.frozen? ⟨g8, 5, none⟩ = false := free_of_block hb1 _
              obtain ⟨V2, hV2⟩ : ∃ V2, V1.setCell ⟨g8, 6, none⟩ (.bool true) = V2 := ⟨_, rfl⟩
              have hb2 : V2.heap[g8]? = some (.cells #[.string nm, .string vl, .string pa, .int .i64 ag, .bool hs, .bool true, .bool true, .string sm] 37 (0, 0)) := by rw [← hV2]; have q := set_block hb1 6 (.bool true); simpa using q
              have HO2 : Hid (OnlyG g8 wr V2) := by rw [Hid, ← hV2]; exact (HO1.out).trans (OnlyG.set g8 6 V1 _)
              have tV2 := HTC.out V2 (HO2.out.other b (Ne.symm HG8.out.1))
              have HCF : Hid (CkB V2 g8 (qstep ⟨nm, vl, pa, ag, hs, true, true, sm⟩ t)) := by
                rw [Hid, CkB, hb2, qstep_eq kp]
                rfl
              have k4 := kp.p4
              have k5 := kp.p5
              have H4 : Hid (∀ W : World, _) := fun W => behind_no (t := t) (d := wPath) (by decide) kp.p1 W
              have H5 : Hid (∀ W : World, _) := fun W => behind_no (t := t) (d := wAge) (by decide) kp.p2 W
              have H6 : Hid (∀ W : World, _) := fun W => behind_no (t := t) (d := wSame) (by decide) kp.p3 W
              clear hb0 hb1 hb2 kp HC
              simp only [wPath] at H4
              simp only [wAge] at H5
              simp only [wSame] at H6
              go_wp2_with (first | (go_at_call 38; with_reducible refine (H4.out _).mono ?_; rintro e w' ⟨rfl, rfl⟩) | (go_at_call 38; with_reducible refine (H5.out _).mono ?_; rintro e w' ⟨rfl, rfl⟩) | (go_at_call 38; with_reducible refine (H6.out _).mono ?_; rintro e w' ⟨rfl, rfl⟩))
              go_roundw
              case rel => exact ⟨k + 1, _, by omega, by go_num, HEE.out, HCF.out, (HO2.out.other _ (Ne.symm HG8.out.2.1)).trans HX.out, HTA.out _ HO2.out, HO2.out.below _ _ HG8.out.2.2 HB.out⟩
              case measure => simp [intOf]; omega
      · have hkz : ¬ ((k : Int) + 1 < (n : Int) + 1) := by omega
        have HQQ : Hid (Q = c) := by rw [Hid, HE.out, List.drop_eq_nil_of_le (by rw [HNL.out]; omega)]; rfl
        have HCQ : Hid (CkB wr g8 Q) := by rw [HQQ.out]; exact HC.out
        obtain ⟨c0, c1, c2, c3, c4, c5, c6, c7⟩ := ck_cells HCQ.out
        go_wp2_with fail
        refine (H3.out _).mono ?_
        rintro e w4 ⟨rfl, b4⟩
        have HB4 : Hid (Below w.heap.size w w4) := HB.out.trans (b4.mono HB.out.size)
        have HX4 : Hid (CkB w4 w.heap.size ckN) := HX.out.below b4
        have HC4 : Hid (CkB w4 g8 Q) := HCQ.out.below b4
        clear b4 c0 c1 c2 c3 c4 c5 c6 c7 H3
        obtain ⟨rs, re⟩ := R
        simp only at hcut
        rcases hcut with h0 | h0
        · subst h0
          by_cases hv : rs = v
          · have HRR : Hid (T = (Q, 0)) := HG.out (by rw [hv])
            have hne := toList_eq' hv
            clear hv HG HF
            obtain ⟨c0, c1, c2, c3, c4, c5, c6, c7⟩ := ck_cells HC4.out
            obtain ⟨k0, k1, k2, k3, k4, k5, k6, k7⟩ := ck_cells HX4.out
            have f0 := CkB.free HX4.out 0
            have f1 := CkB.free HX4.out 1
            have f2 := CkB.free HX4.out 2
            have f3 := CkB.free HX4.out 3
            have f4 := CkB.free HX4.out 4
            have f5 := CkB.free HX4.out 5
            have f6 := CkB.free HX4.out 6
            have f7 := CkB.free HX4.out 7
            simp only [ckN, ck0] at k0 k1 k2 k3 k4 k5 k6 k7
            obtain ⟨W9, hW9⟩ : ∃ W9, set8 w4 w.heap.size Q = W9 := ⟨_, rfl⟩
            have HX9 : CkB W9 w.heap.size Q := by rw [← hW9]; exact set8_box HX4.out Q
            have HB9 : Hid (Below w.heap.size w W9) := by rw [Hid, ← hW9]; exact set8_below HB4.out (Nat.le_refl _) Q
            obtain ⟨x0, x1, x2, x3, x4, x5, x6, x7⟩ := ck_cells HX9
            unfold set8 at hW9
            have HW9 : Hid _ := hW9
            clear HX9 hW9
            go_wp2_with fail
            rw [HW9.out]
            refine bodyPost_ret (v := .tuple #[.agg #[.string Q.name, .string Q.value, .string Q.path, .int .i64 Q.age, .bool Q.has, .bool Q.http, .bool Q.sec, .string Q.same], .int .i64 0]) ?_ rfl ⟨by rw [HRR.out]; rfl, HB9.out⟩
            rw [results_cell_tmp rfl]
            go_simp
          · have HRR : Hid (T = (ckN, 190)) := HF.out (fun e => hv (congrArg Prod.fst e))
            have hne := toList_ne hv
            clear hv HG HF
            obtain ⟨k0, k1, k2, k3, k4, k5, k6, k7⟩ := ck_cells HX4.out
            have f0 := CkB.free HX4.out 0
            have f1 := CkB.free HX4.out 1
            have f2 := CkB.free HX4.out 2
            have f3 := CkB.free HX4.out 3
            have f4 := CkB.free HX4.out 4
            have f5 := CkB.free HX4.out 5
            have f6 := CkB.free HX4.out 6
            have f7 := CkB.free HX4.out 7
            simp only [ckN, ck0] at k0 k1 k2 k3 k4 k5 k6 k7
            obtain ⟨W9, hW9⟩ : ∃ W9, set8 w4 w.heap.size ckN = W9 := ⟨_, rfl⟩
            have HX9 : CkB W9 w.heap.size ckN := by rw [← hW9]; exact set8_box HX4.out ckN
            have HB9 : Hid (Below w.heap.size w W9) := by rw [Hid, ← hW9]; exact set8_below HB4.out (Nat.le_refl _) ckN
            obtain ⟨x0, x1, x2, x3, x4, x5, x6, x7⟩ := ck_cells HX9
            unfold set8 at hW9
            simp only [ckN, ck0] at hW9 x0 x1 x2 x3 x4 x5 x6 x7
            have HW9 : Hid _ := hW9
            clear HX9 hW9
            go_wp2_with fail
            rw [HW9.out]
            refine bodyPost_ret (v := .tuple #[.agg #[.string ⟨#[]⟩, .string ⟨#[]⟩, .string ⟨#[]⟩, .int .i64 0, .bool false, .bool false, .bool false, .string ⟨#[]⟩], .int .i64 190]) ?_ rfl ⟨by rw [HRR.out]; rfl, HB9.out⟩
            rw [results_cell_tmp rfl]
            go_simp
            try rfl
        · obtain ⟨rfl, rfl⟩ : rs = ⟨#[]⟩ ∧ re = 190 := by cases h0; exact ⟨rfl, rfl⟩
          have HRR : Hid (T = (ckN, 190)) := HF.out (fun e => by have := congrArg Prod.snd e; cases this)
          clear h0 HG HF
          obtain ⟨k0, k1, k2, k3, k4, k5, k6, k7⟩ := ck_cells HX4.out
          have f0 := CkB.free HX4.out 0
          have f1 := CkB.free HX4.out 1
          have f2 := CkB.free HX4.out 2
          have f3 := CkB.free HX4.out 3
          have f4 := CkB.free HX4.out 4
          have f5 := CkB.free HX4.out 5
          have f6 := CkB.free HX4.out 6
          have f7 := CkB.free HX4.out 7
          simp only [ckN, ck0] at k0 k1 k2 k3 k4 k5 k6 k7
          obtain ⟨W9, hW9⟩ : ∃ W9, set8 w4 w.heap.size ckN = W9 := ⟨_, rfl⟩
          have HX9 : CkB W9 w.heap.size ckN := by rw [← hW9]; exact set8_box HX4.out ckN
          have HB9 : Hid (Below w.heap.size w W9) := by rw [Hid, ← hW9]; exact set8_below HB4.out (Nat.le_refl _) ckN
          obtain ⟨x0, x1, x2, x3, x4, x5, x6, x7⟩ := ck_cells HX9
          unfold set8 at hW9
          simp only [ckN, ck0] at hW9 x0 x1 x2 x3 x4 x5 x6 x7
          have HW9 : Hid _ := hW9
          clear HX9 hW9
          go_wp2_with fail
          rw [HW9.out]
          refine bodyPost_ret (v := .tuple #[.agg #[.string ⟨#[]⟩, .string ⟨#[]⟩, .string ⟨#[]⟩, .int .i64 0, .bool false, .bool false, .bool false, .string ⟨#[]⟩], .int .i64 190]) ?_ rfl ⟨by rw [HRR.out]; rfl, HB9.out⟩
          rw [results_cell_tmp rfl]
          go_simp
          try rfl
end Go.Proofs.YtimabpfahhbadaaDoor
