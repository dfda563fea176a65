/-
  The contract of the twin's Parse.
-/
import Derived.Test.YthhhoppmbimeiaaDoorQHe
namespace Go.Proofs.YthhhoppmbimeiaaDoor
open Go.RowKit
theorem four_eq {s : ByteArray} {k : Nat} (h : k + 4 ≤ s.size) : ((s.extract k (k + 4)).toList == [13, 10, 13, 10]) = decide (end4 s k) := by
  have hz : (s.extract k (k + 4)).size = 4 := by rw [sub_size h]; omega
  rw [Bool.eq_iff_iff, beq_iff_eq, decide_eq_true_eq, ByteArray.toList_eq]
  have e : ∀ j, j < 4 → (s.extract k (k + 4)).data.toList[j]? = some (UInt8.ofNat (byteAt s (k + j))) := fun j hj => by
    rw [byteAt_getL (by omega), sub_byte (by omega)]
  have hl : (s.extract k (k + 4)).data.toList.length = 4 := by
    have : (s.extract k (k + 4)).data.toList.length = (s.extract k (k + 4)).size := by rw [Array.length_toList]; rfl
    omega
  constructor
  · intro q
    have e0 := e 0 (by omega); have e1 := e 1 (by omega); have e2 := e 2 (by omega); have e3 := e 3 (by omega)
    rw [q] at e0 e1 e2 e3
    simp only [List.getElem?_cons_zero, List.getElem?_cons_succ, Option.some.injEq] at e0 e1 e2 e3
    have f : ∀ j (c : UInt8), c = UInt8.ofNat (byteAt s j) → byteAt s j = c.toNat := fun j c hc => by rw [hc, UInt8.toNat_ofNat_of_lt' (byteAt_lt s j)]
    exact ⟨by omega, f _ _ e0, f _ _ e1, f _ _ e2, f _ _ e3⟩
  · rintro ⟨_, h0, h1, h2, h3⟩
    apply List.ext_getElem?
    intro j
    by_cases hj : j < 4
    · rw [e j hj]
      match j, hj with
      | 0, _ => rw [Nat.add_zero, h0]; rfl
      | 1, _ => rw [h1]; rfl
      | 2, _ => rw [h2]; rfl
      | 3, _ => rw [h3]; rfl
    · rw [List.getElem?_eq_none (by omega), List.getElem?_eq_none (by simp; omega)]
/-- What the twin's head comes to at a head of s. -/
theorem head_both {s : ByteArray} {k : Nat} (hk : ix4 s = some k) : ∃ fs ok, QF (lineR (s.extract 0 (k + 4))).2.1 fs ok ∧ fs.length ≤ 4096 ∧ (∀ f ∈ fs, fdOk f) ∧
    (qGood (s.extract 0 (k + 4)) fs ok = false → parseR s = noPs 170) ∧
    (qGood (s.extract 0 (k + 4)) fs ok = true → ∀ m tg, firstR (lineR (s.extract 0 (k + 4))).1 = some (m, tg) → parseR s = if (lenR fs).2 ≠ 0 then noPs (lenR fs).2 else if s.size < k + 4 + (lenR fs).1.toNat then noPs 4 else ⟨m, tg, fs, s.extract (k + 4) (k + 4 + (lenR fs).1.toNat), clsR fs, k + 4 + (lenR fs).1.toNat, 0⟩) := by
  obtain ⟨E, hz, hle⟩ := ends_of hk
  obtain ⟨_, hk4, _⟩ := ix4_some hk
  obtain ⟨l, ls, h1, h2, h3⟩ := head_lines E
  have e0 : (s.extract 0 (k + 4)).extract 0 ((s.extract 0 (k + 4)).size - 4) = s.extract 0 k := by rw [hz, sub_sub _ _ _ _ _ (by omega)]; simp
  rw [e0] at h1
  have hps := parts_size (sep := crlf) (by decide) 4096 (s.extract 0 k) (by rw [ByteArray.size_extract]; omega)
  rw [show partsOf crlf (s.extract 0 k) = l :: ls from h1] at hps
  have hok := takeF_ok ls 4096 (fun x hx => hps.2 x (List.mem_cons_of_mem _ hx))
  have hll : ls.length ≤ 4096 := by have := hps.1; simp at this; omega
  refine ⟨_, _, h3, by omega, fun f hf => ⟨by have := (hok.2 f hf).1; omega, by have := (hok.2 f hf).2.1; omega⟩, ?_, ?_⟩
  · intro hg
    unfold parseR
    rw [hk]
    show atP s k (rdH (s.extract 0 k)) = _
    unfold rdH
    rw [h1]
    unfold qGood at hg
    rw [h2] at hg
    simp only
    cases hf : firstR l with
    | none => rfl
    | some x =>
      obtain ⟨m, tg⟩ := x
      rw [hf] at hg
      simp only at hg ⊢
      cases ho : (takeF ls).2 with
      | false => rfl
      | true =>
        rw [ho] at hg
        show (if (rightR m tg (takeF ls).1).2 ≠ 0 then noPs (rightR m tg (takeF ls).1).2 else _) = _
        have : rightR m tg (takeF ls).1 = (0, 170) := by
          unfold rightR
          rw [if_neg]
          rintro ⟨a1, a2, a3⟩
          rw [a1, a2, a3] at hg
          cases hg
        rw [this, if_pos (by decide)]
  · intro hg m tg hf
    rw [h2] at hf
    unfold parseR
    rw [hk]
    show atP s k (rdH (s.extract 0 k)) = _
    unfold rdH
    rw [h1]
    unfold qGood at hg
    rw [h2, hf] at hg
    simp only [hf] at hg ⊢
    simp only [Bool.and_eq_true] at hg
    rw [hg.1.2]
    have : rightR m tg (takeF ls).1 = lenR (takeF ls).1 := by
      unfold rightR
      rw [if_pos ⟨hg.1.1.1, hg.1.1.2, hg.2⟩]
    show (if (rightR m tg (takeF ls).1).2 ≠ 0 then _ else _) = _
    rw [this]
theorem lenR_bound (fs : List Fd) : 0 ≤ (lenR fs).1 ∧ (lenR fs).1 ≤ 8192 ∧ ((lenR fs).2 = 0 ∨ (lenR fs).2 = 170 ∨ (lenR fs).2 = 171) := by
  unfold lenR
  cases allF nmLen fs with
  | nil => exact ⟨by decide, by decide, Or.inl rfl⟩
  | cons v l => exact bodyR_bound v
theorem owns_same {W W' : World} {base : Nat} {e : TypeId} {size : Nat} {v : Value} {n : Nat} {xs : List Value} (h : W.ownsRow base e size v n xs) (k : ∀ g, v.ownBlock = some g → W'.heap[g]? = W.heap[g]?) : W'.ownsRow base e size v n xs := by
  refine ⟨h.1, ?_⟩
  rcases h.2 with q | ⟨g, cp, cur, hv, hg, hh, rr⟩
  · exact Or.inl q
  · subst hv
    exact Or.inr ⟨g, cp, cur, rfl, hg, (k g rfl).trans hh, rr⟩
/-- What both Parses leave. -/
def PP (s : ByteArray) (w : World) (e : Ending) (w' : World) : Prop := ∃ a c, e = .returned (psV (parseR s) a c) ∧ FA w'.heap.size w' a (parseR s).fs ∧ Below w.heap.size w w'
theorem PP.no {s : ByteArray} {w w' : World} {e : Int} (h : parseR s = noPs e) (b : Below w.heap.size w w') : PP s w (.returned (psV (noPs e) none 0)) w' := ⟨none, 0, by rw [h], by rw [h]; exact FA.nil _ _ _, b⟩
set_option maxRecDepth 20000 in
set_option maxHeartbeats 8000000 in
theorem qparse_any (s : ByteArray) (w : World) (hs : s.size ≤ 4611686018427387904) : Calls Tryd.prog 9 #[.string s] w (PP s w) := by
  obtain ⟨W0, hW0⟩ : ∃ W0, w.alloc (.cells #[.string ⟨#[]⟩, .string ⟨#[]⟩, .slice none 0 0, .string ⟨#[]⟩, .bool false] 24) = W0 := ⟨_, rfl⟩
  have HB0 : Hid (Below w.heap.size w W0) := by rw [Hid, ← hW0]; exact (Below.refl _ _).alloc (Nat.le_refl _) _
  have HX0 : Hid (RB W0 w.heap.size ⟨#[]⟩ ⟨#[]⟩ (.slice none 0 0) ⟨#[]⟩ false) := by rw [Hid, ← hW0]; exact block_alloc_at _ _
  have HZ0 : Hid (W0.heap.size = w.heap.size + 1) := by rw [Hid, ← hW0]; simp
  obtain ⟨f0, f1, f2, f3, f4⟩ := HX0.out.free
  obtain ⟨k0, k1, k2, k3, k4⟩ := HX0.out.box
  go_enter Tryd.func9, Tryd.ntmps9
  go_wp2_with fail
  try rw [hW0]
  clear hW0
  go_loopw [5, 6] (fun e i wr => ∃ k : Nat, k ≤ 4093 ∧ e = .int .i64 (-1) ∧ i = .int .i64 (k : Nat) ∧ Hid (∀ j, j < k → ¬ end4 s j) ∧ wr = W0) (fun _ i _ => 4093 - (intOf i).toNat)
  case atStart => exact ⟨0, by omega, rfl, rfl, fun j hj => by omega, rfl⟩
  case round =>
    obtain ⟨k, hk3, rfl, rfl, HN, hwr⟩ := hrel
    rw [hwr]
    clear hwr
    by_cases hin : k + 4 ≤ s.size ∧ k + 4 ≤ 4096
    · obtain ⟨hin1, hin2⟩ := hin
      have q0 : (k : Int) + 4 ≤ (s.size : Int) := by omega
      have q1 : (k : Int) + 4 ≤ 4096 := by omega
      have q2 : (0 : Int) ≤ (k : Int) := by omega
      have hfe := four_eq hin1
      by_cases h4 : end4 s k
      · rw [decide_eq_true h4] at hfe
        have hix := ix4_hit h4 hin2 HN.out
        obtain ⟨fs, ok, hQ, hfl, hfo, hgb, hgg⟩ := head_both hix
        have HGB : Hid _ := hgb
        have HGG : Hid _ := hgg
        have hz4 : (s.extract 0 (k + 4)).size ≤ 1000000 := by rw [ByteArray.size_extract]; omega
        have H1 : Hid (∀ W : World, Calls Tryd.prog 25 #[.string (s.extract 0 (k + 4))] W (QHP (s.extract 0 (k + 4)) fs ok W)) := by
          intro W
          by_cases hb : ∀ m tg, firstR (lineR (s.extract 0 (k + 4))).1 = some (m, tg) → (metR m && tarR tg) = false
          · exact qhead_first _ hz4 fs ok W hb
          · simp only [Classical.not_forall] at hb
            obtain ⟨m, tg, hf, hmt⟩ := hb
            rw [Bool.not_eq_false, Bool.and_eq_true] at hmt
            exact qhead_loop _ hz4 fs ok W m tg hf hmt.1 hmt.2 hQ (by omega) hfo
        have HFO : Hid _ := hfo
        have HFL : Hid _ := hfl
        have hkk : (((k : Nat) : Int) + 4).toNat = k + 4 := by omega
        clear hgb hgg hQ hfl hfo hix h4 hz4
        go_wp2_with fail
        refine (H1.out _).mono ?_
        rintro e w2 ⟨r, rfl, b2, hr⟩
        have HB2 : Hid (Below w.heap.size w w2) := HB0.out.trans (b2.mono HB0.out.size)
        have HX2 : Hid (RB w2 w.heap.size ⟨#[]⟩ ⟨#[]⟩ (.slice none 0 0) ⟨#[]⟩ false) := HX0.out.below b2
        have HR : Hid _ := hr
        have HZ2 : Hid (w.heap.size < w2.heap.size) := HX2.out.lt
        clear b2 hr f0 f1 f2 f3 f4 k0 k1 k2 k3 k4
        obtain ⟨mt, tg, ra, rc, rfs, rb, rsh⟩ := r
        simp only [rqV] at *
        obtain ⟨F, hF⟩ : ∃ F, rfs.length = F := ⟨_, rfl⟩
        have HF : Hid _ := hF
        rw [hF] at HR ⊢
        clear hF
        obtain ⟨W3, hW3⟩ : ∃ W3, w2.alloc (.cells #[.string mt, .string tg, .slice ra F rc, .string rb, .bool rsh] 24) = W3 := ⟨_, rfl⟩
        have HA3 : Hid (Below w2.heap.size w2 W3) := by rw [Hid, ← hW3]; exact (Below.refl _ _).alloc (Nat.le_refl _) _
        have HB3 : Hid (Below w.heap.size w W3) := HB2.out.trans (HA3.out.mono HB2.out.size)
        have HX3 : Hid (RB W3 w.heap.size ⟨#[]⟩ ⟨#[]⟩ (.slice none 0 0) ⟨#[]⟩ false) := HX2.out.below HA3.out
        have HY3 : Hid (RB W3 w2.heap.size mt tg (.slice ra F rc) rb rsh) := by rw [Hid, ← hW3]; exact block_alloc_at _ _
        obtain ⟨f0, f1, f2, f3, f4⟩ := HX3.out.free
        obtain ⟨k0, k1, k2, k3, k4⟩ := HX3.out.box
        obtain ⟨j0, j1, j2, j3, j4⟩ := HY3.out.box
        cases hG : qGood (s.extract 0 (k + 4)) fs ok with
        | false =>
          have HRR : Hid (parseR s = noPs 170) := HGB.out hG
          clear HGG HR HGB
          go_wp2_with fail
          try rw [hW3]
          obtain ⟨W9, hW9⟩ : ∃ W9, set5 W3 w.heap.size (.string ⟨#[]⟩) (.string ⟨#[]⟩) (.slice none 0 0) (.string ⟨#[]⟩) (.bool false) = W9 := ⟨_, rfl⟩
          have HB9 : Hid (Below w.heap.size w W9) := by rw [Hid, ← hW9]; exact set5_below HB3.out (Nat.le_refl _) _ _ _ _ _
          have HX9 : RB W9 w.heap.size ⟨#[]⟩ ⟨#[]⟩ (.slice none 0 0) ⟨#[]⟩ false := by rw [← hW9]; exact RB.set5 HX3.out ⟨#[]⟩ ⟨#[]⟩ (.slice none 0 0) ⟨#[]⟩ false
          unfold set5 at hW9
          rw [hW9]
          clear f0 f1 f2 f3 f4 k0 k1 k2 k3 k4
          obtain ⟨k0, k1, k2, k3, k4⟩ := HX9.box
          clear hW9 HX9
          refine bodyPost_ret (v := psV (noPs 170) none 0) ?_ rfl (PP.no HRR.out HB9.out)
          rw [results_cell_tmp2 rfl]
          go_simp
          rfl
        | true =>
          obtain ⟨hf1, rfl, rfl, rfl, hf5⟩ := HR.out hG
          have HO2 : Hid _ := hf5
          have HRR : Hid _ := HGG.out hG _ _ hf1
          have HRK : Hid (rqOk ⟨mt, tg, ra, rc, rfs, ⟨#[]⟩, clsR rfs⟩) := ⟨by have := HFL.out; show rfs.length ≤ _; omega, HFO.out⟩
          have H2 : Hid (∀ W B, FA B W ra rfs → B ≤ W.heap.size → _) := fun W B h1 h2 => rlength_any ⟨mt, tg, ra, rc, rfs, ⟨#[]⟩, clsR rfs⟩ B W h1 h2 HRK.out
          simp only [rqV] at H2
          rw [HF.out] at H2
          obtain ⟨r1, r2, r3⟩ := lenR_bound rfs
          obtain ⟨x, hx⟩ : ∃ x, (lenR rfs).1.toNat = x := ⟨_, rfl⟩
          have hxz : (lenR rfs).1 = (x : Int) := by omega
          obtain ⟨E, hE⟩ : ∃ E, (lenR rfs).2 = E := ⟨_, rfl⟩
          rw [hx, hE] at HRR
          rw [hxz, hE] at H2
          have hx8 : x ≤ 8192 := by omega
          have HO3 : Hid (W3.ownsRow W0.heap.size 53 2 (.slice ra F rc) F (flF rfs)) := owns_on2 HO2.out HA3.out
          have HF3 : Hid (FA W3.heap.size W3 ra rfs) := by
            have hq := HO3.out
            rw [← HF.out] at hq
            exact fa_row hq
          obtain ⟨sh, hsh⟩ : ∃ b, clsR rfs = b := ⟨_, rfl⟩
          rw [hsh] at H2 HRR HY3 j4 hW3
          clear hf1 hf5 HGG HGB HR hxz hx hE r1 r2 r3 HFO
          try rw [hsh]
          go_wp2_with fail
          try rw [hsh]
          try rw [hW3]
          clear hW3 hsh
          refine (H2.out _ _ HF3.out (Nat.le_refl _)).mono ?_
          rintro e w4 ⟨rfl, b4⟩
          have HB4 : Hid (Below w.heap.size w w4) := HB3.out.trans (b4.mono HB3.out.size)
          have HX4 : Hid (RB w4 w.heap.size ⟨#[]⟩ ⟨#[]⟩ (.slice none 0 0) ⟨#[]⟩ false) := HX3.out.below b4
          have HY4 : Hid (RB w4 w2.heap.size mt tg (.slice ra F rc) ⟨#[]⟩ sh) := HY3.out.below b4
          have HO4 : Hid (w4.ownsRow W0.heap.size 53 2 (.slice ra F rc) F (flF rfs)) := owns_on2 HO3.out b4
          clear b4 f0 f1 f2 f3 f4 k0 k1 k2 k3 k4 j0 j1 j2 j3 j4
          obtain ⟨f0, f1, f2, f3, f4⟩ := HX4.out.free
          obtain ⟨k0, k1, k2, k3, k4⟩ := HX4.out.box
          obtain ⟨g0, g1, g2, g3, g4⟩ := HY4.out.free
          obtain ⟨j0, j1, j2, j3, j4⟩ := HY4.out.box
          by_cases hE0 : E = 0
          · subst hE0
            by_cases hl : s.size < k + 4 + x
            · have q4 : (s.size : Int) < (k : Int) + 4 + (x : Int) := by omega
              have HP : Hid (parseR s = noPs 4) := by rw [Hid, HRR.out]; simp only [ne_eq, not_true_eq_false, if_false]; rw [if_pos hl]
              go_wp2_with fail
              obtain ⟨W9, hW9⟩ : ∃ W9, set5 w4 w.heap.size (.string ⟨#[]⟩) (.string ⟨#[]⟩) (.slice none 0 0) (.string ⟨#[]⟩) (.bool false) = W9 := ⟨_, rfl⟩
              have HB9 : Hid (Below w.heap.size w W9) := by rw [Hid, ← hW9]; exact set5_below HB4.out (Nat.le_refl _) _ _ _ _ _
              have HX9 : RB W9 w.heap.size ⟨#[]⟩ ⟨#[]⟩ (.slice none 0 0) ⟨#[]⟩ false := by rw [← hW9]; exact RB.set5 HX4.out ⟨#[]⟩ ⟨#[]⟩ (.slice none 0 0) ⟨#[]⟩ false
              unfold set5 at hW9
              rw [hW9]
              clear f0 f1 f2 f3 f4 k0 k1 k2 k3 k4
              obtain ⟨k0, k1, k2, k3, k4⟩ := HX9.box
              clear hW9 HX9
              refine bodyPost_ret (v := psV (noPs 4) none 0) ?_ rfl (PP.no HP.out HB9.out)
              rw [results_cell_tmp2 rfl]
              go_simp
              rfl
            · have q4 : ¬ (s.size : Int) < (k : Int) + 4 + (x : Int) := by omega
              have q5 : (k : Int) + 4 + (x : Int) ≤ (s.size : Int) := by omega
              have q6 : (k : Int) + 4 ≤ (k : Int) + 4 + (x : Int) := by omega
              have HP : Hid (parseR s = ⟨mt, tg, rfs, s.extract (k + 4) (k + 4 + x), sh, k + 4 + x, 0⟩) := by rw [Hid, HRR.out]; simp only [ne_eq, not_true_eq_false, if_false]; rw [if_neg hl]
              obtain ⟨bd, hbd⟩ : ∃ b, s.extract (k + 4) (k + 4 + x) = b := ⟨_, rfl⟩
              rw [hbd] at HP
              obtain ⟨W7, hW7⟩ : ∃ W7, w4.setCell ⟨w2.heap.size, 3, none⟩ (.string bd) = W7 := ⟨_, rfl⟩
              have HB7 : Hid (Below w.heap.size w W7) := by rw [Hid, ← hW7]; exact HB4.out.setCell (p := ⟨w2.heap.size, 3, none⟩) HB2.out.size _
              have HY7 : Hid (RB W7 w2.heap.size mt tg (.slice ra F rc) bd sh) := by
                have := set_block HY4.out 3 (.string bd)
                rw [hW7] at this
                rw [Hid]; simpa [RB] using this
              have HX7 : Hid (RB W7 w.heap.size ⟨#[]⟩ ⟨#[]⟩ (.slice none 0 0) ⟨#[]⟩ false) := by
                rw [Hid, RB, ← hW7, Below.heap_setCell _ _ _ _ (by have := HZ2.out; show w.heap.size ≠ w2.heap.size; omega)]
                exact HX4.out
              have HO7 : Hid (W7.ownsRow W0.heap.size 53 2 (.slice ra F rc) F (flF rfs)) := by
                refine owns_same HO4.out fun gg hg => ?_
                rw [← hW7]
                have := (World.ownsRow.lt HO2.out gg hg).2
                exact Below.heap_setCell _ _ _ _ (by show gg ≠ w2.heap.size; omega)
              obtain ⟨m0, m1, m2, m3, m4⟩ := HX7.out.free
              obtain ⟨n0, n1, n2, n3, n4⟩ := HX7.out.box
              obtain ⟨p0, p1, p2, p3, p4⟩ := HY7.out.box
              go_wp2_with fail
              obtain ⟨W9, hW9⟩ : ∃ W9, set5 W7 w.heap.size (.string mt) (.string tg) (.slice ra F rc) (.string bd) (.bool sh) = W9 := ⟨_, rfl⟩
              have HB9 : Hid (Below w.heap.size w W9) := by rw [Hid, ← hW9]; exact set5_below HB7.out (Nat.le_refl _) _ _ _ _ _
              have HX9 : RB W9 w.heap.size mt tg (.slice ra F rc) bd sh := by rw [← hW9]; exact HX7.out.set5 mt tg (.slice ra F rc) bd sh
              have HO9 : Hid (FA W9.heap.size W9 ra rfs) := by
                have hq := owns_set5 HO7.out (g := w.heap.size) (by have := HZ0.out; omega) (.string mt) (.string tg) (.slice ra F rc) (.string bd) (.bool sh)
                rw [hW9, ← HF.out] at hq
                exact fa_row hq
              unfold set5 at hW9
              rw [hW9]
              clear f0 f1 f2 f3 f4 k0 k1 k2 k3 k4 g0 g1 g2 g3 g4 j0 j1 j2 j3 j4 m0 m1 m2 m3 m4 n0 n1 n2 n3 n4 p0 p1 p2 p3 p4
              obtain ⟨k0, k1, k2, k3, k4⟩ := HX9.box
              clear hW9 HX9
              refine bodyPost_ret (v := .tuple #[.agg #[.string mt, .string tg, .slice ra F rc, .string bd, .bool sh], .int .i64 ((k : Int) + 4 + (x : Int)), .int .i64 0]) ?_ rfl (show ∃ a c, _ ∧ _ ∧ _ from ⟨ra, rc, ?_, by rw [HP.out]; exact HO9.out, HB9.out⟩)
              · rw [results_cell_tmp2 rfl]
                go_simp
              · rw [HP.out]
                show _ = Ending.returned (.tuple #[.agg #[.string mt, .string tg, .slice ra rfs.length rc, _, _], .int .i64 ((k + 4 + x : Nat) : Int), _])
                rw [HF.out]
                rfl
          · have HP : Hid (parseR s = noPs E) := by rw [Hid, HRR.out, if_pos hE0]
            have q4 : (E != 0) = true := by simp [hE0]
            go_wp2_with fail
            obtain ⟨W9, hW9⟩ : ∃ W9, set5 w4 w.heap.size (.string ⟨#[]⟩) (.string ⟨#[]⟩) (.slice none 0 0) (.string ⟨#[]⟩) (.bool false) = W9 := ⟨_, rfl⟩
            have HB9 : Hid (Below w.heap.size w W9) := by rw [Hid, ← hW9]; exact set5_below HB4.out (Nat.le_refl _) _ _ _ _ _
            have HX9 : RB W9 w.heap.size ⟨#[]⟩ ⟨#[]⟩ (.slice none 0 0) ⟨#[]⟩ false := by rw [← hW9]; exact RB.set5 HX4.out ⟨#[]⟩ ⟨#[]⟩ (.slice none 0 0) ⟨#[]⟩ false
            unfold set5 at hW9
            rw [hW9]
            clear f0 f1 f2 f3 f4 k0 k1 k2 k3 k4
            obtain ⟨k0, k1, k2, k3, k4⟩ := HX9.box
            clear hW9 HX9
            refine bodyPost_ret (v := psV (noPs E) none 0) ?_ rfl (PP.no HP.out HB9.out)
            rw [results_cell_tmp2 rfl]
            go_simp
            rfl
      · rw [decide_eq_false h4] at hfe
        have HN2 : Hid (∀ j, j < k + 1 → ¬ end4 s j) := fun j hj => by
          rcases Nat.lt_succ_iff_lt_or_eq.1 hj with h | rfl
          · exact HN.out j h
          · exact h4
        clear h4
        go_wp2_with fail
        go_roundw
        case rel => exact ⟨k + 1, by omega, by first | rfl | trivial, by go_num, HN2.out, by first | rfl | trivial⟩
        case measure => simp [intOf]; omega
    · have hix : ix4 s = none := ix4_none fun j hj he => by
        rcases Nat.lt_or_ge j k with h | h
        · exact HN.out j h he
        · have := he.1; omega
      have HPN : Hid (parseR s = noPs (if 4096 ≤ s.size then 172 else 4)) := by rw [Hid, parseR, hix]
      clear hix
      by_cases hz : 4096 ≤ s.size
      · have HP : Hid (parseR s = noPs 172) := by rw [Hid, HPN.out, if_pos hz]
        have q0 : (4096 : Int) ≤ (s.size : Int) := by omega
        have q1 : ¬ ((k : Int) + 4 ≤ 4096) := by omega
        by_cases hk1 : k + 4 ≤ s.size
        · have q2 : (k : Int) + 4 ≤ (s.size : Int) := by omega
          clear hin
          go_wp2_with fail
          obtain ⟨W9, hW9⟩ : ∃ W9, set5 W0 w.heap.size (.string ⟨#[]⟩) (.string ⟨#[]⟩) (.slice none 0 0) (.string ⟨#[]⟩) (.bool false) = W9 := ⟨_, rfl⟩
          have HB9 : Hid (Below w.heap.size w W9) := by rw [Hid, ← hW9]; exact set5_below HB0.out (Nat.le_refl _) _ _ _ _ _
          have HX9 : RB W9 w.heap.size ⟨#[]⟩ ⟨#[]⟩ (.slice none 0 0) ⟨#[]⟩ false := by rw [← hW9]; exact RB.set5 HX0.out ⟨#[]⟩ ⟨#[]⟩ (.slice none 0 0) ⟨#[]⟩ false
          unfold set5 at hW9
          rw [hW9]
          clear f0 f1 f2 f3 f4 k0 k1 k2 k3 k4
          obtain ⟨k0, k1, k2, k3, k4⟩ := HX9.box
          clear hW9 HX9
          refine bodyPost_ret (v := psV (noPs 172) none 0) ?_ rfl (PP.no HP.out HB9.out)
          rw [results_cell_tmp2 rfl]
          go_simp
          rfl
        · have q2 : ¬ (k : Int) + 4 ≤ (s.size : Int) := by omega
          clear hin
          go_wp2_with fail
          obtain ⟨W9, hW9⟩ : ∃ W9, set5 W0 w.heap.size (.string ⟨#[]⟩) (.string ⟨#[]⟩) (.slice none 0 0) (.string ⟨#[]⟩) (.bool false) = W9 := ⟨_, rfl⟩
          have HB9 : Hid (Below w.heap.size w W9) := by rw [Hid, ← hW9]; exact set5_below HB0.out (Nat.le_refl _) _ _ _ _ _
          have HX9 : RB W9 w.heap.size ⟨#[]⟩ ⟨#[]⟩ (.slice none 0 0) ⟨#[]⟩ false := by rw [← hW9]; exact RB.set5 HX0.out ⟨#[]⟩ ⟨#[]⟩ (.slice none 0 0) ⟨#[]⟩ false
          unfold set5 at hW9
          rw [hW9]
          clear f0 f1 f2 f3 f4 k0 k1 k2 k3 k4
          obtain ⟨k0, k1, k2, k3, k4⟩ := HX9.box
          clear hW9 HX9
          refine bodyPost_ret (v := psV (noPs 172) none 0) ?_ rfl (PP.no HP.out HB9.out)
          rw [results_cell_tmp2 rfl]
          go_simp
          rfl
      · have HP : Hid (parseR s = noPs 4) := by rw [Hid, HPN.out, if_neg hz]
        have q0 : ¬ (4096 : Int) ≤ (s.size : Int) := by omega
        have q2 : ¬ (k : Int) + 4 ≤ (s.size : Int) := by omega
        clear hin
        go_wp2_with fail
        obtain ⟨W9, hW9⟩ : ∃ W9, set5 W0 w.heap.size (.string ⟨#[]⟩) (.string ⟨#[]⟩) (.slice none 0 0) (.string ⟨#[]⟩) (.bool false) = W9 := ⟨_, rfl⟩
        have HB9 : Hid (Below w.heap.size w W9) := by rw [Hid, ← hW9]; exact set5_below HB0.out (Nat.le_refl _) _ _ _ _ _
        have HX9 : RB W9 w.heap.size ⟨#[]⟩ ⟨#[]⟩ (.slice none 0 0) ⟨#[]⟩ false := by rw [← hW9]; exact RB.set5 HX0.out ⟨#[]⟩ ⟨#[]⟩ (.slice none 0 0) ⟨#[]⟩ false
        unfold set5 at hW9
        rw [hW9]
        clear f0 f1 f2 f3 f4 k0 k1 k2 k3 k4
        obtain ⟨k0, k1, k2, k3, k4⟩ := HX9.box
        clear hW9 HX9
        refine bodyPost_ret (v := psV (noPs 4) none 0) ?_ rfl (PP.no HP.out HB9.out)
        rw [results_cell_tmp2 rfl]
        go_simp
        rfl
end Go.Proofs.YthhhoppmbimeiaaDoor
