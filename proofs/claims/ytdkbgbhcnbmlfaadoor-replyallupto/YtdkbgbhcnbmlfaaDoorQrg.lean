/-
  The contract of the twin's read: status 204.
-/
import Derived.Test.YtdkbgbhcnbmlfaaDoorQre
namespace Go.Proofs.YtdkbgbhcnbmlfaaDoor
open Go.RowKit
set_option maxRecDepth 20000 in
set_option maxHeartbeats 16000000 in
theorem qread_204 (s : ByteArray) (cook cl : Bool) (hs : s.size ≤ 140737488355328) (w : World) : Calls Tryd.prog 30 #[.string s, .int .i64 204, .bool false, .bool cook, .bool cl] w fun e w' => e = .returned (rqV (rdQ 204 false cook cl s.data.toList)) ∧ Below w.heap.size w w' := by
  have hz : (204 : Int) ∈ sts := by decide
  have hss := sts_mem hz
  obtain ⟨sn, hsn⟩ : ∃ sn : Nat, (204 : Int) = (sn : Int) := ⟨204, rfl⟩
  have H2 : Hid (∀ W : World, _) := fun W => qdigits_any sn (by omega) W
  rw [← hsn] at H2
  clear hsn
  have H3 : Hid (∀ W : World, _) := fun W => qwords_any 204 W
  have hz3 := sts_it _ hz
  have hz4 := sts_wd _ hz
  have HLN : Hid (∀ (t : ByteArray) (a : Nat) (W : World), t.size ≤ 1000000000 → a ≤ s.size → _) := fun t a W q1 q2 => qline_any s t a (by omega) (by omega) q2 W
  have HFL : Hid (∀ (b : Bool) (W : World), _) := fun b W => qfailed_any b W
  have HCK : Hid (∀ (a : Nat) (W : World), a ≤ s.size → _) := fun a W q => qcookie_any s a (by omega) q W
  have HNM : Hid (∀ (a : Nat) (W : World), a ≤ s.size → _) := fun a W q => qnumber_any s a (by omega) q W
  obtain ⟨W0, hW0⟩ : ∃ W0, ((w.alloc (.cells (rpA (rpl0 0)) 23)).alloc (.cells (rpA (rpl0 0)) 23)).alloc (.cells (rpA ⟨204, [], [], cl⟩) 23) = W0 := ⟨_, rfl⟩
  have HS0 : Hid (RdS w ⟨204, [], [], cl⟩ W0) := by rw [Hid, ← hW0]; exact rds_of _ _
  simp only [rpA, rpl0, show mkB [] = ⟨#[]⟩ from rfl] at hW0
  have HST : Hid (lnS 204 (wordsR 204) = ⟨#[72, 84, 84, 80, 47, 49, 46, 49, 32]⟩ ++ itB 204 ++ ⟨#[32]⟩ ++ wordsR 204 ++ ⟨#[13, 10]⟩) := rfl
  have HRD : Hid (rdQ 204 false cook cl s.data.toList = thenQ (lnS 204 (wordsR 204)).data.toList (s.data.toList.drop 0) fun m => cokQ (lnS 204 (wordsR 204)).data.toList.length 0 ⟨204, [], [], cl⟩ cook m) := by
    rw [Hid, ← hed_204]
    rfl
  obtain ⟨xs, hxs⟩ : ∃ xs, itB 204 = xs := ⟨_, rfl⟩
  rw [hxs] at H2 HST hz3
  obtain ⟨wd, hwd⟩ : ∃ wd, wordsR 204 = wd := ⟨_, rfl⟩
  rw [hwd] at H3 HST hz4 HRD
  obtain ⟨b1, hb1⟩ : ∃ b1, lnS 204 wd = b1 := ⟨_, rfl⟩
  rw [hb1] at HST HRD
  have hbs : b1.size ≤ 1000000000 := by
    rw [HST.out]
    simp only [ByteArray.size_append]
    have e1 : (⟨#[72, 84, 84, 80, 47, 49, 46, 49, 32]⟩ : ByteArray).size = 9 := rfl
    have e2 : (⟨#[32]⟩ : ByteArray).size = 1 := rfl
    have e3 : (⟨#[13, 10]⟩ : ByteArray).size = 2 := rfl
    omega
  obtain ⟨n1, hn1⟩ : ∃ n1, b1.data.toList.length = n1 := ⟨_, rfl⟩
  rw [hn1] at HRD
  clear hxs hwd hb1
  have h00 : 0 ≤ s.size := Nat.zero_le _
  go_enter Tryd.func30, Tryd.ntmps30
  go_upto_region 5 with fail
  try rw [hW0]
  clear hW0
  go_upto_region 10 with (first | (go_at_call 28; refine (H2.out _).mono ?_; rintro e w1 ⟨rfl, b2⟩; have HS1 : Hid (RdS w ⟨204, [], [], cl⟩ w1) := HS0.out.below b2; clear b2) | (go_at_call 21; refine (H3.out _).mono ?_; rintro e w2 ⟨rfl, rfl⟩))
  rw [← HST.out]
  have HL5 : Hid (∀ W : World, _) := fun W => HLN.out b1 0 W hbs h00
  by_cases p5 : (b1.data.toList).isPrefixOf (s.data.toList.drop 0) = true
  · have HR5 : Hid (rdQ 204 false cook cl s.data.toList = cokQ n1 0 ⟨204, [], [], cl⟩ cook (s.data.toList.drop (0 + n1))) := by
      rw [Hid, HRD.out]
      rw [then_hit p5, hn1]
    rw [lin_hit (a := 0) p5, hn1] at HL5
    have ha5 : 0 + n1 ≤ s.size := by rw [← hn1]; exact pre_le p5 h00
    obtain ⟨a5, hA5⟩ : ∃ a5, 0 + n1 = a5 := ⟨_, rfl⟩
    rw [hA5] at HL5 HR5 ha5
    clear p5
    go_upto_region 11 with (go_at_call 38; refine (HL5.out _).mono ?_; rintro e w5 ⟨rfl, b2⟩; have HS5 : Hid (RdS w ⟨204, [], [], cl⟩ w5) := HS1.out.below b2; clear b2)
    rw [Nat.zero_add] at hA5
    subst hA5
    go_upto_if 129 with fail
    go_cut [16, 17, 18, 19] from 130 (fun s16 s17 s18 s19 wc => ∃ (aC szC : Nat) (rC : Rp), s16 = .int .i64 (aC : Nat) ∧ s19 = .int .i64 (szC : Nat) ∧ szC ≤ 1000000000 ∧ aC ≤ s.size ∧ Hid (rC.close = cl) ∧ Hid (rdQ 204 false cook cl s.data.toList = endQ aC szC rC (s.data.toList.drop aC)) ∧ Hid (RdS w rC wc))
    case first =>
      cases cook with
      | false =>
        go_wp2_with fail
        go_meet
        exact ⟨n1, 0, (⟨204, [], [], cl⟩ : Rp), rfl, rfl, (Nat.zero_le _), ha5, rfl, by rw [Hid, HR5.out]; rfl, HS5.out⟩
      | true =>
        have HL7 : Hid (∀ W : World, _) := fun W => HLN.out ⟨#[83, 101, 116, 45, 67, 111, 111, 107, 105, 101, 58, 32]⟩ n1 W (by decide) ha5
        by_cases p7 : ((opn 2).data.toList).isPrefixOf (s.data.toList.drop n1) = true
        · have HR7 : Hid (rdQ 204 false true cl s.data.toList = ckQ (n1 + 12) 0 (⟨204, [], [], cl⟩ : Rp) (s.data.toList.drop (n1 + 12))) := by
            rw [Hid, HR5.out]
            unfold cokQ
            rw [if_pos rfl]
            rw [then_hit p7]
            rfl
          rw [show (⟨#[83, 101, 116, 45, 67, 111, 111, 107, 105, 101, 58, 32]⟩ : ByteArray).data.toList = (opn 2).data.toList from rfl, lin_hit (a := n1) p7, show ((opn 2).data.toList).length = 12 from rfl] at HL7
          have ha7 : n1 + 12 ≤ s.size := pre_le p7 ha5
          obtain ⟨a7, hA7⟩ : ∃ a7, n1 + 12 = a7 := ⟨_, rfl⟩
          rw [hA7] at HL7 HR7 ha7
          clear p7
          go_upto_region 29 with (go_at_call 38; refine (HL7.out _).mono ?_; rintro e w7 ⟨rfl, b2⟩; have HS7 : Hid (RdS w (⟨204, [], [], cl⟩ : Rp) w7) := HS5.out.below b2; clear b2)
          have hci := inC_le (s.data.toList.drop a7)
          obtain ⟨k, hk⟩ : ∃ k, inC (s.data.toList.drop a7) = k := ⟨_, rfl⟩
          have HK : Hid (∀ W : World, _) := fun W => HCK.out a7 W ha7
          rw [hk] at HK hci
          rw [List.length_drop, size_list] at hci
          obtain ⟨ck, hck⟩ : ∃ ck, (s.data.toList.drop a7).take k = ck := ⟨_, rfl⟩
          have hcl : ck.length = k := by rw [← hck, List.length_take, List.length_drop, size_list]; omega
          rw [hck] at HK
          have HC : Hid (rdQ 204 false true cl s.data.toList = if 256 < k then badQ 180 else if k = (s.data.toList.drop a7).length then badQ 20 else if k = 0 then badQ 180 else thenQ crlf.data.toList (s.data.toList.drop (a7 + k)) fun m' => endQ (a7 + k + 2) 0 { (⟨204, [], [], cl⟩ : Rp) with cookie := ck } m') := by
            rw [Hid, HR7.out]
            unfold ckQ
            rw [hk, hck, List.drop_drop]
          rw [List.length_drop, size_list] at HC
          have hks : (mkB ck).size = k := by rw [mkB_size, hcl]
          have hkb : k ≤ 140737488355328 := by omega
          obtain ⟨W8, hW8⟩ : ∃ W8, w7.setCell ⟨w.heap.size + 1 + 1, 2, none⟩ (.string (mkB ck)) = W8 := ⟨_, rfl⟩
          have HS8 : Hid (RdS w { (⟨204, [], [], cl⟩ : Rp) with cookie := ck } W8) := by rw [Hid, ← hW8]; exact HS7.out.cookie ck
          have hke : (mkB ck).toList.isEmpty = decide (k = 0) := by rw [← hcl]; rw [mkB_empty]; cases ck <;> simp
          obtain ⟨cb, hcb⟩ : ∃ cb, mkB ck = cb := ⟨_, rfl⟩
          rw [hcb] at HK hks hW8 hke
          have hc2 : W8.cell? ⟨w.heap.size + 1 + 1, 2, none⟩ = some (.string cb) := by rw [← hcb]; exact HS8.out.x2.cells.2.2.1
          have f7 := HS7.out.x2.free 2
          have g7 := HS7.out.x2.cells.2.2.1
          clear hcl hck hk
          go_upto_region 32 with (go_at_call 41; refine (HK.out _).mono ?_; rintro e w8 ⟨rfl, rfl⟩)
          try rw [hW8]
          clear hW8 f7 g7
          by_cases c1 : 256 < k
          · have c1z : (256 : Int) < (k : Int) := by omega
            have HRx : Hid (rdQ 204 false true cl s.data.toList = badQ 180) := by rw [Hid, HC.out, if_pos c1]
            clear HC
            go_upto_region 34 with fail
            obtain ⟨k0, k1, k2, k3⟩ := HS8.out.x0.zero
            obtain ⟨a0, a1, a2, a3⟩ := HS8.out.x1.zero
            have f0 := HS8.out.x0.free 0
            have f1 := HS8.out.x0.free 1
            have f2 := HS8.out.x0.free 2
            have f3 := HS8.out.x0.free 3
            obtain ⟨W9, hW9⟩ : ∃ W9, clr w W8 = W9 := ⟨_, rfl⟩
            have HX9 : Hid (RpB W9 w.heap.size (rpl0 0) ∧ Below w.heap.size w W9) := by rw [Hid, ← hW9]; exact HS8.out.clr
            obtain ⟨x0, x1, x2, x3⟩ := HX9.out.1.zero
            have HW9 : Hid (clr w W8 = W9) := hW9
            unfold clr at HW9
            clear hW9
            go_wp2_with fail
            rw [HW9.out]
            refine bodyPost_ret (v := .tuple #[rpV (rpl0 0), .int .i64 0, .int .i64 180]) ?_ rfl ⟨by rw [HRx.out]; rfl, HX9.out.2⟩
            rw [results_cell_tmp2 rfl]
            unfold rpV
            go_simp
            exact ⟨rfl, rfl, rfl, rfl⟩
          · have c1z : ¬ (256 : Int) < (k : Int) := by omega
            rw [if_neg c1] at HC
            by_cases c2 : k = s.size - a7
            · have c2z : ((a7 : Int) + (k : Int) == (s.size : Int)) = true := by rw [beq_iff_eq]; omega
              have HRx : Hid (rdQ 204 false true cl s.data.toList = badQ 20) := by rw [Hid, HC.out, if_pos c2]
              clear HC c2
              go_upto_region 36 with fail
              obtain ⟨k0, k1, k2, k3⟩ := HS8.out.x0.zero
              obtain ⟨a0, a1, a2, a3⟩ := HS8.out.x1.zero
              have f0 := HS8.out.x0.free 0
              have f1 := HS8.out.x0.free 1
              have f2 := HS8.out.x0.free 2
              have f3 := HS8.out.x0.free 3
              obtain ⟨W9, hW9⟩ : ∃ W9, clr w W8 = W9 := ⟨_, rfl⟩
              have HX9 : Hid (RpB W9 w.heap.size (rpl0 0) ∧ Below w.heap.size w W9) := by rw [Hid, ← hW9]; exact HS8.out.clr
              obtain ⟨x0, x1, x2, x3⟩ := HX9.out.1.zero
              have HW9 : Hid (clr w W8 = W9) := hW9
              unfold clr at HW9
              clear hW9
              go_wp2_with fail
              rw [HW9.out]
              refine bodyPost_ret (v := .tuple #[rpV (rpl0 0), .int .i64 0, .int .i64 20]) ?_ rfl ⟨by rw [HRx.out]; rfl, HX9.out.2⟩
              rw [results_cell_tmp2 rfl]
              unfold rpV
              go_simp
              exact ⟨rfl, rfl, rfl, rfl⟩
            · have c2z : ((a7 : Int) + (k : Int) == (s.size : Int)) = false := by rw [beq_eq_false_iff_ne]; omega
              rw [if_neg c2] at HC
              by_cases c3 : k = 0
              · have HRx : Hid (rdQ 204 false true cl s.data.toList = badQ 180) := by rw [Hid, HC.out, if_pos c3]
                have hk3 : cb.toList.isEmpty = true := by rw [hke, decide_eq_true c3]
                clear HC c3 hke
                go_upto_region 38 with fail
                obtain ⟨k0, k1, k2, k3⟩ := HS8.out.x0.zero
                obtain ⟨a0, a1, a2, a3⟩ := HS8.out.x1.zero
                have f0 := HS8.out.x0.free 0
                have f1 := HS8.out.x0.free 1
                have f2 := HS8.out.x0.free 2
                have f3 := HS8.out.x0.free 3
                obtain ⟨W9, hW9⟩ : ∃ W9, clr w W8 = W9 := ⟨_, rfl⟩
                have HX9 : Hid (RpB W9 w.heap.size (rpl0 0) ∧ Below w.heap.size w W9) := by rw [Hid, ← hW9]; exact HS8.out.clr
                obtain ⟨x0, x1, x2, x3⟩ := HX9.out.1.zero
                have HW9 : Hid (clr w W8 = W9) := hW9
                unfold clr at HW9
                clear hW9
                go_wp2_with fail
                rw [HW9.out]
                refine bodyPost_ret (v := .tuple #[rpV (rpl0 0), .int .i64 0, .int .i64 180]) ?_ rfl ⟨by rw [HRx.out]; rfl, HX9.out.2⟩
                rw [results_cell_tmp2 rfl]
                unfold rpV
                go_simp
                exact ⟨rfl, rfl, rfl, rfl⟩
              · have hk3 : cb.toList.isEmpty = false := by rw [hke, decide_eq_false c3]
                rw [if_neg c3] at HC
                have hak : a7 + k ≤ s.size := by omega
                obtain ⟨a9, hA9⟩ : ∃ a9, a7 + k = a9 := ⟨_, rfl⟩
                have hA9z : (a7 : Int) + (k : Int) = (a9 : Int) := by omega
                rw [hA9] at HC hak
                rw [hA9z] at c2z
                clear hke hA9
                go_upto_region 39 with fail
                have HL10 : Hid (∀ W : World, _) := fun W => HLN.out ⟨#[13, 10]⟩ a9 W (by decide) hak
                by_cases p10 : (crlf.data.toList).isPrefixOf (s.data.toList.drop a9) = true
                · have HR10 : Hid (rdQ 204 false true cl s.data.toList = endQ (a9 + 2) 0 { (⟨204, [], [], cl⟩ : Rp) with cookie := ck } (s.data.toList.drop (a9 + 2))) := by
                    rw [Hid, HC.out]
                    rw [then_hit p10]
                    rfl
                  rw [show (⟨#[13, 10]⟩ : ByteArray).data.toList = crlf.data.toList from rfl, lin_hit (a := a9) p10, show (crlf.data.toList).length = 2 from rfl] at HL10
                  have ha10 : a9 + 2 ≤ s.size := pre_le p10 hak
                  obtain ⟨a10, hA10⟩ : ∃ a10, a9 + 2 = a10 := ⟨_, rfl⟩
                  rw [hA10] at HL10 HR10 ha10
                  clear p10
                  go_upto_region 40 with (go_at_call 38; refine (HL10.out _).mono ?_; rintro e w10 ⟨rfl, b2⟩; have HS10 : Hid (RdS w { (⟨204, [], [], cl⟩ : Rp) with cookie := ck } w10) := HS8.out.below b2; clear b2)
                  go_wp2_with fail
                  go_meet
                  exact ⟨a10, 0, { (⟨204, [], [], cl⟩ : Rp) with cookie := ck }, rfl, rfl, (Nat.zero_le _), ha10, rfl, HR10.out, HS10.out⟩
                · have HR10 : Hid (rdQ 204 false true cl s.data.toList = badQ (if (s.data.toList.drop a9).isPrefixOf (crlf.data.toList) = true then 20 else 180)) := by
                    rw [Hid, HC.out]
                    rw [then_mis p10]
                  rw [show (⟨#[13, 10]⟩ : ByteArray).data.toList = crlf.data.toList from rfl, lin_mis (a := a9) p10] at HL10
                  obtain ⟨sh, hsh⟩ : ∃ sh, (s.data.toList.drop a9).isPrefixOf (crlf.data.toList) = sh := ⟨_, rfl⟩
                  rw [hsh] at HL10 HR10
                  have HF : Hid (∀ W : World, _) := fun W => HFL.out sh W
                  obtain ⟨er, her⟩ : ∃ er : Int, (if sh = true then (20 : Int) else 180) = er := ⟨_, rfl⟩
                  rw [her] at HF HR10
                  clear hsh her p10
                  go_upto_region 41 with (go_at_call 38; refine (HL10.out _).mono ?_; rintro e w10 ⟨rfl, b2⟩; have HS10 : Hid (RdS w { (⟨204, [], [], cl⟩ : Rp) with cookie := ck } w10) := HS8.out.below b2; clear b2)
                  obtain ⟨k0, k1, k2, k3⟩ := HS10.out.x0.zero
                  obtain ⟨a0, a1, a2, a3⟩ := HS10.out.x1.zero
                  have f0 := HS10.out.x0.free 0
                  have f1 := HS10.out.x0.free 1
                  have f2 := HS10.out.x0.free 2
                  have f3 := HS10.out.x0.free 3
                  obtain ⟨W9, hW9⟩ : ∃ W9, clr w w10 = W9 := ⟨_, rfl⟩
                  have HX9 : Hid (RpB W9 w.heap.size (rpl0 0) ∧ Below w.heap.size w W9) := by rw [Hid, ← hW9]; exact HS10.out.clr
                  obtain ⟨x0, x1, x2, x3⟩ := HX9.out.1.zero
                  have HW9 : Hid (clr w w10 = W9) := hW9
                  unfold clr at HW9
                  clear hW9
                  go_region_with (go_at_call 39; refine (HF.out _).mono ?_; rintro e w4 ⟨rfl, rfl⟩)
                  all_goals
                    rw [HW9.out]
                    go_wp2_with fail
                    refine bodyPost_ret (v := .tuple #[rpV (rpl0 0), .int .i64 0, .int .i64 er]) ?_ rfl ⟨by rw [HR10.out]; rfl, HX9.out.2.drew⟩
                    rw [results_cell_tmp2 rfl]
                    unfold rpV
                    go_simp
                    exact ⟨rfl, rfl, rfl, rfl⟩
        · have HR7 : Hid (rdQ 204 false true cl s.data.toList = badQ (if (s.data.toList.drop n1).isPrefixOf ((opn 2).data.toList) = true then 20 else 180)) := by
            rw [Hid, HR5.out]
            unfold cokQ
            rw [if_pos rfl]
            rw [then_mis p7]
          rw [show (⟨#[83, 101, 116, 45, 67, 111, 111, 107, 105, 101, 58, 32]⟩ : ByteArray).data.toList = (opn 2).data.toList from rfl, lin_mis (a := n1) p7] at HL7
          obtain ⟨sh, hsh⟩ : ∃ sh, (s.data.toList.drop n1).isPrefixOf ((opn 2).data.toList) = sh := ⟨_, rfl⟩
          rw [hsh] at HL7 HR7
          have HF : Hid (∀ W : World, _) := fun W => HFL.out sh W
          obtain ⟨er, her⟩ : ∃ er : Int, (if sh = true then (20 : Int) else 180) = er := ⟨_, rfl⟩
          rw [her] at HF HR7
          clear hsh her p7
          go_upto_region 30 with (go_at_call 38; refine (HL7.out _).mono ?_; rintro e w7 ⟨rfl, b2⟩; have HS7 : Hid (RdS w (⟨204, [], [], cl⟩ : Rp) w7) := HS5.out.below b2; clear b2)
          obtain ⟨k0, k1, k2, k3⟩ := HS7.out.x0.zero
          obtain ⟨a0, a1, a2, a3⟩ := HS7.out.x1.zero
          have f0 := HS7.out.x0.free 0
          have f1 := HS7.out.x0.free 1
          have f2 := HS7.out.x0.free 2
          have f3 := HS7.out.x0.free 3
          obtain ⟨W9, hW9⟩ : ∃ W9, clr w w7 = W9 := ⟨_, rfl⟩
          have HX9 : Hid (RpB W9 w.heap.size (rpl0 0) ∧ Below w.heap.size w W9) := by rw [Hid, ← hW9]; exact HS7.out.clr
          obtain ⟨x0, x1, x2, x3⟩ := HX9.out.1.zero
          have HW9 : Hid (clr w w7 = W9) := hW9
          unfold clr at HW9
          clear hW9
          go_region_with (go_at_call 39; refine (HF.out _).mono ?_; rintro e w4 ⟨rfl, rfl⟩)
          all_goals
            rw [HW9.out]
            go_wp2_with fail
            refine bodyPost_ret (v := .tuple #[rpV (rpl0 0), .int .i64 0, .int .i64 er]) ?_ rfl ⟨by rw [HR7.out]; rfl, HX9.out.2.drew⟩
            rw [results_cell_tmp2 rfl]
            unfold rpV
            go_simp
            exact ⟨rfl, rfl, rfl, rfl⟩
    case rest =>
      obtain ⟨aC, szC, rC, rfl, rfl, hszC, haC, hcC, HRC, HSC⟩ := hcut
      have hcC' : rC.close = cl := hcC.out
      cases cl with
      | false =>
        go_upto_region 45 with fail
        have HL20 : Hid (∀ W : World, _) := fun W => HLN.out ⟨#[13, 10]⟩ aC W (by decide) haC
        by_cases p20 : (endT false).isPrefixOf (s.data.toList.drop aC) = true
        · have HR20 : Hid (rdQ 204 false cook false s.data.toList = if s.size - (aC + 2) < szC then badQ 20 else ({ rC with body := (s.data.toList.drop (aC + 2)).take szC }, (aC + 2) + szC, 0)) := by
            rw [Hid, HRC.out]
            unfold endQ
            rw [hcC']
            rw [then_hit p20, List.length_drop, size_list]
            rfl
          rw [show (⟨#[13, 10]⟩ : ByteArray).data.toList = endT false from rfl, lin_hit (a := aC) p20, show (endT false).length = 2 from rfl] at HL20
          have ha20 : aC + 2 ≤ s.size := pre_le p20 haC
          obtain ⟨a20, hA20⟩ : ∃ a20, aC + 2 = a20 := ⟨_, rfl⟩
          rw [hA20] at HL20 HR20 ha20
          clear p20
          go_upto_region 46 with (go_at_call 38; refine (HL20.out _).mono ?_; rintro e w20 ⟨rfl, b2⟩; have HS20 : Hid (RdS w rC w20) := HSC.out.below b2; clear b2)
          have hcmp : (s.size : Int) - (a20 : Int) = ((s.size - a20 : Nat) : Int) := by omega
          by_cases c4 : s.size - a20 < szC
          · have c4z : ((s.size : Int) - (a20 : Int)) < (szC : Int) := by omega
            have HRx : Hid (rdQ 204 false cook false s.data.toList = badQ 20) := by rw [Hid, HR20.out, if_pos c4]
            clear HR20 hcmp c4
            go_upto_region 49 with fail
            obtain ⟨k0, k1, k2, k3⟩ := HS20.out.x0.zero
            obtain ⟨a0, a1, a2, a3⟩ := HS20.out.x1.zero
            have f0 := HS20.out.x0.free 0
            have f1 := HS20.out.x0.free 1
            have f2 := HS20.out.x0.free 2
            have f3 := HS20.out.x0.free 3
            obtain ⟨W9, hW9⟩ : ∃ W9, clr w w20 = W9 := ⟨_, rfl⟩
            have HX9 : Hid (RpB W9 w.heap.size (rpl0 0) ∧ Below w.heap.size w W9) := by rw [Hid, ← hW9]; exact HS20.out.clr
            obtain ⟨x0, x1, x2, x3⟩ := HX9.out.1.zero
            have HW9 : Hid (clr w w20 = W9) := hW9
            unfold clr at HW9
            clear hW9
            go_wp2_with fail
            rw [HW9.out]
            refine bodyPost_ret (v := .tuple #[rpV (rpl0 0), .int .i64 0, .int .i64 20]) ?_ rfl ⟨by rw [HRx.out]; rfl, HX9.out.2⟩
            rw [results_cell_tmp2 rfl]
            unfold rpV
            go_simp
            exact ⟨rfl, rfl, rfl, rfl⟩
          · have c4z : ¬ ((s.size : Int) - (a20 : Int)) < (szC : Int) := by omega
            rw [if_neg c4] at HR20
            have hext := ext_take s a20 szC
            obtain ⟨bd, hbd⟩ : ∃ bd, (s.data.toList.drop a20).take szC = bd := ⟨_, rfl⟩
            rw [hbd] at hext HR20
            obtain ⟨W8, hW8⟩ : ∃ W8, w20.setCell ⟨w.heap.size + 1 + 1, 1, none⟩ (.string (mkB bd)) = W8 := ⟨_, rfl⟩
            have HS8 : Hid (RdS w { rC with body := bd } W8) := by rw [Hid, ← hW8]; exact HS20.out.body bd
            have f7 := HS20.out.x2.free 1
            have g7 := HS20.out.x2.cells.2.1
            have hsz2 : a20 + szC ≤ s.size := by omega
            obtain ⟨t20, ht20⟩ : ∃ t20 : Nat, a20 + szC = t20 := ⟨_, rfl⟩
            have ht20z : (a20 : Int) + (szC : Int) = (t20 : Int) := by omega
            rw [ht20] at hext HR20
            have hle20 : a20 ≤ t20 := by omega
            have hle21 : t20 ≤ s.size := by omega
            clear ht20 hcmp c4 hsz2 hbd
            go_upto_region 51 with fail
            try rw [hext]
            try rw [hW8]
            clear hW8 f7 g7 hext
            obtain ⟨k0, k1, k2, k3⟩ := HS8.out.x0.zero
            obtain ⟨a0, a1, a2, a3⟩ := HS8.out.x2.cells
            have f0 := HS8.out.x0.free 0
            have f1 := HS8.out.x0.free 1
            have f2 := HS8.out.x0.free 2
            have f3 := HS8.out.x0.free 3
            obtain ⟨rD, hrD⟩ : ∃ rD : Rp, { rC with body := bd } = rD := ⟨_, rfl⟩
            have HR21 : Hid (rdQ 204 false cook false s.data.toList = (rD, t20, 0)) := by rw [Hid, ← hrD]; exact HR20.out
            clear HR20
            obtain ⟨W9, hW9⟩ : ∃ W9, set4 W8 w.heap.size rD = W9 := ⟨_, rfl⟩
            have HX9 : RpB W9 w.heap.size rD := by rw [← hW9]; exact HS8.out.x0.set4 _
            have HB9 : Hid (Below w.heap.size w W9) := by
              rw [Hid, ← hW9]
              have q : Keeps (fun _ => False) w (set4 W8 w.heap.size rD) := set4_keeps (Keeps.of_below HS8.out.b) (Nat.le_refl _) _
              exact q.below (Nat.le_refl _) (fun k f => f.elim)
            obtain ⟨x0, x1, x2, x3⟩ := HX9.cells
            rw [hrD] at a0 a1 a2 a3
            have HW9 : Hid (set4 W8 w.heap.size rD = W9) := hW9
            unfold set4 at HW9
            clear HX9 hW9 hrD
            go_wp2_with fail
            rw [HW9.out]
            refine bodyPost_ret (v := rqV (rD, t20, 0)) ?_ rfl ⟨by rw [HR21.out], HB9.out⟩
            rw [results_cell_tmp2 rfl]
            unfold rqV rpV
            go_simp
        · have HR20 : Hid (rdQ 204 false cook false s.data.toList = badQ (if (s.data.toList.drop aC).isPrefixOf (endT false) = true then 20 else 180)) := by
            rw [Hid, HRC.out]
            unfold endQ
            rw [hcC']
            rw [then_mis p20]
          rw [show (⟨#[13, 10]⟩ : ByteArray).data.toList = endT false from rfl, lin_mis (a := aC) p20] at HL20
          obtain ⟨sh, hsh⟩ : ∃ sh, (s.data.toList.drop aC).isPrefixOf (endT false) = sh := ⟨_, rfl⟩
          rw [hsh] at HL20 HR20
          have HF : Hid (∀ W : World, _) := fun W => HFL.out sh W
          obtain ⟨er, her⟩ : ∃ er : Int, (if sh = true then (20 : Int) else 180) = er := ⟨_, rfl⟩
          rw [her] at HF HR20
          clear hsh her p20
          go_upto_region 47 with (go_at_call 38; refine (HL20.out _).mono ?_; rintro e w20 ⟨rfl, b2⟩; have HS20 : Hid (RdS w rC w20) := HSC.out.below b2; clear b2)
          obtain ⟨k0, k1, k2, k3⟩ := HS20.out.x0.zero
          obtain ⟨a0, a1, a2, a3⟩ := HS20.out.x1.zero
          have f0 := HS20.out.x0.free 0
          have f1 := HS20.out.x0.free 1
          have f2 := HS20.out.x0.free 2
          have f3 := HS20.out.x0.free 3
          obtain ⟨W9, hW9⟩ : ∃ W9, clr w w20 = W9 := ⟨_, rfl⟩
          have HX9 : Hid (RpB W9 w.heap.size (rpl0 0) ∧ Below w.heap.size w W9) := by rw [Hid, ← hW9]; exact HS20.out.clr
          obtain ⟨x0, x1, x2, x3⟩ := HX9.out.1.zero
          have HW9 : Hid (clr w w20 = W9) := hW9
          unfold clr at HW9
          clear hW9
          go_region_with (go_at_call 39; refine (HF.out _).mono ?_; rintro e w4 ⟨rfl, rfl⟩)
          all_goals
            rw [HW9.out]
            go_wp2_with fail
            refine bodyPost_ret (v := .tuple #[rpV (rpl0 0), .int .i64 0, .int .i64 er]) ?_ rfl ⟨by rw [HR20.out]; rfl, HX9.out.2.drew⟩
            rw [results_cell_tmp2 rfl]
            unfold rpV
            go_simp
            exact ⟨rfl, rfl, rfl, rfl⟩
      | true =>
        go_upto_region 45 with fail
        have HL20 : Hid (∀ W : World, _) := fun W => HLN.out ⟨#[67, 111, 110, 110, 101, 99, 116, 105, 111, 110, 58, 32, 99, 108, 111, 115, 101, 13, 10, 13, 10]⟩ aC W (by decide) haC
        by_cases p20 : (endT true).isPrefixOf (s.data.toList.drop aC) = true
        · have HR20 : Hid (rdQ 204 false cook true s.data.toList = if s.size - (aC + 21) < szC then badQ 20 else ({ rC with body := (s.data.toList.drop (aC + 21)).take szC }, (aC + 21) + szC, 0)) := by
            rw [Hid, HRC.out]
            unfold endQ
            rw [hcC']
            rw [then_hit p20, List.length_drop, size_list]
            rfl
          rw [show (⟨#[67, 111, 110, 110, 101, 99, 116, 105, 111, 110, 58, 32, 99, 108, 111, 115, 101, 13, 10, 13, 10]⟩ : ByteArray).data.toList = endT true from rfl, lin_hit (a := aC) p20, show (endT true).length = 21 from rfl] at HL20
          have ha20 : aC + 21 ≤ s.size := pre_le p20 haC
          obtain ⟨a20, hA20⟩ : ∃ a20, aC + 21 = a20 := ⟨_, rfl⟩
          rw [hA20] at HL20 HR20 ha20
          clear p20
          go_upto_region 46 with (go_at_call 38; refine (HL20.out _).mono ?_; rintro e w20 ⟨rfl, b2⟩; have HS20 : Hid (RdS w rC w20) := HSC.out.below b2; clear b2)
          have hcmp : (s.size : Int) - (a20 : Int) = ((s.size - a20 : Nat) : Int) := by omega
          by_cases c4 : s.size - a20 < szC
          · have c4z : ((s.size : Int) - (a20 : Int)) < (szC : Int) := by omega
            have HRx : Hid (rdQ 204 false cook true s.data.toList = badQ 20) := by rw [Hid, HR20.out, if_pos c4]
            clear HR20 hcmp c4
            go_upto_region 49 with fail
            obtain ⟨k0, k1, k2, k3⟩ := HS20.out.x0.zero
            obtain ⟨a0, a1, a2, a3⟩ := HS20.out.x1.zero
            have f0 := HS20.out.x0.free 0
            have f1 := HS20.out.x0.free 1
            have f2 := HS20.out.x0.free 2
            have f3 := HS20.out.x0.free 3
            obtain ⟨W9, hW9⟩ : ∃ W9, clr w w20 = W9 := ⟨_, rfl⟩
            have HX9 : Hid (RpB W9 w.heap.size (rpl0 0) ∧ Below w.heap.size w W9) := by rw [Hid, ← hW9]; exact HS20.out.clr
            obtain ⟨x0, x1, x2, x3⟩ := HX9.out.1.zero
            have HW9 : Hid (clr w w20 = W9) := hW9
            unfold clr at HW9
            clear hW9
            go_wp2_with fail
            rw [HW9.out]
            refine bodyPost_ret (v := .tuple #[rpV (rpl0 0), .int .i64 0, .int .i64 20]) ?_ rfl ⟨by rw [HRx.out]; rfl, HX9.out.2⟩
            rw [results_cell_tmp2 rfl]
            unfold rpV
            go_simp
            exact ⟨rfl, rfl, rfl, rfl⟩
          · have c4z : ¬ ((s.size : Int) - (a20 : Int)) < (szC : Int) := by omega
            rw [if_neg c4] at HR20
            have hext := ext_take s a20 szC
            obtain ⟨bd, hbd⟩ : ∃ bd, (s.data.toList.drop a20).take szC = bd := ⟨_, rfl⟩
            rw [hbd] at hext HR20
            obtain ⟨W8, hW8⟩ : ∃ W8, w20.setCell ⟨w.heap.size + 1 + 1, 1, none⟩ (.string (mkB bd)) = W8 := ⟨_, rfl⟩
            have HS8 : Hid (RdS w { rC with body := bd } W8) := by rw [Hid, ← hW8]; exact HS20.out.body bd
            have f7 := HS20.out.x2.free 1
            have g7 := HS20.out.x2.cells.2.1
            have hsz2 : a20 + szC ≤ s.size := by omega
            obtain ⟨t20, ht20⟩ : ∃ t20 : Nat, a20 + szC = t20 := ⟨_, rfl⟩
            have ht20z : (a20 : Int) + (szC : Int) = (t20 : Int) := by omega
            rw [ht20] at hext HR20
            have hle20 : a20 ≤ t20 := by omega
            have hle21 : t20 ≤ s.size := by omega
            clear ht20 hcmp c4 hsz2 hbd
            go_upto_region 51 with fail
            try rw [hext]
            try rw [hW8]
            clear hW8 f7 g7 hext
            obtain ⟨k0, k1, k2, k3⟩ := HS8.out.x0.zero
            obtain ⟨a0, a1, a2, a3⟩ := HS8.out.x2.cells
            have f0 := HS8.out.x0.free 0
            have f1 := HS8.out.x0.free 1
            have f2 := HS8.out.x0.free 2
            have f3 := HS8.out.x0.free 3
            obtain ⟨rD, hrD⟩ : ∃ rD : Rp, { rC with body := bd } = rD := ⟨_, rfl⟩
            have HR21 : Hid (rdQ 204 false cook true s.data.toList = (rD, t20, 0)) := by rw [Hid, ← hrD]; exact HR20.out
            clear HR20
            obtain ⟨W9, hW9⟩ : ∃ W9, set4 W8 w.heap.size rD = W9 := ⟨_, rfl⟩
            have HX9 : RpB W9 w.heap.size rD := by rw [← hW9]; exact HS8.out.x0.set4 _
            have HB9 : Hid (Below w.heap.size w W9) := by
              rw [Hid, ← hW9]
              have q : Keeps (fun _ => False) w (set4 W8 w.heap.size rD) := set4_keeps (Keeps.of_below HS8.out.b) (Nat.le_refl _) _
              exact q.below (Nat.le_refl _) (fun k f => f.elim)
            obtain ⟨x0, x1, x2, x3⟩ := HX9.cells
            rw [hrD] at a0 a1 a2 a3
            have HW9 : Hid (set4 W8 w.heap.size rD = W9) := hW9
            unfold set4 at HW9
            clear HX9 hW9 hrD
            go_wp2_with fail
            rw [HW9.out]
            refine bodyPost_ret (v := rqV (rD, t20, 0)) ?_ rfl ⟨by rw [HR21.out], HB9.out⟩
            rw [results_cell_tmp2 rfl]
            unfold rqV rpV
            go_simp
        · have HR20 : Hid (rdQ 204 false cook true s.data.toList = badQ (if (s.data.toList.drop aC).isPrefixOf (endT true) = true then 20 else 180)) := by
            rw [Hid, HRC.out]
            unfold endQ
            rw [hcC']
            rw [then_mis p20]
          rw [show (⟨#[67, 111, 110, 110, 101, 99, 116, 105, 111, 110, 58, 32, 99, 108, 111, 115, 101, 13, 10, 13, 10]⟩ : ByteArray).data.toList = endT true from rfl, lin_mis (a := aC) p20] at HL20
          obtain ⟨sh, hsh⟩ : ∃ sh, (s.data.toList.drop aC).isPrefixOf (endT true) = sh := ⟨_, rfl⟩
          rw [hsh] at HL20 HR20
          have HF : Hid (∀ W : World, _) := fun W => HFL.out sh W
          obtain ⟨er, her⟩ : ∃ er : Int, (if sh = true then (20 : Int) else 180) = er := ⟨_, rfl⟩
          rw [her] at HF HR20
          clear hsh her p20
          go_upto_region 47 with (go_at_call 38; refine (HL20.out _).mono ?_; rintro e w20 ⟨rfl, b2⟩; have HS20 : Hid (RdS w rC w20) := HSC.out.below b2; clear b2)
          obtain ⟨k0, k1, k2, k3⟩ := HS20.out.x0.zero
          obtain ⟨a0, a1, a2, a3⟩ := HS20.out.x1.zero
          have f0 := HS20.out.x0.free 0
          have f1 := HS20.out.x0.free 1
          have f2 := HS20.out.x0.free 2
          have f3 := HS20.out.x0.free 3
          obtain ⟨W9, hW9⟩ : ∃ W9, clr w w20 = W9 := ⟨_, rfl⟩
          have HX9 : Hid (RpB W9 w.heap.size (rpl0 0) ∧ Below w.heap.size w W9) := by rw [Hid, ← hW9]; exact HS20.out.clr
          obtain ⟨x0, x1, x2, x3⟩ := HX9.out.1.zero
          have HW9 : Hid (clr w w20 = W9) := hW9
          unfold clr at HW9
          clear hW9
          go_region_with (go_at_call 39; refine (HF.out _).mono ?_; rintro e w4 ⟨rfl, rfl⟩)
          all_goals
            rw [HW9.out]
            go_wp2_with fail
            refine bodyPost_ret (v := .tuple #[rpV (rpl0 0), .int .i64 0, .int .i64 er]) ?_ rfl ⟨by rw [HR20.out]; rfl, HX9.out.2.drew⟩
            rw [results_cell_tmp2 rfl]
            unfold rpV
            go_simp
            exact ⟨rfl, rfl, rfl, rfl⟩
  · have HR5 : Hid (rdQ 204 false cook cl s.data.toList = badQ (if (s.data.toList.drop 0).isPrefixOf (b1.data.toList) = true then 20 else 180)) := by
      rw [Hid, HRD.out]
      rw [then_mis p5]
    rw [lin_mis (a := 0) p5] at HL5
    obtain ⟨sh, hsh⟩ : ∃ sh, (s.data.toList.drop 0).isPrefixOf (b1.data.toList) = sh := ⟨_, rfl⟩
    rw [hsh] at HL5 HR5
    have HF : Hid (∀ W : World, _) := fun W => HFL.out sh W
    obtain ⟨er, her⟩ : ∃ er : Int, (if sh = true then (20 : Int) else 180) = er := ⟨_, rfl⟩
    rw [her] at HF HR5
    clear hsh her p5
    go_upto_region 12 with (go_at_call 38; refine (HL5.out _).mono ?_; rintro e w5 ⟨rfl, b2⟩; have HS5 : Hid (RdS w ⟨204, [], [], cl⟩ w5) := HS1.out.below b2; clear b2)
    obtain ⟨k0, k1, k2, k3⟩ := HS5.out.x0.zero
    obtain ⟨a0, a1, a2, a3⟩ := HS5.out.x1.zero
    have f0 := HS5.out.x0.free 0
    have f1 := HS5.out.x0.free 1
    have f2 := HS5.out.x0.free 2
    have f3 := HS5.out.x0.free 3
    obtain ⟨W9, hW9⟩ : ∃ W9, clr w w5 = W9 := ⟨_, rfl⟩
    have HX9 : Hid (RpB W9 w.heap.size (rpl0 0) ∧ Below w.heap.size w W9) := by rw [Hid, ← hW9]; exact HS5.out.clr
    obtain ⟨x0, x1, x2, x3⟩ := HX9.out.1.zero
    have HW9 : Hid (clr w w5 = W9) := hW9
    unfold clr at HW9
    clear hW9
    go_region_with (go_at_call 39; refine (HF.out _).mono ?_; rintro e w4 ⟨rfl, rfl⟩)
    all_goals
      rw [HW9.out]
      go_wp2_with fail
      refine bodyPost_ret (v := .tuple #[rpV (rpl0 0), .int .i64 0, .int .i64 er]) ?_ rfl ⟨by rw [HR5.out]; rfl, HX9.out.2.drew⟩
      rw [results_cell_tmp2 rfl]
      unfold rpV
      go_simp
      exact ⟨rfl, rfl, rfl, rfl⟩
end Go.Proofs.YtdkbgbhcnbmlfaaDoor
