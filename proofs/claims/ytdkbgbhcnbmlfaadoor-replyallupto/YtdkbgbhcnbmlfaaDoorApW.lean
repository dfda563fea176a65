/-
  The walk of ReplyApart.
-/
import Derived.Test.YtdkbgbhcnbmlfaaDoorQck
namespace Go.Proofs.YtdkbgbhcnbmlfaaDoor
open Go.RowKit
theorem wrR_ok {r : Rp} (h : okR r = true) : wrR r = (wrL r, 0) := by unfold wrR; rw [if_pos h]
theorem wrR_no {r : Rp} (h : okR r = false) : wrR r = ([], 180) := by unfold wrR; rw [if_neg (by rw [h]; decide)]
theorem chkR_ok {r : Rp} (h : okR r = true) : chkR r = 0 := by unfold chkR; rw [if_pos h]
theorem chkR_no {r : Rp} (h : okR r = false) : chkR r = 180 := by unfold chkR; rw [if_neg (by rw [h]; decide)]
theorem pre_ne {a b : Rp} (ha : okR a = true) (hb : okR b = true) (hne : a ≠ b) : ((mkB (wrL b)).extract 0 (mkB (wrL a)).size).toList ≠ (mkB (wrL a)).toList := fun h => by
  rw [ByteArray.toList_eq, ByteArray.toList_eq, mkB_size, mkB_pre, mkB_list, mkB_list] at h
  exact hne (wr_inj ha hb (q := (wrL b).drop (wrL a).length) (by conv => lhs; rw [← List.take_append_drop (wrL a).length (wrL b), h]))
theorem pre_self (a : List UInt8) : ((mkB a).extract 0 (mkB a).size) = mkB a := by simp
theorem wrL_len {r : Rp} (h : okR r = true) : (wrL r).length ≤ 10000000 := by
  obtain ⟨o1, o2, o3, o4, o5⟩ := ok_parts h
  have h1 := bSt_size (ok_sts o1)
  have h2 := itB_ten (n := (r.body.length : Nat)) (by omega) (by omega)
  have e1 : (bSt r).data.toList.length = (bSt r).size := size_list _
  have e2 : (bLn r).data.toList.length ≤ 100 := by
    rw [size_list]
    unfold bLn
    rw [ByteArray.size_append, ByteArray.size_append]
    show 16 + _ + 2 ≤ _
    omega
  have e3 : (bCk r).data.toList.length ≤ 1000 := by
    rw [size_list]
    unfold bCk
    rw [ByteArray.size_append, ByteArray.size_append, mkB_size]
    show 12 + _ + 2 ≤ _
    omega
  have e4 : (if r.body.isEmpty = true then ([] : List UInt8) else (opn 0).data.toList).length ≤ 32 := by split <;> decide
  have e5 : (if r.close = true then (opn 3).data.toList else ([] : List UInt8)).length ≤ 19 := by split <;> decide
  have e6 : (if r.status = 204 then ([] : List UInt8) else (bLn r).data.toList).length ≤ 100 := by split; exact Nat.zero_le _; exact e2
  have e7 : (if r.cookie.isEmpty = true then ([] : List UInt8) else (bCk r).data.toList).length ≤ 1000 := by split; exact Nat.zero_le _; exact e3
  have e8 : crlf.data.toList.length = 2 := rfl
  unfold wrL
  simp only [List.length_append]
  omega
set_option maxRecDepth 20000 in
set_option maxHeartbeats 16000000 in
theorem apart_walk (a b : Rp) (ha : rpZ a) (hb : rpZ b) (w : World) (ht : TabP w) : Calls Tryd.prog 8 #[rpV a, rpV b] w fun e w' => e = .returned (.bool true) ∧ Below w.heap.size w w' := by
  have HTB : Hid (∀ W, Below w.heap.size w W → TabP W) := fun W q => tab_below ht q
  have H1 : Hid (∀ W, Below w.heap.size w W → _) := fun W q => awake_any W (HTB.out W q)
  have H2 : Hid (∀ W, Below w.heap.size w W → _) := fun W q => write_any a ha W (HTB.out W q)
  have H3 : Hid (∀ W, Below w.heap.size w W → _) := fun W q => write_any b hb W (HTB.out W q)
  have H4 : Hid (∀ W : World, _) := fun W => qcheck_any a ha W
  have H5 : Hid (∀ W : World, _) := fun W => qcheck_any b hb W
  obtain ⟨W0, hW0⟩ : ∃ W0, (w.alloc (.cells (rpA a) 23)).alloc (.cells (rpA b) 23) = W0 := ⟨_, rfl⟩
  have HB0 : Hid (Below w.heap.size w W0) := by rw [Hid, ← hW0]; exact ((Below.refl _ _).alloc (Nat.le_refl _) _).alloc (by simp) _
  have HX0 : Hid (RpB W0 w.heap.size a) := by rw [Hid, ← hW0]; exact (show RpB (w.alloc (.cells (rpA a) 23)) w.heap.size a from block_alloc_at _ _).below ((Below.refl _ _).alloc (Nat.le_refl _) _)
  have HY0 : Hid (RpB W0 (w.heap.size + 1) b) := by
    have := block_alloc_at (w.alloc (.cells (rpA a) 23)) (.cells (rpA b) 23)
    rw [hW0, World.size_alloc] at this
    exact this
  have HW0 : Hid ((w.alloc (.cells (rpA a) 23)).alloc (.cells (rpA b) 23) = W0) := hW0
  have HCA : Hid (∀ W, RpB W w.heap.size a → _) := fun W q => RpB.cells q
  have HCB : Hid (∀ W, RpB W (w.heap.size + 1) b → _) := fun W q => RpB.cells q
  unfold rpA at HW0
  unfold rpV at H2 H3 H4 H5 ⊢
  clear hW0 ht
  cases hoa : okR a with
  | false =>
    rw [wrR_no hoa] at H2
    rw [chkR_no hoa] at H4
    cases hob : okR b with
    | false =>
      rw [wrR_no hob] at H3
      rw [chkR_no hob] at H5
      clear hoa hob
      go_enter Tryd.func8, Tryd.ntmps8
      go_upto_region 1 with fail
      rw [HW0.out]
      go_wp2_with fail
      refine (H1.out _ HB0.out).mono ?_
      rintro e w1 ⟨rfl, b1⟩
      have HB1 : Hid (Below w.heap.size w w1) := HB0.out.trans (b1.mono HB0.out.size)
      have HX1 : Hid (RpB w1 w.heap.size a) := HX0.out.below b1
      have HY1 : Hid (RpB w1 (w.heap.size + 1) b) := HY0.out.below b1
      clear b1
      obtain ⟨c0, c1, c2, c3⟩ := HCA.out _ HX1.out
      go_wp2_with fail
      refine (H2.out _ HB1.out).mono ?_
      rintro e w2 ⟨rfl, b2⟩
      have HB2 : Hid (Below w.heap.size w w2) := HB1.out.trans (b2.mono HB1.out.size)
      have HX2 : Hid (RpB w2 w.heap.size a) := HX1.out.below b2
      have HY2 : Hid (RpB w2 (w.heap.size + 1) b) := HY1.out.below b2
      clear b2 c0 c1 c2 c3
      obtain ⟨d0, d1, d2, d3⟩ := HCB.out _ HY2.out
      go_wp2_with fail
      refine (H3.out _ HB2.out).mono ?_
      rintro e w3 ⟨rfl, b3⟩
      have HB3 : Hid (Below w.heap.size w w3) := HB2.out.trans (b3.mono HB2.out.size)
      have HX3 : Hid (RpB w3 w.heap.size a) := HX2.out.below b3
      have HY3 : Hid (RpB w3 (w.heap.size + 1) b) := HY2.out.below b3
      clear b3 d0 d1 d2 d3
      obtain ⟨c0, c1, c2, c3⟩ := HCA.out _ HX3.out
      go_wp2_with fail
      refine (H4.out _).mono ?_
      rintro e w4 ⟨rfl, b4⟩
      have HB4 : Hid (Below w.heap.size w w4) := HB3.out.trans (b4.mono HB3.out.size)
      have HY4 : Hid (RpB w4 (w.heap.size + 1) b) := HY3.out.below b4
      clear b4 c0 c1 c2 c3
      obtain ⟨d0, d1, d2, d3⟩ := HCB.out _ HY4.out
      go_wp2_with fail
      refine (H5.out _).mono ?_
      rintro e w5 ⟨rfl, b5⟩
      have HB5 : Hid (Below w.heap.size w w5) := HB4.out.trans (b5.mono HB4.out.size)
      clear b5
      go_wp2_with fail
      go_ret
      exact ⟨rfl, HB5.out⟩
    | true =>
      rw [wrR_ok hob] at H3
      rw [chkR_ok hob] at H5
      clear hoa hob
      go_enter Tryd.func8, Tryd.ntmps8
      go_upto_region 1 with fail
      rw [HW0.out]
      go_wp2_with fail
      refine (H1.out _ HB0.out).mono ?_
      rintro e w1 ⟨rfl, b1⟩
      have HB1 : Hid (Below w.heap.size w w1) := HB0.out.trans (b1.mono HB0.out.size)
      have HX1 : Hid (RpB w1 w.heap.size a) := HX0.out.below b1
      have HY1 : Hid (RpB w1 (w.heap.size + 1) b) := HY0.out.below b1
      clear b1
      obtain ⟨c0, c1, c2, c3⟩ := HCA.out _ HX1.out
      go_wp2_with fail
      refine (H2.out _ HB1.out).mono ?_
      rintro e w2 ⟨rfl, b2⟩
      have HB2 : Hid (Below w.heap.size w w2) := HB1.out.trans (b2.mono HB1.out.size)
      have HX2 : Hid (RpB w2 w.heap.size a) := HX1.out.below b2
      have HY2 : Hid (RpB w2 (w.heap.size + 1) b) := HY1.out.below b2
      clear b2 c0 c1 c2 c3
      obtain ⟨d0, d1, d2, d3⟩ := HCB.out _ HY2.out
      go_wp2_with fail
      refine (H3.out _ HB2.out).mono ?_
      rintro e w3 ⟨rfl, b3⟩
      have HB3 : Hid (Below w.heap.size w w3) := HB2.out.trans (b3.mono HB2.out.size)
      have HX3 : Hid (RpB w3 w.heap.size a) := HX2.out.below b3
      have HY3 : Hid (RpB w3 (w.heap.size + 1) b) := HY2.out.below b3
      clear b3 d0 d1 d2 d3
      obtain ⟨c0, c1, c2, c3⟩ := HCA.out _ HX3.out
      go_wp2_with fail
      refine (H4.out _).mono ?_
      rintro e w4 ⟨rfl, b4⟩
      have HB4 : Hid (Below w.heap.size w w4) := HB3.out.trans (b4.mono HB3.out.size)
      have HY4 : Hid (RpB w4 (w.heap.size + 1) b) := HY3.out.below b4
      clear b4 c0 c1 c2 c3
      obtain ⟨d0, d1, d2, d3⟩ := HCB.out _ HY4.out
      go_wp2_with fail
      refine (H5.out _).mono ?_
      rintro e w5 ⟨rfl, b5⟩
      have HB5 : Hid (Below w.heap.size w w5) := HB4.out.trans (b5.mono HB4.out.size)
      clear b5
      go_wp2_with fail
      go_ret
      exact ⟨rfl, HB5.out⟩
  | true =>
    rw [wrR_ok hoa] at H2
    rw [chkR_ok hoa] at H4
    have HLA := wrL_len hoa
    cases hob : okR b with
    | false =>
      rw [wrR_no hob] at H3
      rw [chkR_no hob] at H5
      clear hoa hob
      go_enter Tryd.func8, Tryd.ntmps8
      go_upto_region 1 with fail
      rw [HW0.out]
      go_wp2_with fail
      refine (H1.out _ HB0.out).mono ?_
      rintro e w1 ⟨rfl, b1⟩
      have HB1 : Hid (Below w.heap.size w w1) := HB0.out.trans (b1.mono HB0.out.size)
      have HX1 : Hid (RpB w1 w.heap.size a) := HX0.out.below b1
      have HY1 : Hid (RpB w1 (w.heap.size + 1) b) := HY0.out.below b1
      clear b1
      obtain ⟨c0, c1, c2, c3⟩ := HCA.out _ HX1.out
      go_wp2_with fail
      refine (H2.out _ HB1.out).mono ?_
      rintro e w2 ⟨rfl, b2⟩
      have HB2 : Hid (Below w.heap.size w w2) := HB1.out.trans (b2.mono HB1.out.size)
      have HX2 : Hid (RpB w2 w.heap.size a) := HX1.out.below b2
      have HY2 : Hid (RpB w2 (w.heap.size + 1) b) := HY1.out.below b2
      clear b2 c0 c1 c2 c3
      obtain ⟨d0, d1, d2, d3⟩ := HCB.out _ HY2.out
      go_wp2_with fail
      refine (H3.out _ HB2.out).mono ?_
      rintro e w3 ⟨rfl, b3⟩
      have HB3 : Hid (Below w.heap.size w w3) := HB2.out.trans (b3.mono HB2.out.size)
      have HX3 : Hid (RpB w3 w.heap.size a) := HX2.out.below b3
      have HY3 : Hid (RpB w3 (w.heap.size + 1) b) := HY2.out.below b3
      clear b3 d0 d1 d2 d3
      obtain ⟨c0, c1, c2, c3⟩ := HCA.out _ HX3.out
      go_wp2_with fail
      refine (H4.out _).mono ?_
      rintro e w4 ⟨rfl, b4⟩
      have HB4 : Hid (Below w.heap.size w w4) := HB3.out.trans (b4.mono HB3.out.size)
      have HY4 : Hid (RpB w4 (w.heap.size + 1) b) := HY3.out.below b4
      clear b4 c0 c1 c2 c3
      obtain ⟨d0, d1, d2, d3⟩ := HCB.out _ HY4.out
      go_wp2_with fail
      refine (H5.out _).mono ?_
      rintro e w5 ⟨rfl, b5⟩
      have HB5 : Hid (Below w.heap.size w w5) := HB4.out.trans (b5.mono HB4.out.size)
      clear b5
      go_wp2_with fail
      go_ret
      exact ⟨rfl, HB5.out⟩
    | true =>
      rw [wrR_ok hob] at H3
      have HLB := wrL_len hob
      have hsa := mkB_size (wrL a)
      have hsb := mkB_size (wrL b)
      rw [← hsa] at HLA
      rw [← hsb] at HLB
      by_cases hab : a = b
      · subst hab
        obtain ⟨A, hA⟩ : ∃ A, mkB (wrL a) = A := ⟨_, rfl⟩
        have hex := pre_self (wrL a)
        simp only [hA] at H2 H3 hex HLA
        have e0 : (A.toList == A.toList) = true := by simp
        have e1 : (a.status == a.status) = true := by simp
        have e2 : ((mkB a.body).toList == (mkB a.body).toList) = true := by simp
        have e3 : ((mkB a.cookie).toList == (mkB a.cookie).toList) = true := by simp
        have e4 : (a.close == a.close) = true := by simp
        clear hA hsa hsb HLB
        clear hoa hob
        go_enter Tryd.func8, Tryd.ntmps8
        go_upto_region 1 with fail
        rw [HW0.out]
        go_wp2_with fail
        refine (H1.out _ HB0.out).mono ?_
        rintro e w1 ⟨rfl, b1⟩
        have HB1 : Hid (Below w.heap.size w w1) := HB0.out.trans (b1.mono HB0.out.size)
        have HX1 : Hid (RpB w1 w.heap.size a) := HX0.out.below b1
        have HY1 : Hid (RpB w1 (w.heap.size + 1) a) := HY0.out.below b1
        clear b1
        obtain ⟨c0, c1, c2, c3⟩ := HCA.out _ HX1.out
        go_wp2_with fail
        refine (H2.out _ HB1.out).mono ?_
        rintro e w2 ⟨rfl, b2⟩
        have HB2 : Hid (Below w.heap.size w w2) := HB1.out.trans (b2.mono HB1.out.size)
        have HX2 : Hid (RpB w2 w.heap.size a) := HX1.out.below b2
        have HY2 : Hid (RpB w2 (w.heap.size + 1) a) := HY1.out.below b2
        clear b2 c0 c1 c2 c3
        obtain ⟨d0, d1, d2, d3⟩ := HCB.out _ HY2.out
        go_wp2_with fail
        refine (H3.out _ HB2.out).mono ?_
        rintro e w3 ⟨rfl, b3⟩
        have HB3 : Hid (Below w.heap.size w w3) := HB2.out.trans (b3.mono HB2.out.size)
        have HX3 : Hid (RpB w3 w.heap.size a) := HX2.out.below b3
        have HY3 : Hid (RpB w3 (w.heap.size + 1) a) := HY2.out.below b3
        clear b3 d0 d1 d2 d3
        obtain ⟨c0, c1, c2, c3⟩ := HCA.out _ HX3.out
        obtain ⟨d0, d1, d2, d3⟩ := HCB.out _ HY3.out
        go_wp2_with fail
        go_ret
        exact ⟨rfl, HB3.out⟩
      · by_cases hl : (wrL a).length ≤ (wrL b).length
        · have hpn := pre_ne hoa hob hab
          rw [← hsa, ← hsb] at hl
          obtain ⟨A, hA⟩ : ∃ A, mkB (wrL a) = A := ⟨_, rfl⟩
          obtain ⟨B, hB⟩ : ∃ B, mkB (wrL b) = B := ⟨_, rfl⟩
          simp only [hA] at H2 hpn hl HLA
          simp only [hB] at H3 hpn hl HLB
          have hlz : (A.size : Int) ≤ (B.size : Int) := by omega
          have e0 : ((B.extract 0 A.size).toList == A.toList) = false := by rw [beq_eq_false_iff_ne]; exact hpn
          clear hA hB hsa hsb hpn
          by_cases p1 : a.status = b.status
          · have y1 : (a.status == b.status) = true := by rw [p1]; simp
            by_cases p2 : a.body = b.body
            · have y2 : ((mkB a.body).toList == (mkB b.body).toList) = true := by rw [p2]; simp
              by_cases p3 : a.cookie = b.cookie
              · have y3 : ((mkB a.cookie).toList == (mkB b.cookie).toList) = true := by rw [p3]; simp
                have y4 : (a.close == b.close) = false := by
                  rw [beq_eq_false_iff_ne]
                  intro p4
                  apply hab
                  cases a; cases b
                  simp only at p1 p2 p3 p4
                  rw [p1, p2, p3, p4]
                clear p1 p2 p3 hab hoa hob
                go_enter Tryd.func8, Tryd.ntmps8
                go_upto_region 1 with fail
                rw [HW0.out]
                go_wp2_with fail
                refine (H1.out _ HB0.out).mono ?_
                rintro e w1 ⟨rfl, b1⟩
                have HB1 : Hid (Below w.heap.size w w1) := HB0.out.trans (b1.mono HB0.out.size)
                have HX1 : Hid (RpB w1 w.heap.size a) := HX0.out.below b1
                have HY1 : Hid (RpB w1 (w.heap.size + 1) b) := HY0.out.below b1
                clear b1
                obtain ⟨c0, c1, c2, c3⟩ := HCA.out _ HX1.out
                go_wp2_with fail
                refine (H2.out _ HB1.out).mono ?_
                rintro e w2 ⟨rfl, b2⟩
                have HB2 : Hid (Below w.heap.size w w2) := HB1.out.trans (b2.mono HB1.out.size)
                have HX2 : Hid (RpB w2 w.heap.size a) := HX1.out.below b2
                have HY2 : Hid (RpB w2 (w.heap.size + 1) b) := HY1.out.below b2
                clear b2 c0 c1 c2 c3
                obtain ⟨d0, d1, d2, d3⟩ := HCB.out _ HY2.out
                go_wp2_with fail
                refine (H3.out _ HB2.out).mono ?_
                rintro e w3 ⟨rfl, b3⟩
                have HB3 : Hid (Below w.heap.size w w3) := HB2.out.trans (b3.mono HB2.out.size)
                have HX3 : Hid (RpB w3 w.heap.size a) := HX2.out.below b3
                have HY3 : Hid (RpB w3 (w.heap.size + 1) b) := HY2.out.below b3
                clear b3 d0 d1 d2 d3
                obtain ⟨c0, c1, c2, c3⟩ := HCA.out _ HX3.out
                obtain ⟨d0, d1, d2, d3⟩ := HCB.out _ HY3.out
                go_wp2_with fail
                go_ret
                exact ⟨rfl, HB3.out⟩
              · have y3 : ((mkB a.cookie).toList == (mkB b.cookie).toList) = false := by
                  rw [ByteArray.toList_eq, ByteArray.toList_eq, mkB_list, mkB_list, beq_eq_false_iff_ne]
                  exact p3
                clear p1 p2 p3 hab hoa hob
                go_enter Tryd.func8, Tryd.ntmps8
                go_upto_region 1 with fail
                rw [HW0.out]
                go_wp2_with fail
                refine (H1.out _ HB0.out).mono ?_
                rintro e w1 ⟨rfl, b1⟩
                have HB1 : Hid (Below w.heap.size w w1) := HB0.out.trans (b1.mono HB0.out.size)
                have HX1 : Hid (RpB w1 w.heap.size a) := HX0.out.below b1
                have HY1 : Hid (RpB w1 (w.heap.size + 1) b) := HY0.out.below b1
                clear b1
                obtain ⟨c0, c1, c2, c3⟩ := HCA.out _ HX1.out
                go_wp2_with fail
                refine (H2.out _ HB1.out).mono ?_
                rintro e w2 ⟨rfl, b2⟩
                have HB2 : Hid (Below w.heap.size w w2) := HB1.out.trans (b2.mono HB1.out.size)
                have HX2 : Hid (RpB w2 w.heap.size a) := HX1.out.below b2
                have HY2 : Hid (RpB w2 (w.heap.size + 1) b) := HY1.out.below b2
                clear b2 c0 c1 c2 c3
                obtain ⟨d0, d1, d2, d3⟩ := HCB.out _ HY2.out
                go_wp2_with fail
                refine (H3.out _ HB2.out).mono ?_
                rintro e w3 ⟨rfl, b3⟩
                have HB3 : Hid (Below w.heap.size w w3) := HB2.out.trans (b3.mono HB2.out.size)
                have HX3 : Hid (RpB w3 w.heap.size a) := HX2.out.below b3
                have HY3 : Hid (RpB w3 (w.heap.size + 1) b) := HY2.out.below b3
                clear b3 d0 d1 d2 d3
                obtain ⟨c0, c1, c2, c3⟩ := HCA.out _ HX3.out
                obtain ⟨d0, d1, d2, d3⟩ := HCB.out _ HY3.out
                go_wp2_with fail
                go_ret
                exact ⟨rfl, HB3.out⟩
            · have y2 : ((mkB a.body).toList == (mkB b.body).toList) = false := by
                rw [ByteArray.toList_eq, ByteArray.toList_eq, mkB_list, mkB_list, beq_eq_false_iff_ne]
                exact p2
              clear p1 p2 hab hoa hob
              go_enter Tryd.func8, Tryd.ntmps8
              go_upto_region 1 with fail
              rw [HW0.out]
              go_wp2_with fail
              refine (H1.out _ HB0.out).mono ?_
              rintro e w1 ⟨rfl, b1⟩
              have HB1 : Hid (Below w.heap.size w w1) := HB0.out.trans (b1.mono HB0.out.size)
              have HX1 : Hid (RpB w1 w.heap.size a) := HX0.out.below b1
              have HY1 : Hid (RpB w1 (w.heap.size + 1) b) := HY0.out.below b1
              clear b1
              obtain ⟨c0, c1, c2, c3⟩ := HCA.out _ HX1.out
              go_wp2_with fail
              refine (H2.out _ HB1.out).mono ?_
              rintro e w2 ⟨rfl, b2⟩
              have HB2 : Hid (Below w.heap.size w w2) := HB1.out.trans (b2.mono HB1.out.size)
              have HX2 : Hid (RpB w2 w.heap.size a) := HX1.out.below b2
              have HY2 : Hid (RpB w2 (w.heap.size + 1) b) := HY1.out.below b2
              clear b2 c0 c1 c2 c3
              obtain ⟨d0, d1, d2, d3⟩ := HCB.out _ HY2.out
              go_wp2_with fail
              refine (H3.out _ HB2.out).mono ?_
              rintro e w3 ⟨rfl, b3⟩
              have HB3 : Hid (Below w.heap.size w w3) := HB2.out.trans (b3.mono HB2.out.size)
              have HX3 : Hid (RpB w3 w.heap.size a) := HX2.out.below b3
              have HY3 : Hid (RpB w3 (w.heap.size + 1) b) := HY2.out.below b3
              clear b3 d0 d1 d2 d3
              obtain ⟨c0, c1, c2, c3⟩ := HCA.out _ HX3.out
              obtain ⟨d0, d1, d2, d3⟩ := HCB.out _ HY3.out
              go_wp2_with fail
              go_ret
              exact ⟨rfl, HB3.out⟩
          · have y1 : (a.status == b.status) = false := by rw [beq_eq_false_iff_ne]; exact p1
            clear p1 hab hoa hob
            go_enter Tryd.func8, Tryd.ntmps8
            go_upto_region 1 with fail
            rw [HW0.out]
            go_wp2_with fail
            refine (H1.out _ HB0.out).mono ?_
            rintro e w1 ⟨rfl, b1⟩
            have HB1 : Hid (Below w.heap.size w w1) := HB0.out.trans (b1.mono HB0.out.size)
            have HX1 : Hid (RpB w1 w.heap.size a) := HX0.out.below b1
            have HY1 : Hid (RpB w1 (w.heap.size + 1) b) := HY0.out.below b1
            clear b1
            obtain ⟨c0, c1, c2, c3⟩ := HCA.out _ HX1.out
            go_wp2_with fail
            refine (H2.out _ HB1.out).mono ?_
            rintro e w2 ⟨rfl, b2⟩
            have HB2 : Hid (Below w.heap.size w w2) := HB1.out.trans (b2.mono HB1.out.size)
            have HX2 : Hid (RpB w2 w.heap.size a) := HX1.out.below b2
            have HY2 : Hid (RpB w2 (w.heap.size + 1) b) := HY1.out.below b2
            clear b2 c0 c1 c2 c3
            obtain ⟨d0, d1, d2, d3⟩ := HCB.out _ HY2.out
            go_wp2_with fail
            refine (H3.out _ HB2.out).mono ?_
            rintro e w3 ⟨rfl, b3⟩
            have HB3 : Hid (Below w.heap.size w w3) := HB2.out.trans (b3.mono HB2.out.size)
            have HX3 : Hid (RpB w3 w.heap.size a) := HX2.out.below b3
            have HY3 : Hid (RpB w3 (w.heap.size + 1) b) := HY2.out.below b3
            clear b3 d0 d1 d2 d3
            obtain ⟨c0, c1, c2, c3⟩ := HCA.out _ HX3.out
            obtain ⟨d0, d1, d2, d3⟩ := HCB.out _ HY3.out
            go_wp2_with fail
            go_ret
            exact ⟨rfl, HB3.out⟩
        · rw [← hsa, ← hsb] at hl
          obtain ⟨A, hA⟩ : ∃ A, mkB (wrL a) = A := ⟨_, rfl⟩
          obtain ⟨B, hB⟩ : ∃ B, mkB (wrL b) = B := ⟨_, rfl⟩
          simp only [hA] at H2 hl HLA
          simp only [hB] at H3 hl HLB
          have hlz : ¬ (A.size : Int) ≤ (B.size : Int) := by omega
          clear hA hB hsa hsb
          by_cases p1 : a.status = b.status
          · have y1 : (a.status == b.status) = true := by rw [p1]; simp
            by_cases p2 : a.body = b.body
            · have y2 : ((mkB a.body).toList == (mkB b.body).toList) = true := by rw [p2]; simp
              by_cases p3 : a.cookie = b.cookie
              · have y3 : ((mkB a.cookie).toList == (mkB b.cookie).toList) = true := by rw [p3]; simp
                have y4 : (a.close == b.close) = false := by
                  rw [beq_eq_false_iff_ne]
                  intro p4
                  apply hab
                  cases a; cases b
                  simp only at p1 p2 p3 p4
                  rw [p1, p2, p3, p4]
                clear p1 p2 p3 hab hoa hob
                go_enter Tryd.func8, Tryd.ntmps8
                go_upto_region 1 with fail
                rw [HW0.out]
                go_wp2_with fail
                refine (H1.out _ HB0.out).mono ?_
                rintro e w1 ⟨rfl, b1⟩
                have HB1 : Hid (Below w.heap.size w w1) := HB0.out.trans (b1.mono HB0.out.size)
                have HX1 : Hid (RpB w1 w.heap.size a) := HX0.out.below b1
                have HY1 : Hid (RpB w1 (w.heap.size + 1) b) := HY0.out.below b1
                clear b1
                obtain ⟨c0, c1, c2, c3⟩ := HCA.out _ HX1.out
                go_wp2_with fail
                refine (H2.out _ HB1.out).mono ?_
                rintro e w2 ⟨rfl, b2⟩
                have HB2 : Hid (Below w.heap.size w w2) := HB1.out.trans (b2.mono HB1.out.size)
                have HX2 : Hid (RpB w2 w.heap.size a) := HX1.out.below b2
                have HY2 : Hid (RpB w2 (w.heap.size + 1) b) := HY1.out.below b2
                clear b2 c0 c1 c2 c3
                obtain ⟨d0, d1, d2, d3⟩ := HCB.out _ HY2.out
                go_wp2_with fail
                refine (H3.out _ HB2.out).mono ?_
                rintro e w3 ⟨rfl, b3⟩
                have HB3 : Hid (Below w.heap.size w w3) := HB2.out.trans (b3.mono HB2.out.size)
                have HX3 : Hid (RpB w3 w.heap.size a) := HX2.out.below b3
                have HY3 : Hid (RpB w3 (w.heap.size + 1) b) := HY2.out.below b3
                clear b3 d0 d1 d2 d3
                obtain ⟨c0, c1, c2, c3⟩ := HCA.out _ HX3.out
                obtain ⟨d0, d1, d2, d3⟩ := HCB.out _ HY3.out
                go_wp2_with fail
                go_ret
                exact ⟨rfl, HB3.out⟩
              · have y3 : ((mkB a.cookie).toList == (mkB b.cookie).toList) = false := by
                  rw [ByteArray.toList_eq, ByteArray.toList_eq, mkB_list, mkB_list, beq_eq_false_iff_ne]
                  exact p3
                clear p1 p2 p3 hab hoa hob
                go_enter Tryd.func8, Tryd.ntmps8
                go_upto_region 1 with fail
                rw [HW0.out]
                go_wp2_with fail
                refine (H1.out _ HB0.out).mono ?_
                rintro e w1 ⟨rfl, b1⟩
                have HB1 : Hid (Below w.heap.size w w1) := HB0.out.trans (b1.mono HB0.out.size)
                have HX1 : Hid (RpB w1 w.heap.size a) := HX0.out.below b1
                have HY1 : Hid (RpB w1 (w.heap.size + 1) b) := HY0.out.below b1
                clear b1
                obtain ⟨c0, c1, c2, c3⟩ := HCA.out _ HX1.out
                go_wp2_with fail
                refine (H2.out _ HB1.out).mono ?_
                rintro e w2 ⟨rfl, b2⟩
                have HB2 : Hid (Below w.heap.size w w2) := HB1.out.trans (b2.mono HB1.out.size)
                have HX2 : Hid (RpB w2 w.heap.size a) := HX1.out.below b2
                have HY2 : Hid (RpB w2 (w.heap.size + 1) b) := HY1.out.below b2
                clear b2 c0 c1 c2 c3
                obtain ⟨d0, d1, d2, d3⟩ := HCB.out _ HY2.out
                go_wp2_with fail
                refine (H3.out _ HB2.out).mono ?_
                rintro e w3 ⟨rfl, b3⟩
                have HB3 : Hid (Below w.heap.size w w3) := HB2.out.trans (b3.mono HB2.out.size)
                have HX3 : Hid (RpB w3 w.heap.size a) := HX2.out.below b3
                have HY3 : Hid (RpB w3 (w.heap.size + 1) b) := HY2.out.below b3
                clear b3 d0 d1 d2 d3
                obtain ⟨c0, c1, c2, c3⟩ := HCA.out _ HX3.out
                obtain ⟨d0, d1, d2, d3⟩ := HCB.out _ HY3.out
                go_wp2_with fail
                go_ret
                exact ⟨rfl, HB3.out⟩
            · have y2 : ((mkB a.body).toList == (mkB b.body).toList) = false := by
                rw [ByteArray.toList_eq, ByteArray.toList_eq, mkB_list, mkB_list, beq_eq_false_iff_ne]
                exact p2
              clear p1 p2 hab hoa hob
              go_enter Tryd.func8, Tryd.ntmps8
              go_upto_region 1 with fail
              rw [HW0.out]
              go_wp2_with fail
              refine (H1.out _ HB0.out).mono ?_
              rintro e w1 ⟨rfl, b1⟩
              have HB1 : Hid (Below w.heap.size w w1) := HB0.out.trans (b1.mono HB0.out.size)
              have HX1 : Hid (RpB w1 w.heap.size a) := HX0.out.below b1
              have HY1 : Hid (RpB w1 (w.heap.size + 1) b) := HY0.out.below b1
              clear b1
              obtain ⟨c0, c1, c2, c3⟩ := HCA.out _ HX1.out
              go_wp2_with fail
              refine (H2.out _ HB1.out).mono ?_
              rintro e w2 ⟨rfl, b2⟩
              have HB2 : Hid (Below w.heap.size w w2) := HB1.out.trans (b2.mono HB1.out.size)
              have HX2 : Hid (RpB w2 w.heap.size a) := HX1.out.below b2
              have HY2 : Hid (RpB w2 (w.heap.size + 1) b) := HY1.out.below b2
              clear b2 c0 c1 c2 c3
              obtain ⟨d0, d1, d2, d3⟩ := HCB.out _ HY2.out
              go_wp2_with fail
              refine (H3.out _ HB2.out).mono ?_
              rintro e w3 ⟨rfl, b3⟩
              have HB3 : Hid (Below w.heap.size w w3) := HB2.out.trans (b3.mono HB2.out.size)
              have HX3 : Hid (RpB w3 w.heap.size a) := HX2.out.below b3
              have HY3 : Hid (RpB w3 (w.heap.size + 1) b) := HY2.out.below b3
              clear b3 d0 d1 d2 d3
              obtain ⟨c0, c1, c2, c3⟩ := HCA.out _ HX3.out
              obtain ⟨d0, d1, d2, d3⟩ := HCB.out _ HY3.out
              go_wp2_with fail
              go_ret
              exact ⟨rfl, HB3.out⟩
          · have y1 : (a.status == b.status) = false := by rw [beq_eq_false_iff_ne]; exact p1
            clear p1 hab hoa hob
            go_enter Tryd.func8, Tryd.ntmps8
            go_upto_region 1 with fail
            rw [HW0.out]
            go_wp2_with fail
            refine (H1.out _ HB0.out).mono ?_
            rintro e w1 ⟨rfl, b1⟩
            have HB1 : Hid (Below w.heap.size w w1) := HB0.out.trans (b1.mono HB0.out.size)
            have HX1 : Hid (RpB w1 w.heap.size a) := HX0.out.below b1
            have HY1 : Hid (RpB w1 (w.heap.size + 1) b) := HY0.out.below b1
            clear b1
            obtain ⟨c0, c1, c2, c3⟩ := HCA.out _ HX1.out
            go_wp2_with fail
            refine (H2.out _ HB1.out).mono ?_
            rintro e w2 ⟨rfl, b2⟩
            have HB2 : Hid (Below w.heap.size w w2) := HB1.out.trans (b2.mono HB1.out.size)
            have HX2 : Hid (RpB w2 w.heap.size a) := HX1.out.below b2
            have HY2 : Hid (RpB w2 (w.heap.size + 1) b) := HY1.out.below b2
            clear b2 c0 c1 c2 c3
            obtain ⟨d0, d1, d2, d3⟩ := HCB.out _ HY2.out
            go_wp2_with fail
            refine (H3.out _ HB2.out).mono ?_
            rintro e w3 ⟨rfl, b3⟩
            have HB3 : Hid (Below w.heap.size w w3) := HB2.out.trans (b3.mono HB2.out.size)
            have HX3 : Hid (RpB w3 w.heap.size a) := HX2.out.below b3
            have HY3 : Hid (RpB w3 (w.heap.size + 1) b) := HY2.out.below b3
            clear b3 d0 d1 d2 d3
            obtain ⟨c0, c1, c2, c3⟩ := HCA.out _ HX3.out
            obtain ⟨d0, d1, d2, d3⟩ := HCB.out _ HY3.out
            go_wp2_with fail
            go_ret
            exact ⟨rfl, HB3.out⟩
end Go.Proofs.YtdkbgbhcnbmlfaaDoor
