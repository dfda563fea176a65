/-
  The contract of the twin's Write.
-/
import Derived.Test.YtdkbgbhcnbmlfaaDoorQdg
import Derived.Test.YtdkbgbhcnbmlfaaDoorApW
import Derived.Deep.RegionHeld
namespace Go.Proofs.YtdkbgbhcnbmlfaaDoor
open Go.RowKit
set_option maxRecDepth 20000 in
set_option maxHeartbeats 16000000 in
theorem qwrite_any (r : Rp) (hz : rpZ r) (w : World) : Calls Tryd.prog 13 #[rpV r] w fun e w' => e = .returned (.tuple #[.string (mkB (wrR r).1), .int .i64 (wrR r).2]) ∧ Below w.heap.size w w' := by
  have H1 : Hid (∀ W : World, _) := fun W => qcheck_any r hz W
  obtain ⟨W0, hW0⟩ : ∃ W0, w.alloc (.cells (rpA r) 23) = W0 := ⟨_, rfl⟩
  have HB0 : Hid (Below w.heap.size w W0) := by rw [Hid, ← hW0]; exact (Below.refl _ _).alloc (Nat.le_refl _) _
  have HX0 : Hid (RpB W0 w.heap.size r) := by rw [Hid, ← hW0]; exact block_alloc_at _ _
  cases hok : okR r with
  | false =>
    rw [chkR_no hok] at H1
    rw [wrR_no hok]
    obtain ⟨c0, c1, c2, c3⟩ := HX0.out.cells
    unfold rpA at hW0
    unfold rpV at H1 ⊢
    clear hok
    go_enter Tryd.func13, Tryd.ntmps13
    go_wp2_with fail
    try rw [hW0]
    refine (H1.out _).mono ?_
    rintro e w1 ⟨rfl, b1⟩
    go_wp2_with fail
    go_ret2
    exact ⟨rfl, HB0.out.trans (b1.mono HB0.out.size)⟩
  | true =>
    rw [chkR_ok hok] at H1
    rw [wrR_ok hok]
    obtain ⟨o1, o2, o3, o4, o5⟩ := ok_parts hok
    have hsm := ok_sts o1
    have hss := sts_mem hsm
    have HB204 : Hid (r.status = 204 → r.body.isEmpty = true) := o3
    obtain ⟨sn, hsn⟩ : ∃ sn : Nat, r.status = (sn : Int) := ⟨r.status.toNat, by omega⟩
    have H2 : Hid (∀ W : World, _) := fun W => qdigits_any sn (by omega) W
    rw [← hsn] at H2
    have H3 : Hid (∀ W : World, _) := fun W => qwords_any r.status W
    have H4 : Hid (∀ W : World, _) := fun W => qdigits_any r.body.length (by omega) W
    have hz2 := itB_ten (n := (r.body.length : Nat)) (by omega) (by omega)
    have hz3 := sts_it _ hsm
    have hz4 := sts_wd _ hsm
    have HST : Hid ((bSt r) = ⟨#[72, 84, 84, 80, 47, 49, 46, 49, 32]⟩ ++ itB r.status ++ ⟨#[32]⟩ ++ wordsR r.status ++ ⟨#[13, 10]⟩) := rfl
    have HZ1 := bSt_size hsm
    have HWL : Hid (mkB (wrL r) = mkB ((bSt r).data.toList ++ (if r.body.isEmpty = true then [] else (opn 0).data.toList) ++ (if r.status = 204 then [] else (bLn r).data.toList) ++ (if r.cookie.isEmpty = true then [] else (bCk r).data.toList) ++ (if r.close = true then (opn 3).data.toList else []) ++ (crlf.data.toList ++ r.body))) := rfl
    have HLE : Hid ((bLn r).data.toList = (⟨#[67, 111, 110, 116, 101, 110, 116, 45, 76, 101, 110, 103, 116, 104, 58, 32]⟩ ++ itB (r.body.length : Nat) ++ ⟨#[13, 10]⟩ : ByteArray).data.toList) := rfl
    have HCE : Hid ((bCk r).data.toList = (⟨#[83, 101, 116, 45, 67, 111, 111, 107, 105, 101, 58, 32]⟩ ++ mkB r.cookie ++ ⟨#[13, 10]⟩ : ByteArray).data.toList) := rfl
    rw [HLE.out, HCE.out] at HWL
    have hbs := mkB_size r.body
    have hcs := mkB_size r.cookie
    have HBL : Hid ((mkB r.body).data.toList = r.body) := mkB_list _
    have HEB : Hid ((mkB r.body).toList.isEmpty = r.body.isEmpty) := mkB_empty _
    have HEC : Hid ((mkB r.cookie).toList.isEmpty = r.cookie.isEmpty) := mkB_empty _
    rw [← HBL.out] at HWL
    rw [HBL.out, ← hbs] at HWL
    rw [← hbs] at H4 hz2 o2
    rw [← hcs] at o4
    have HCLS : Hid (∀ W, RpB W w.heap.size r → _) := fun W q => RpB.cells q
    unfold rpA at hW0
    unfold rpV at H1 ⊢
    obtain ⟨xl, hxl⟩ : ∃ xl, itB ((mkB r.body).size : Nat) = xl := ⟨_, rfl⟩
    rw [hxl] at H4 HWL hz2
    obtain ⟨T, hT⟩ : ∃ T, mkB (wrL r) = T := ⟨_, rfl⟩
    rw [hT] at HWL ⊢
    obtain ⟨xs, hxs⟩ : ∃ xs, itB r.status = xs := ⟨_, rfl⟩
    rw [hxs] at H2 HST hz3
    obtain ⟨wd, hwd⟩ : ∃ wd, wordsR r.status = wd := ⟨_, rfl⟩
    rw [hwd] at H3 HST hz4
    obtain ⟨b1, hb1⟩ : ∃ b1, bSt r = b1 := ⟨_, rfl⟩
    rw [hb1] at HST HWL HZ1
    clear hT hxl hb1 hwd hxs hok o1 o3 o5 hbs hcs hsm hss hz HLE HCE hsn
    obtain ⟨st, bd0, ck0, cl⟩ := r
    simp only at H1 H2 H3 H4 HBL HEB HEC HWL hW0 HCLS HB204 HST ⊢
    obtain ⟨bd, hbd⟩ : ∃ bd, mkB bd0 = bd := ⟨_, rfl⟩
    obtain ⟨ck, hck⟩ : ∃ ck, mkB ck0 = ck := ⟨_, rfl⟩
    rw [hbd] at H1 H4 HBL HEB hW0 HCLS o2 ⊢
    rw [hck] at H1 HEC hW0 HCLS o4 HWL ⊢
    rw [← HBL.out] at HWL
    obtain ⟨eb, heb⟩ : ∃ eb, bd0.isEmpty = eb := ⟨_, rfl⟩
    rw [HBL.out, heb, ← HBL.out] at HWL
    rw [heb] at HEB HB204
    obtain ⟨ec, hec⟩ : ∃ ec, ck0.isEmpty = ec := ⟨_, rfl⟩
    rw [hec] at HEC HWL
    clear hbd hck heb hec
    have s1 : ¬ 9223372036854775807 < 9 + xs.size := by omega
    have s2 : ¬ 9223372036854775807 < 9 + xs.size + 1 := by omega
    have s3 : ¬ 9223372036854775807 < 9 + xs.size + 1 + wd.size := by omega
    have s4 : ¬ 9223372036854775807 < 9 + xs.size + 1 + wd.size + 2 := by omega
    have s5 : ¬ 9223372036854775807 < 16 + xl.size := by omega
    have s6 : ¬ 9223372036854775807 < 16 + xl.size + 2 := by omega
    have s7 : ¬ 9223372036854775807 < 12 + ck.size := by omega
    have s8 : ¬ 9223372036854775807 < 12 + ck.size + 2 := by omega
    have HZZ : Hid (b1.size ≤ 1000200 ∧ xl.size ≤ 10 ∧ ck.size ≤ 256 ∧ bd.size ≤ 65536) := ⟨HZ1, hz2, o4, o2⟩
    obtain ⟨c0, c1, c2, c3⟩ := HCLS.out _ HX0.out
    go_enter Tryd.func13, Tryd.ntmps13
    go_wp2_with fail
    try rw [hW0]
    refine (H1.out _).mono ?_
    rintro e w1 ⟨rfl, q1⟩
    have HB1 : Hid (Below w.heap.size w w1) := HB0.out.trans (q1.mono HB0.out.size)
    have HX1 : Hid (RpB w1 w.heap.size ⟨st, bd0, ck0, cl⟩) := HX0.out.below q1
    clear q1 c0 c1 c2 c3 hW0
    go_wp2_with fail
    refine wp_region_held_drew (S := fun W => RpB W w.heap.size ⟨st, bd0, ck0, cl⟩) (by kernel_rfl) HX1.out (fun hHeld => ?_)
    refine wpAnyH_take (i := 0) (oi := ({ dst := some 11, op := Op.fieldAddr 23 (Operand.tmp 1) 0, type := 0, pos := "ref.go:77", after := #[], guard := none } : Oper)) (v := ?_) rfl (by kernel_rfl) (by kernel_rfl) (by kernel_rfl) (fun _ _ _ h => h) (Or.inl ⟨by rfl, ?_⟩) (by assumption) ?_
    rotate_left
    · (intro w hSw; go_simp; try with_reducible rfl)
    try simp only [Act.put, List.setIfInBounds_toArray, List.set_cons_zero, List.set_cons_succ]
    refine wpAnyH_take (i := 1) (oi := ({ dst := some 12, op := Op.load 3 (Operand.tmp 11), type := 3, pos := "ref.go:77", after := #[{ on := 0, ground := Ground.data }], guard := none } : Oper)) (v := ?_) rfl (by kernel_rfl) (by kernel_rfl) (by kernel_rfl) (fun _ _ _ h => h) (Or.inl ⟨by rfl, ?_⟩) (by assumption) ?_
    rotate_left
    · (intro w hSw; obtain ⟨c0, c1, c2, c3⟩ := HCLS.out _ hSw; go_simp; try with_reducible rfl)
    try simp only [Act.put, List.setIfInBounds_toArray, List.set_cons_zero, List.set_cons_succ]
    refine wpAnyH_take (i := 5) (oi := ({ dst := some 16, op := Op.fieldAddr 23 (Operand.tmp 1) 0, type := 0, pos := "ref.go:77", after := #[], guard := none } : Oper)) (v := ?_) rfl (by kernel_rfl) (by kernel_rfl) (by kernel_rfl) (fun _ _ _ h => h) (Or.inl ⟨by rfl, ?_⟩) (by assumption) ?_
    rotate_left
    · (intro w hSw; go_simp; try with_reducible rfl)
    try simp only [Act.put, List.setIfInBounds_toArray, List.set_cons_zero, List.set_cons_succ]
    refine wpAnyH_take (i := 6) (oi := ({ dst := some 17, op := Op.load 3 (Operand.tmp 16), type := 3, pos := "ref.go:77", after := #[{ on := 5, ground := Ground.data }], guard := none } : Oper)) (v := ?_) rfl (by kernel_rfl) (by kernel_rfl) (by kernel_rfl) (fun _ _ _ h => h) (Or.inl ⟨by rfl, ?_⟩) (by assumption) ?_
    rotate_left
    · (intro w hSw; obtain ⟨c0, c1, c2, c3⟩ := HCLS.out _ hSw; go_simp; try with_reducible rfl)
    try simp only [Act.put, List.setIfInBounds_toArray, List.set_cons_zero, List.set_cons_succ]
    refine wpAnyH_ready (rs := [2]) (by kernel_rfl) (by simp) ?_
    refine AllReadyH.cons rfl (fun K hK => ?_) AllReadyH.nil
    go_simp
    go_wp2_with (go_at_call 28; refine (H2.out _).mono ?_; rintro e w2 ⟨rfl, b2⟩)
    have HB2 : Hid (Below w.heap.size w w2) := (below_drewN HB1.out 1).trans (b2.mono HB1.out.size)
    have HX2 : Hid (RpB w2 w.heap.size ⟨st, bd0, ck0, cl⟩) := RpB.below hHeld b2
    refine hK.out _ _ HX2.out (fun hHeld => ?_)
    clear b2
    clear hK K
    refine wpAnyH_take (i := 3) (oi := ({ dst := some 14, op := Op.binOp BinOp.add 9 (Operand.const (Value.string { data := #[72, 84, 84, 80, 47, 49, 46, 49, 32] })) (Operand.tmp 13) 9, type := 9, pos := "ref.go:77", after := #[{ on := 2, ground := Ground.data }], guard := none } : Oper)) (v := ?_) rfl (by kernel_rfl) (by kernel_rfl) (by kernel_rfl) (fun _ _ _ h => h) (Or.inl ⟨by rfl, ?_⟩) (by assumption) ?_
    rotate_left
    · (intro w hSw; go_simp; try with_reducible rfl)
    try simp only [Act.put, List.setIfInBounds_toArray, List.set_cons_zero, List.set_cons_succ]
    refine wpAnyH_take (i := 4) (oi := ({ dst := some 15, op := Op.binOp BinOp.add 9 (Operand.tmp 14) (Operand.const (Value.string { data := #[32] })) 9, type := 9, pos := "ref.go:77", after := #[{ on := 3, ground := Ground.data }], guard := none } : Oper)) (v := ?_) rfl (by kernel_rfl) (by kernel_rfl) (by kernel_rfl) (fun _ _ _ h => h) (Or.inl ⟨by rfl, ?_⟩) (by assumption) ?_
    rotate_left
    · (intro w hSw; go_simp; try with_reducible rfl)
    try simp only [Act.put, List.setIfInBounds_toArray, List.set_cons_zero, List.set_cons_succ]
    refine wpAnyH_ready (rs := [7]) (by kernel_rfl) (by simp) ?_
    refine AllReadyH.cons rfl (fun K hK => ?_) AllReadyH.nil
    go_simp
    go_wp2_with (go_at_call 21; refine (H3.out _).mono ?_; rintro e w3 ⟨rfl, hw3⟩)
    try rw [hw3]
    refine hK.out _ _ HX2.out (fun hHeld => ?_)
    clear hw3
    clear hK K
    refine wpAnyH_take (i := 8) (oi := ({ dst := some 19, op := Op.binOp BinOp.add 9 (Operand.tmp 15) (Operand.tmp 18) 9, type := 9, pos := "ref.go:77", after := #[{ on := 4, ground := Ground.data }, { on := 7, ground := Ground.data }], guard := none } : Oper)) (v := ?_) rfl (by kernel_rfl) (by kernel_rfl) (by kernel_rfl) (fun _ _ _ h => h) (Or.inl ⟨by rfl, ?_⟩) (by assumption) ?_
    rotate_left
    · (intro w hSw; go_simp; try with_reducible rfl)
    try simp only [Act.put, List.setIfInBounds_toArray, List.set_cons_zero, List.set_cons_succ]
    refine wpAnyH_take (i := 9) (oi := ({ dst := some 20, op := Op.binOp BinOp.add 9 (Operand.tmp 19) (Operand.const (Value.string { data := #[13, 10] })) 9, type := 9, pos := "ref.go:77", after := #[{ on := 8, ground := Ground.data }], guard := none } : Oper)) (v := ?_) rfl (by kernel_rfl) (by kernel_rfl) (by kernel_rfl) (fun _ _ _ h => h) (Or.inl ⟨by rfl, ?_⟩) (by assumption) ?_
    rotate_left
    · (intro w hSw; go_simp; try with_reducible rfl)
    try simp only [Act.put, List.setIfInBounds_toArray, List.set_cons_zero, List.set_cons_succ]
    refine wpAnyH_take (i := 10) (oi := ({ dst := some 5, op := Op.assign (Operand.tmp 20), type := 9, pos := "ref.go:77", after := #[{ on := 9, ground := Ground.data }, { on := 7, ground := Ground.chain }, { on := 0, ground := Ground.phase }, { on := 1, ground := Ground.phase }, { on := 2, ground := Ground.phase }, { on := 3, ground := Ground.phase }, { on := 4, ground := Ground.phase }, { on := 5, ground := Ground.phase }, { on := 6, ground := Ground.phase }, { on := 7, ground := Ground.phase }, { on := 8, ground := Ground.phase }, { on := 9, ground := Ground.phase }], guard := none } : Oper)) (v := ?_) rfl (by kernel_rfl) (by kernel_rfl) (by kernel_rfl) (fun _ _ _ h => h) (Or.inl ⟨by rfl, ?_⟩) (by assumption) ?_
    rotate_left
    · (intro w hSw; go_simp; try with_reducible rfl)
    refine wpAnyH_done (by kernel_rfl) ?_ _
    try simp only [Act.put, List.setIfInBounds_toArray, List.set_cons_zero, List.set_cons_succ]
    clear hHeld s1 s2 s3 s4
    rw [← HST.out]
    by_cases g2 : st = 204
    · obtain rfl : eb = true := HB204.out g2
      subst g2
      have e1 := HEB.out
      have e2 := HEC.out
      cases ec with
      | true =>
        cases cl with
        | true =>
          obtain ⟨u1, u2, u3, u4⟩ := HZZ.out
          have t0 : ¬ 9223372036854775807 < b1.size + 19 := by omega
          have t1 : ¬ 9223372036854775807 < b1.size + 19 + 2 := by omega
          have t2 : ¬ 9223372036854775807 < b1.size + 19 + 2 + bd.size := by omega
          clear u1 u2 u3 u4
          obtain ⟨c0, c1, c2, c3⟩ := HCLS.out _ HX2.out
          have HTT : Hid (T = b1 ++ ⟨#[67, 111, 110, 110, 101, 99, 116, 105, 111, 110, 58, 32, 99, 108, 111, 115, 101, 13, 10]⟩ ++ ⟨#[13, 10]⟩ ++ bd) := by
            rw [Hid, HWL.out]
            apply ext_list
            rw [mkB_list]
            simp [opn, crlf]
          go_wp2_with fail
          go_ret2
          exact ⟨by rw [HTT.out]; rfl, HB2.out⟩
        | false =>
          obtain ⟨u1, u2, u3, u4⟩ := HZZ.out
          have t0 : ¬ 9223372036854775807 < b1.size + 2 := by omega
          have t1 : ¬ 9223372036854775807 < b1.size + 2 + bd.size := by omega
          clear u1 u2 u3 u4
          obtain ⟨c0, c1, c2, c3⟩ := HCLS.out _ HX2.out
          have HTT : Hid (T = b1 ++ ⟨#[13, 10]⟩ ++ bd) := by
            rw [Hid, HWL.out]
            apply ext_list
            rw [mkB_list]
            simp [crlf]
          go_wp2_with fail
          go_ret2
          exact ⟨by rw [HTT.out]; rfl, HB2.out⟩
      | false =>
        cases cl with
        | true =>
          obtain ⟨u1, u2, u3, u4⟩ := HZZ.out
          have t0 : ¬ 9223372036854775807 < b1.size + (12 + ck.size + 2) := by omega
          have t1 : ¬ 9223372036854775807 < b1.size + (12 + ck.size + 2) + 19 := by omega
          have t2 : ¬ 9223372036854775807 < b1.size + (12 + ck.size + 2) + 19 + 2 := by omega
          have t3 : ¬ 9223372036854775807 < b1.size + (12 + ck.size + 2) + 19 + 2 + bd.size := by omega
          clear u1 u2 u3 u4
          obtain ⟨c0, c1, c2, c3⟩ := HCLS.out _ HX2.out
          have HTT : Hid (T = b1 ++ (⟨#[83, 101, 116, 45, 67, 111, 111, 107, 105, 101, 58, 32]⟩ ++ ck ++ ⟨#[13, 10]⟩) ++ ⟨#[67, 111, 110, 110, 101, 99, 116, 105, 111, 110, 58, 32, 99, 108, 111, 115, 101, 13, 10]⟩ ++ ⟨#[13, 10]⟩ ++ bd) := by
            rw [Hid, HWL.out]
            apply ext_list
            rw [mkB_list]
            simp [opn, crlf]
          go_wp2_with fail
          go_ret2
          exact ⟨by rw [HTT.out]; rfl, HB2.out⟩
        | false =>
          obtain ⟨u1, u2, u3, u4⟩ := HZZ.out
          have t0 : ¬ 9223372036854775807 < b1.size + (12 + ck.size + 2) := by omega
          have t1 : ¬ 9223372036854775807 < b1.size + (12 + ck.size + 2) + 2 := by omega
          have t2 : ¬ 9223372036854775807 < b1.size + (12 + ck.size + 2) + 2 + bd.size := by omega
          clear u1 u2 u3 u4
          obtain ⟨c0, c1, c2, c3⟩ := HCLS.out _ HX2.out
          have HTT : Hid (T = b1 ++ (⟨#[83, 101, 116, 45, 67, 111, 111, 107, 105, 101, 58, 32]⟩ ++ ck ++ ⟨#[13, 10]⟩) ++ ⟨#[13, 10]⟩ ++ bd) := by
            rw [Hid, HWL.out]
            apply ext_list
            rw [mkB_list]
            simp [crlf]
          go_wp2_with fail
          go_ret2
          exact ⟨by rw [HTT.out]; rfl, HB2.out⟩
    · have g2z : (st != 204) = true := by simp [g2]
      have e1 := HEB.out
      have e2 := HEC.out
      cases eb with
      | true =>
        cases ec with
        | true =>
          cases cl with
          | true =>
            obtain ⟨u1, u2, u3, u4⟩ := HZZ.out
            have t0 : ¬ 9223372036854775807 < b1.size + (16 + xl.size + 2) := by omega
            have t1 : ¬ 9223372036854775807 < b1.size + (16 + xl.size + 2) + 19 := by omega
            have t2 : ¬ 9223372036854775807 < b1.size + (16 + xl.size + 2) + 19 + 2 := by omega
            have t3 : ¬ 9223372036854775807 < b1.size + (16 + xl.size + 2) + 19 + 2 + bd.size := by omega
            clear u1 u2 u3 u4
            obtain ⟨c0, c1, c2, c3⟩ := HCLS.out _ HX2.out
            have HTT : Hid (T = b1 ++ (⟨#[67, 111, 110, 116, 101, 110, 116, 45, 76, 101, 110, 103, 116, 104, 58, 32]⟩ ++ xl ++ ⟨#[13, 10]⟩) ++ ⟨#[67, 111, 110, 110, 101, 99, 116, 105, 111, 110, 58, 32, 99, 108, 111, 115, 101, 13, 10]⟩ ++ ⟨#[13, 10]⟩ ++ bd) := by
              rw [Hid, HWL.out]
              apply ext_list
              rw [mkB_list]
              simp [opn, crlf, g2]
            go_wp2_with fail
            refine (H4.out _).mono ?_
            rintro e w4 ⟨rfl, b4⟩
            have HB4 : Hid (Below w.heap.size w w4) := HB2.out.trans (b4.mono HB2.out.size)
            have HX4 : Hid (RpB w4 w.heap.size _) := HX2.out.below b4
            clear b4 c0 c1 c2 c3
            obtain ⟨c0, c1, c2, c3⟩ := HCLS.out _ HX4.out
            go_wp2_with fail
            go_ret2
            exact ⟨by rw [HTT.out]; rfl, HB4.out⟩
          | false =>
            obtain ⟨u1, u2, u3, u4⟩ := HZZ.out
            have t0 : ¬ 9223372036854775807 < b1.size + (16 + xl.size + 2) := by omega
            have t1 : ¬ 9223372036854775807 < b1.size + (16 + xl.size + 2) + 2 := by omega
            have t2 : ¬ 9223372036854775807 < b1.size + (16 + xl.size + 2) + 2 + bd.size := by omega
            clear u1 u2 u3 u4
            obtain ⟨c0, c1, c2, c3⟩ := HCLS.out _ HX2.out
            have HTT : Hid (T = b1 ++ (⟨#[67, 111, 110, 116, 101, 110, 116, 45, 76, 101, 110, 103, 116, 104, 58, 32]⟩ ++ xl ++ ⟨#[13, 10]⟩) ++ ⟨#[13, 10]⟩ ++ bd) := by
              rw [Hid, HWL.out]
              apply ext_list
              rw [mkB_list]
              simp [crlf, g2]
            go_wp2_with fail
            refine (H4.out _).mono ?_
            rintro e w4 ⟨rfl, b4⟩
            have HB4 : Hid (Below w.heap.size w w4) := HB2.out.trans (b4.mono HB2.out.size)
            have HX4 : Hid (RpB w4 w.heap.size _) := HX2.out.below b4
            clear b4 c0 c1 c2 c3
            obtain ⟨c0, c1, c2, c3⟩ := HCLS.out _ HX4.out
            go_wp2_with fail
            go_ret2
            exact ⟨by rw [HTT.out]; rfl, HB4.out⟩
        | false =>
          cases cl with
          | true =>
            obtain ⟨u1, u2, u3, u4⟩ := HZZ.out
            have t0 : ¬ 9223372036854775807 < b1.size + (16 + xl.size + 2) := by omega
            have t1 : ¬ 9223372036854775807 < b1.size + (16 + xl.size + 2) + (12 + ck.size + 2) := by omega
            have t2 : ¬ 9223372036854775807 < b1.size + (16 + xl.size + 2) + (12 + ck.size + 2) + 19 := by omega
            have t3 : ¬ 9223372036854775807 < b1.size + (16 + xl.size + 2) + (12 + ck.size + 2) + 19 + 2 := by omega
            have t4 : ¬ 9223372036854775807 < b1.size + (16 + xl.size + 2) + (12 + ck.size + 2) + 19 + 2 + bd.size := by omega
            clear u1 u2 u3 u4
            obtain ⟨c0, c1, c2, c3⟩ := HCLS.out _ HX2.out
            have HTT : Hid (T = b1 ++ (⟨#[67, 111, 110, 116, 101, 110, 116, 45, 76, 101, 110, 103, 116, 104, 58, 32]⟩ ++ xl ++ ⟨#[13, 10]⟩) ++ (⟨#[83, 101, 116, 45, 67, 111, 111, 107, 105, 101, 58, 32]⟩ ++ ck ++ ⟨#[13, 10]⟩) ++ ⟨#[67, 111, 110, 110, 101, 99, 116, 105, 111, 110, 58, 32, 99, 108, 111, 115, 101, 13, 10]⟩ ++ ⟨#[13, 10]⟩ ++ bd) := by
              rw [Hid, HWL.out]
              apply ext_list
              rw [mkB_list]
              simp [opn, crlf, g2]
            go_wp2_with fail
            refine (H4.out _).mono ?_
            rintro e w4 ⟨rfl, b4⟩
            have HB4 : Hid (Below w.heap.size w w4) := HB2.out.trans (b4.mono HB2.out.size)
            have HX4 : Hid (RpB w4 w.heap.size _) := HX2.out.below b4
            clear b4 c0 c1 c2 c3
            obtain ⟨c0, c1, c2, c3⟩ := HCLS.out _ HX4.out
            go_wp2_with fail
            go_ret2
            exact ⟨by rw [HTT.out]; rfl, HB4.out⟩
          | false =>
            obtain ⟨u1, u2, u3, u4⟩ := HZZ.out
            have t0 : ¬ 9223372036854775807 < b1.size + (16 + xl.size + 2) := by omega
            have t1 : ¬ 9223372036854775807 < b1.size + (16 + xl.size + 2) + (12 + ck.size + 2) := by omega
            have t2 : ¬ 9223372036854775807 < b1.size + (16 + xl.size + 2) + (12 + ck.size + 2) + 2 := by omega
            have t3 : ¬ 9223372036854775807 < b1.size + (16 + xl.size + 2) + (12 + ck.size + 2) + 2 + bd.size := by omega
            clear u1 u2 u3 u4
            obtain ⟨c0, c1, c2, c3⟩ := HCLS.out _ HX2.out
            have HTT : Hid (T = b1 ++ (⟨#[67, 111, 110, 116, 101, 110, 116, 45, 76, 101, 110, 103, 116, 104, 58, 32]⟩ ++ xl ++ ⟨#[13, 10]⟩) ++ (⟨#[83, 101, 116, 45, 67, 111, 111, 107, 105, 101, 58, 32]⟩ ++ ck ++ ⟨#[13, 10]⟩) ++ ⟨#[13, 10]⟩ ++ bd) := by
              rw [Hid, HWL.out]
              apply ext_list
              rw [mkB_list]
              simp [crlf, g2]
            go_wp2_with fail
            refine (H4.out _).mono ?_
            rintro e w4 ⟨rfl, b4⟩
            have HB4 : Hid (Below w.heap.size w w4) := HB2.out.trans (b4.mono HB2.out.size)
            have HX4 : Hid (RpB w4 w.heap.size _) := HX2.out.below b4
            clear b4 c0 c1 c2 c3
            obtain ⟨c0, c1, c2, c3⟩ := HCLS.out _ HX4.out
            go_wp2_with fail
            go_ret2
            exact ⟨by rw [HTT.out]; rfl, HB4.out⟩
      | false =>
        cases ec with
        | true =>
          cases cl with
          | true =>
            obtain ⟨u1, u2, u3, u4⟩ := HZZ.out
            have t0 : ¬ 9223372036854775807 < b1.size + 32 := by omega
            have t1 : ¬ 9223372036854775807 < b1.size + 32 + (16 + xl.size + 2) := by omega
            have t2 : ¬ 9223372036854775807 < b1.size + 32 + (16 + xl.size + 2) + 19 := by omega
            have t3 : ¬ 9223372036854775807 < b1.size + 32 + (16 + xl.size + 2) + 19 + 2 := by omega
            have t4 : ¬ 9223372036854775807 < b1.size + 32 + (16 + xl.size + 2) + 19 + 2 + bd.size := by omega
            clear u1 u2 u3 u4
            obtain ⟨c0, c1, c2, c3⟩ := HCLS.out _ HX2.out
            have HTT : Hid (T = b1 ++ ⟨#[67, 111, 110, 116, 101, 110, 116, 45, 84, 121, 112, 101, 58, 32, 97, 112, 112, 108, 105, 99, 97, 116, 105, 111, 110, 47, 106, 115, 111, 110, 13, 10]⟩ ++ (⟨#[67, 111, 110, 116, 101, 110, 116, 45, 76, 101, 110, 103, 116, 104, 58, 32]⟩ ++ xl ++ ⟨#[13, 10]⟩) ++ ⟨#[67, 111, 110, 110, 101, 99, 116, 105, 111, 110, 58, 32, 99, 108, 111, 115, 101, 13, 10]⟩ ++ ⟨#[13, 10]⟩ ++ bd) := by
              rw [Hid, HWL.out]
              apply ext_list
              rw [mkB_list]
              simp [opn, crlf, g2]
            go_wp2_with fail
            refine (H4.out _).mono ?_
            rintro e w4 ⟨rfl, b4⟩
            have HB4 : Hid (Below w.heap.size w w4) := HB2.out.trans (b4.mono HB2.out.size)
            have HX4 : Hid (RpB w4 w.heap.size _) := HX2.out.below b4
            clear b4 c0 c1 c2 c3
            obtain ⟨c0, c1, c2, c3⟩ := HCLS.out _ HX4.out
            go_wp2_with fail
            go_ret2
            exact ⟨by rw [HTT.out]; rfl, HB4.out⟩
          | false =>
            obtain ⟨u1, u2, u3, u4⟩ := HZZ.out
            have t0 : ¬ 9223372036854775807 < b1.size + 32 := by omega
            have t1 : ¬ 9223372036854775807 < b1.size + 32 + (16 + xl.size + 2) := by omega
            have t2 : ¬ 9223372036854775807 < b1.size + 32 + (16 + xl.size + 2) + 2 := by omega
            have t3 : ¬ 9223372036854775807 < b1.size + 32 + (16 + xl.size + 2) + 2 + bd.size := by omega
            clear u1 u2 u3 u4
            obtain ⟨c0, c1, c2, c3⟩ := HCLS.out _ HX2.out
            have HTT : Hid (T = b1 ++ ⟨#[67, 111, 110, 116, 101, 110, 116, 45, 84, 121, 112, 101, 58, 32, 97, 112, 112, 108, 105, 99, 97, 116, 105, 111, 110, 47, 106, 115, 111, 110, 13, 10]⟩ ++ (⟨#[67, 111, 110, 116, 101, 110, 116, 45, 76, 101, 110, 103, 116, 104, 58, 32]⟩ ++ xl ++ ⟨#[13, 10]⟩) ++ ⟨#[13, 10]⟩ ++ bd) := by
              rw [Hid, HWL.out]
              apply ext_list
              rw [mkB_list]
              simp [opn, crlf, g2]
            go_wp2_with fail
            refine (H4.out _).mono ?_
            rintro e w4 ⟨rfl, b4⟩
            have HB4 : Hid (Below w.heap.size w w4) := HB2.out.trans (b4.mono HB2.out.size)
            have HX4 : Hid (RpB w4 w.heap.size _) := HX2.out.below b4
            clear b4 c0 c1 c2 c3
            obtain ⟨c0, c1, c2, c3⟩ := HCLS.out _ HX4.out
            go_wp2_with fail
            go_ret2
            exact ⟨by rw [HTT.out]; rfl, HB4.out⟩
        | false =>
          cases cl with
          | true =>
            obtain ⟨u1, u2, u3, u4⟩ := HZZ.out
            have t0 : ¬ 9223372036854775807 < b1.size + 32 := by omega
            have t1 : ¬ 9223372036854775807 < b1.size + 32 + (16 + xl.size + 2) := by omega
            have t2 : ¬ 9223372036854775807 < b1.size + 32 + (16 + xl.size + 2) + (12 + ck.size + 2) := by omega
            have t3 : ¬ 9223372036854775807 < b1.size + 32 + (16 + xl.size + 2) + (12 + ck.size + 2) + 19 := by omega
            have t4 : ¬ 9223372036854775807 < b1.size + 32 + (16 + xl.size + 2) + (12 + ck.size + 2) + 19 + 2 := by omega
            have t5 : ¬ 9223372036854775807 < b1.size + 32 + (16 + xl.size + 2) + (12 + ck.size + 2) + 19 + 2 + bd.size := by omega
            clear u1 u2 u3 u4
            obtain ⟨c0, c1, c2, c3⟩ := HCLS.out _ HX2.out
            have HTT : Hid (T = b1 ++ ⟨#[67, 111, 110, 116, 101, 110, 116, 45, 84, 121, 112, 101, 58, 32, 97, 112, 112, 108, 105, 99, 97, 116, 105, 111, 110, 47, 106, 115, 111, 110, 13, 10]⟩ ++ (⟨#[67, 111, 110, 116, 101, 110, 116, 45, 76, 101, 110, 103, 116, 104, 58, 32]⟩ ++ xl ++ ⟨#[13, 10]⟩) ++ (⟨#[83, 101, 116, 45, 67, 111, 111, 107, 105, 101, 58, 32]⟩ ++ ck ++ ⟨#[13, 10]⟩) ++ ⟨#[67, 111, 110, 110, 101, 99, 116, 105, 111, 110, 58, 32, 99, 108, 111, 115, 101, 13, 10]⟩ ++ ⟨#[13, 10]⟩ ++ bd) := by
              rw [Hid, HWL.out]
              apply ext_list
              rw [mkB_list]
              simp [opn, crlf, g2]
            go_wp2_with fail
            refine (H4.out _).mono ?_
            rintro e w4 ⟨rfl, b4⟩
            have HB4 : Hid (Below w.heap.size w w4) := HB2.out.trans (b4.mono HB2.out.size)
            have HX4 : Hid (RpB w4 w.heap.size _) := HX2.out.below b4
            clear b4 c0 c1 c2 c3
            obtain ⟨c0, c1, c2, c3⟩ := HCLS.out _ HX4.out
            go_wp2_with fail
            go_ret2
            exact ⟨by rw [HTT.out]; rfl, HB4.out⟩
          | false =>
            obtain ⟨u1, u2, u3, u4⟩ := HZZ.out
            have t0 : ¬ 9223372036854775807 < b1.size + 32 := by omega
            have t1 : ¬ 9223372036854775807 < b1.size + 32 + (16 + xl.size + 2) := by omega
            have t2 : ¬ 9223372036854775807 < b1.size + 32 + (16 + xl.size + 2) + (12 + ck.size + 2) := by omega
            have t3 : ¬ 9223372036854775807 < b1.size + 32 + (16 + xl.size + 2) + (12 + ck.size + 2) + 2 := by omega
            have t4 : ¬ 9223372036854775807 < b1.size + 32 + (16 + xl.size + 2) + (12 + ck.size + 2) + 2 + bd.size := by omega
            clear u1 u2 u3 u4
            obtain ⟨c0, c1, c2, c3⟩ := HCLS.out _ HX2.out
            have HTT : Hid (T = b1 ++ ⟨#[67, 111, 110, 116, 101, 110, 116, 45, 84, 121, 112, 101, 58, 32, 97, 112, 112, 108, 105, 99, 97, 116, 105, 111, 110, 47, 106, 115, 111, 110, 13, 10]⟩ ++ (⟨#[67, 111, 110, 116, 101, 110, 116, 45, 76, 101, 110, 103, 116, 104, 58, 32]⟩ ++ xl ++ ⟨#[13, 10]⟩) ++ (⟨#[83, 101, 116, 45, 67, 111, 111, 107, 105, 101, 58, 32]⟩ ++ ck ++ ⟨#[13, 10]⟩) ++ ⟨#[13, 10]⟩ ++ bd) := by
              rw [Hid, HWL.out]
              apply ext_list
              rw [mkB_list]
              simp [opn, crlf, g2]
            go_wp2_with fail
            refine (H4.out _).mono ?_
            rintro e w4 ⟨rfl, b4⟩
            have HB4 : Hid (Below w.heap.size w w4) := HB2.out.trans (b4.mono HB2.out.size)
            have HX4 : Hid (RpB w4 w.heap.size _) := HX2.out.below b4
            clear b4 c0 c1 c2 c3
            obtain ⟨c0, c1, c2, c3⟩ := HCLS.out _ HX4.out
            go_wp2_with fail
            go_ret2
            exact ⟨by rw [HTT.out]; rfl, HB4.out⟩
end Go.Proofs.YtdkbgbhcnbmlfaaDoor
