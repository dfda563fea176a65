/-
  The walk of ReplyWrites.
-/
import Derived.Test.YtdkbgbhcnbmlfaaDoorQwr
import Derived.Deep.RegionHeld
namespace Go.Proofs.YtdkbgbhcnbmlfaaDoor
open Go.RowKit
theorem wrR_err (r : Rp) : (wrR r).2 = chkR r := by
  unfold wrR chkR
  split <;> rfl
set_option maxRecDepth 20000 in
set_option maxHeartbeats 16000000 in
theorem writes_walk (r : Rp) (s : ByteArray) (hz : rpZ r) (hs : s.size ≤ 1000000000) (w : World) (ht : TabP w) : Calls Tryd.prog 3 #[rpV r, .string s] w fun e w' => e = .returned (.bool true) ∧ Below w.heap.size w w' := by
  have HTB : Hid (∀ W, Below w.heap.size w W → TabP W) := fun W q => tab_below ht q
  have H1 : Hid (∀ W, Below w.heap.size w W → _) := fun W q => awake_any W (HTB.out W q)
  have H2 : Hid (∀ W : World, _) := fun W => check_any r hz W
  have H3 : Hid (∀ W : World, _) := fun W => qcheck_any r hz W
  have H4 : Hid (∀ W, Below w.heap.size w W → _) := fun W q => write_any r hz W (HTB.out W q)
  have H5 : Hid (∀ W : World, _) := fun W => qwrite_any r hz W
  obtain ⟨W0, hW0⟩ : ∃ W0, w.alloc (.cells (rpA r) 23) = W0 := ⟨_, rfl⟩
  have HB0 : Hid (Below w.heap.size w W0) := by rw [Hid, ← hW0]; exact (Below.refl _ _).alloc (Nat.le_refl _) _
  have HX0 : Hid (RpB W0 w.heap.size r) := by rw [Hid, ← hW0]; exact block_alloc_at _ _
  have HCLS : Hid (∀ W, RpB W w.heap.size r → _) := fun W q => RpB.cells q
  obtain ⟨C, hC⟩ : ∃ C, chkR r = C := ⟨_, rfl⟩
  rw [hC] at H2 H3
  have hc1 : (C != C) = false := by simp
  have HPR : Hid (okR r = true → ∀ W, Below w.heap.size w W → _) := fun hok W q => parse_any (mkB (wrL r) ++ s) (by rw [ByteArray.size_append, mkB_size]; have := wrL_len hok; omega) W (HTB.out W q)
  have HPE : Hid (okR r = true → parR (mkB (wrL r) ++ s).data.toList = (r, (wrL r).length, 0)) := fun hok => by
    have e : (mkB (wrL r) ++ s).data.toList = wrL r ++ s.data.toList := by simp [mkB]
    rw [e]
    exact par_wr hok _
  have HLN : Hid (okR r = true → (mkB (wrL r)).size ≤ 10000000 ∧ (wrL r).length = (mkB (wrL r)).size) := fun hok => ⟨by rw [mkB_size]; exact wrL_len hok, by rw [mkB_size]⟩
  unfold rpA at hW0
  unfold rpV at H2 H3 H4 H5 ⊢
  clear ht hC
  go_enter Tryd.func3, Tryd.ntmps3
  go_wp2_with fail
  try rw [hW0]
  clear hW0
  refine wp_region_held_drew (S := fun W => RpB W w.heap.size r) (by kernel_rfl) HX0.out (fun hHeld => ?_)
  refine wpAnyH_ready (rs := [0]) (by kernel_rfl) (by simp) ?_
  refine AllReadyH.cons rfl (fun K hK => ?_) AllReadyH.nil
  go_simp
  go_wp2_with (go_at_call 9; refine (H1.out _ (below_drewN HB0.out 1)).mono ?_; rintro e w1 ⟨rfl, b1⟩)
  have HB1 : Hid (Below w.heap.size w w1) := (below_drewN HB0.out 1).trans (b1.mono HB0.out.size)
  have HX1 : Hid (RpB w1 w.heap.size r) := RpB.below hHeld b1
  refine hK.out _ _ HX1.out (fun hHeld => ?_)
  clear b1
  clear hK K
  refine wpAnyH_take (i := 1) (oi := ({ dst := some 12, op := Op.unOp UnOp.not 4 (Operand.tmp 11), type := 4, pos := "law.go:19", after := #[{ on := 0, ground := Ground.data }], guard := none } : Oper)) (v := ?_) rfl (by kernel_rfl) (by kernel_rfl) (by kernel_rfl) (fun _ _ _ h => h) (Or.inl ⟨by rfl, ?_⟩) (by assumption) ?_
  rotate_left
  · (intro w hSw; go_simp; try with_reducible rfl)
  try simp only [Act.put, List.setIfInBounds_toArray, List.set_cons_zero, List.set_cons_succ]
  refine wpAnyH_take (i := 2) (oi := ({ dst := some 13, op := Op.move (Operand.tmp 12), type := 4, pos := "law.go:19", after := #[{ on := 1, ground := Ground.data }, { on := 0, ground := Ground.chain }], guard := none } : Oper)) (v := ?_) rfl (by kernel_rfl) (by kernel_rfl) (by kernel_rfl) (fun _ _ _ h => h) (Or.inl ⟨by rfl, ?_⟩) (by assumption) ?_
  rotate_left
  · (intro w hSw; go_simp; try with_reducible rfl)
  try simp only [Act.put, List.setIfInBounds_toArray, List.set_cons_zero, List.set_cons_succ]
  refine wpAnyH_take (i := 3) (oi := ({ dst := some 14, op := Op.load 23 (Operand.tmp 2), type := 23, pos := "law.go:19", after := #[{ on := 2, ground := Ground.guard }], guard := some (2, false) } : Oper)) (v := ?_) rfl (by kernel_rfl) (by kernel_rfl) (by kernel_rfl) (fun _ _ _ h => h) (Or.inl ⟨by rfl, ?_⟩) (by assumption) ?_
  rotate_left
  · (intro w hSw; obtain ⟨c0, c1, c2, c3⟩ := HCLS.out _ hSw; go_simp; try with_reducible rfl)
  try simp only [Act.put, List.setIfInBounds_toArray, List.set_cons_zero, List.set_cons_succ]
  refine wpAnyH_take (i := 5) (oi := ({ dst := some 16, op := Op.load 23 (Operand.tmp 2), type := 23, pos := "law.go:19", after := #[{ on := 2, ground := Ground.guard }], guard := some (2, false) } : Oper)) (v := ?_) rfl (by kernel_rfl) (by kernel_rfl) (by kernel_rfl) (fun _ _ _ h => h) (Or.inl ⟨by rfl, ?_⟩) (by assumption) ?_
  rotate_left
  · (intro w hSw; obtain ⟨c0, c1, c2, c3⟩ := HCLS.out _ hSw; go_simp; try with_reducible rfl)
  try simp only [Act.put, List.setIfInBounds_toArray, List.set_cons_zero, List.set_cons_succ]
  refine wpAnyH_ready (rs := [4]) (by kernel_rfl) (by simp) ?_
  refine AllReadyH.cons rfl (fun K hK => ?_) AllReadyH.nil
  go_simp
  go_wp2_with (go_at_call 10; refine (H2.out _).mono ?_; rintro e w2 ⟨rfl, b2⟩)
  have HB2 : Hid (Below w.heap.size w w2) := HB1.out.trans (b2.mono HB1.out.size)
  have HX2 : Hid (RpB w2 w.heap.size r) := RpB.below hHeld b2
  refine hK.out _ _ HX2.out (fun hHeld => ?_)
  clear b2
  clear hK K
  refine wpAnyH_ready (rs := [6]) (by kernel_rfl) (by simp) ?_
  refine AllReadyH.cons rfl (fun K hK => ?_) AllReadyH.nil
  go_simp
  go_wp2_with (go_at_call 11; refine (H3.out _).mono ?_; rintro e w3 ⟨rfl, b3⟩)
  have HB3 : Hid (Below w.heap.size w w3) := HB2.out.trans (b3.mono HB2.out.size)
  have HX3 : Hid (RpB w3 w.heap.size r) := RpB.below hHeld b3
  refine hK.out _ _ HX3.out (fun hHeld => ?_)
  clear b3
  clear hK K
  refine wpAnyH_take (i := 7) (oi := ({ dst := some 18, op := Op.binOp BinOp.neq 25 (Operand.tmp 15) (Operand.tmp 17) 25, type := 4, pos := "law.go:19", after := #[{ on := 4, ground := Ground.data }, { on := 6, ground := Ground.data }, { on := 2, ground := Ground.guard }], guard := some (2, false) } : Oper)) (v := ?_) rfl (by kernel_rfl) (by kernel_rfl) (by kernel_rfl) (fun _ _ _ h => h) (Or.inl ⟨by rfl, ?_⟩) (by assumption) ?_
  rotate_left
  · (intro w hSw; go_simp; try with_reducible rfl)
  try simp only [Act.put, List.setIfInBounds_toArray, List.set_cons_zero, List.set_cons_succ]
  refine wpAnyH_take (i := 8) (oi := ({ dst := some 19, op := Op.pick (Operand.tmp 13) (Operand.const (Value.bool true)) (Operand.tmp 18), type := 4, pos := "law.go:19", after := #[{ on := 2, ground := Ground.data }, { on := 7, ground := Ground.data }], guard := none } : Oper)) (v := ?_) rfl (by kernel_rfl) (by kernel_rfl) (by kernel_rfl) (fun _ _ _ h => h) (Or.inl ⟨by rfl, ?_⟩) (by assumption) ?_
  rotate_left
  · (intro w hSw; go_simp; try with_reducible rfl)
  refine wpAnyH_done (by kernel_rfl) ?_ _
  try simp only [Act.put, List.setIfInBounds_toArray, List.set_cons_zero, List.set_cons_succ]
  clear hHeld
  have hw1 : ((mkB (wrR r).1).toList != (mkB (wrR r).1).toList) = false := by simp
  have hw2 : ((wrR r).2 != (wrR r).2) = false := by simp
  cases hok : okR r with
  | false =>
    rw [wrR_no hok] at H4 H5 hw1 hw2
    simp only at H4 H5 hw1 hw2
    obtain ⟨A, hA⟩ : ∃ A, mkB [] = A := ⟨_, rfl⟩
    rw [hA] at H4 H5 hw1
    clear hA
    obtain ⟨c0, c1, c2, c3⟩ := HCLS.out _ HX3.out
    go_wp2_with fail
    refine (H4.out _ HB3.out).mono ?_
    rintro e w4 ⟨rfl, b4⟩
    have HB4 : Hid (Below w.heap.size w w4) := HB3.out.trans (b4.mono HB3.out.size)
    have HX4 : Hid (RpB w4 w.heap.size r) := HX3.out.below b4
    clear b4 c0 c1 c2 c3
    obtain ⟨c0, c1, c2, c3⟩ := HCLS.out _ HX4.out
    go_wp2_with fail
    refine (H5.out _).mono ?_
    rintro e w5 ⟨rfl, b5⟩
    have HB5 : Hid (Below w.heap.size w w5) := HB4.out.trans (b5.mono HB4.out.size)
    clear b5 c0 c1 c2 c3
    go_wp2_with fail
    go_ret
    exact ⟨rfl, HB5.out⟩
  | true =>
    rw [wrR_ok hok] at H4 H5 hw1 hw2
    simp only at H4 H5 hw1 hw2
    have H6 : Hid (∀ W, Below w.heap.size w W → _) := fun W q => HPR.out hok W q
    rw [HPE.out hok] at H6
    obtain ⟨hl1, hl2⟩ := HLN.out hok
    have HRV : Hid (rpV r = .agg #[.int .i64 r.status, .string (mkB r.body), .string (mkB r.cookie), .bool r.close]) := rfl
    simp only [HRV.out] at H6
    rw [hl2] at H6
    obtain ⟨A, hA⟩ : ∃ A, mkB (wrL r) = A := ⟨_, rfl⟩
    simp only [hA] at H4 H5 H6 hw1 hl1
    have s1 : ¬ 9223372036854775807 < A.size + s.size := by omega
    have e0 : ((A.size : Int) == (A.size : Int)) = true := by simp
    have e1 : (r.status == r.status) = true := by simp
    have e2 : ((mkB r.body).toList == (mkB r.body).toList) = true := by simp
    have e3 : ((mkB r.cookie).toList == (mkB r.cookie).toList) = true := by simp
    have e4 : (r.close == r.close) = true := by simp
    clear hA hl1 hl2 hok HPR HPE HLN HRV
    obtain ⟨c0, c1, c2, c3⟩ := HCLS.out _ HX3.out
    go_wp2_with fail
    refine (H4.out _ HB3.out).mono ?_
    rintro e w4 ⟨rfl, b4⟩
    have HB4 : Hid (Below w.heap.size w w4) := HB3.out.trans (b4.mono HB3.out.size)
    have HX4 : Hid (RpB w4 w.heap.size r) := HX3.out.below b4
    clear b4 c0 c1 c2 c3
    obtain ⟨c0, c1, c2, c3⟩ := HCLS.out _ HX4.out
    go_wp2_with fail
    refine (H5.out _).mono ?_
    rintro e w5 ⟨rfl, b5⟩
    have HB5 : Hid (Below w.heap.size w w5) := HB4.out.trans (b5.mono HB4.out.size)
    have HX5 : Hid (RpB w5 w.heap.size r) := HX4.out.below b5
    clear b5 c0 c1 c2 c3
    go_wp2_with fail
    refine (H6.out _ HB5.out).mono ?_
    rintro e w6 ⟨rfl, b6⟩
    have HB6 : Hid (Below w.heap.size w w6) := HB5.out.trans (b6.mono HB5.out.size)
    have HX6 : Hid (RpB w6 w.heap.size r) := HX5.out.below b6
    clear b6
    obtain ⟨V1, hV1⟩ : ∃ V1, w6.alloc (.cells #[.int .i64 0, .string ⟨#[]⟩, .string ⟨#[]⟩, .bool false] 23) = V1 := ⟨_, rfl⟩
    have HBV : Hid (Below w.heap.size w V1) := by rw [Hid, ← hV1]; exact HB6.out.alloc HB6.out.size _
    have HXV : Hid (RpB V1 w6.heap.size (rpl0 0)) := by rw [Hid, ← hV1]; exact block_alloc_at _ _
    have HGV : Hid (RpB V1 w.heap.size r) := by rw [Hid, ← hV1]; exact HX6.out.below ((Below.refl _ _).alloc (Nat.le_refl _) _)
    obtain ⟨k0, k1, k2, k3⟩ := HXV.out.cells
    have f0 := HXV.out.free 0
    have f1 := HXV.out.free 1
    have f2 := HXV.out.free 2
    have f3 := HXV.out.free 3
    obtain ⟨W7, hW7⟩ : ∃ W7, set4 V1 w6.heap.size r = W7 := ⟨_, rfl⟩
    have HX7 : Hid (RpB W7 w6.heap.size r) := by rw [Hid, ← hW7]; exact HXV.out.set4 _
    have HG7 : Hid (RpB W7 w.heap.size r) := by
      rw [Hid, ← hW7]
      exact (set4_heap _ _ _ _ (by have := HX6.out.lt; omega)).trans HGV.out
    have HB7 : Hid (Below w.heap.size w W7) := by
      rw [Hid, ← hW7]
      have q : Keeps (fun _ => False) w (set4 V1 w6.heap.size r) := set4_keeps (Keeps.of_below HBV.out) HB6.out.size _
      exact q.below (Nat.le_refl _) (fun k f => f.elim)
    have HW7 : Hid (set4 V1 w6.heap.size r = W7) := hW7
    unfold set4 at HW7
    clear hW7
    go_upto_region 10 with fail
    rw [HW7.out]
    clear k0 k1 k2 k3 f0 f1 f2 f3 hV1 HW7
    obtain ⟨c0, c1, c2, c3⟩ := HCLS.out _ HG7.out
    obtain ⟨d0, d1, d2, d3⟩ := HX7.out.cells
    go_wp2_with fail
    go_ret
    exact ⟨rfl, HB7.out⟩
end Go.Proofs.YtdkbgbhcnbmlfaaDoor
