/-
  The contract of Check.
-/
import Derived.Test.YtdkbgbhcnbmlfaaDoorPrs
import Derived.BigQuiet
namespace Go.Proofs.YtdkbgbhcnbmlfaaDoor
open Go.RowKit
def okR (r : Rp) : Bool := (phF phL r.status).isSome && decide (r.body.length ≤ 65536) && !(decide (r.status = 204) && !r.body.isEmpty) && decide (r.cookie.length ≤ 256) && decide (inC r.cookie = r.cookie.length)
def chkR (r : Rp) : Int := if okR r = true then 0 else 180
theorem mkB_empty (l : List UInt8) : (mkB l).toList.isEmpty = l.isEmpty := by rw [ByteArray.toList_eq, mkB_list]
def rpZ (r : Rp) : Prop := -9223372036854775808 ≤ r.status ∧ r.status ≤ 9223372036854775807 ∧ r.body.length ≤ 140737488355328 ∧ r.cookie.length ≤ 140737488355328
theorem zero44 (w : World) : (zeroValue 44).run Tryd.prog w = .ok (.agg #[.string ⟨#[]⟩]) w := by kernel_rfl
set_option maxRecDepth 20000 in
set_option maxHeartbeats 16000000 in
theorem check_any (r : Rp) (hz : rpZ r) (w : World) : Calls Tryd.prog 10 #[rpV r] w fun e w' => e = .returned (.int .i64 (chkR r)) ∧ Below w.heap.size w w' := by
  obtain ⟨z0, z1, z2, z3⟩ := hz
  have H1 : Hid (∀ W : World, _) := fun W => phrases_any W
  have HL : Hid (∀ (W : World) (b : Nat), W.ownsMap Tryd.prog 3 phR b 13 (phD phL) → _) := fun W b q => ph_look_ok q z0 z1
  have H2 : Hid (∀ W : World, _) := fun W => inCookie_any (mkB r.cookie) (by rw [mkB_size]; omega) W
  rw [mkB_list] at H2
  have HR : Hid (chkR r = if ((phF phL r.status).isSome && decide (r.body.length ≤ 65536) && !(decide (r.status = 204) && !r.body.isEmpty) && decide (r.cookie.length ≤ 256) && decide (inC r.cookie = r.cookie.length)) = true then 0 else 180) := rfl
  have hil := inC_le r.cookie
  obtain ⟨W0, hW0⟩ : ∃ W0, w.alloc (.cells (rpA r) 23) = W0 := ⟨_, rfl⟩
  have HB0 : Hid (Below w.heap.size w W0) := by rw [Hid, ← hW0]; exact (Below.refl _ _).alloc (Nat.le_refl _) _
  have HX0 : Hid (RpB W0 w.heap.size r) := by rw [Hid, ← hW0]; exact block_alloc_at _ _
  unfold rpA at hW0
  have HCS : Hid (∀ W, RpB W w.heap.size r → _) := fun W q => RpB.cells q
  obtain ⟨st, bd0, ck0, cl⟩ := r
  simp only at HR H2 HL hil z0 z1 z2 z3 hW0 HCS
  have hb1 := mkB_size bd0
  have hb2 := mkB_empty bd0
  have hc1 := mkB_size ck0
  obtain ⟨bd, hbd⟩ : ∃ bd, mkB bd0 = bd := ⟨_, rfl⟩
  obtain ⟨ck, hck⟩ : ∃ ck, mkB ck0 = ck := ⟨_, rfl⟩
  rw [hbd] at hb1 hb2 hW0 HCS
  rw [hck] at hc1 hW0 H2 HCS
  obtain ⟨n, hn⟩ : ∃ n, inC ck0 = n := ⟨_, rfl⟩
  rw [hn] at HR H2 hil
  rw [← hb1] at HR z2
  rw [← hb2] at HR
  rw [← hc1] at HR hil z3
  obtain ⟨is, his⟩ : ∃ is, (phF phL st).isSome = is := ⟨_, rfl⟩
  rw [his] at HR HL
  obtain ⟨em, hem⟩ : ∃ em, bd.toList.isEmpty = em := ⟨_, rfl⟩
  rw [hem] at HR
  obtain ⟨T, hT⟩ : ∃ T, chkR ⟨st, bd0, ck0, cl⟩ = T := ⟨_, rfl⟩
  rw [hT] at HR ⊢
  obtain ⟨wd, hwd⟩ : ∃ wd, wordsR st = wd := ⟨_, rfl⟩
  rw [hwd] at HL
  show Calls _ _ #[.agg #[.int .i64 st, .string (mkB bd0), .string (mkB ck0), .bool cl]] _ _
  rw [hbd, hck]
  clear hbd hck hn his hT hwd hb1 hb2 hc1
  go_enter Tryd.func10, Tryd.ntmps10
  go_wp2_with fail
  try rw [hW0]
  clear hW0
  refine wp_region_held_drew (S := fun W => RpB W w.heap.size ⟨st, bd0, ck0, cl⟩) (by kernel_rfl) HX0.out (fun hHeld => ?_)
  refine wpAnyH_take (i := 1) (oi := ({ dst := some 7, op := Op.fieldAddr 23 (Operand.tmp 1) 0, type := 0, pos := "reply.go:53", after := #[], guard := none } : Oper)) (v := ?_) rfl (by kernel_rfl) (by kernel_rfl) (by kernel_rfl) (fun _ _ _ h => h) (Or.inl ⟨by rfl, ?_⟩) (by assumption) ?_
  rotate_left
  · (intro w hSw; go_simp; try with_reducible rfl)
  try simp only [Act.put, List.setIfInBounds_toArray, List.set_cons_zero, List.set_cons_succ]
  refine wpAnyH_take (i := 2) (oi := ({ dst := some 8, op := Op.load 3 (Operand.tmp 7), type := 3, pos := "reply.go:53", after := #[{ on := 1, ground := Ground.data }], guard := none } : Oper)) (v := ?_) rfl (by kernel_rfl) (by kernel_rfl) (by kernel_rfl) (fun _ _ _ h => h) (Or.inl ⟨by rfl, ?_⟩) (by assumption) ?_
  rotate_left
  · (intro w hSw; obtain ⟨c0, c1, c2, c3⟩ := HCS.out _ hSw; go_simp; try with_reducible rfl)
  try simp only [Act.put, List.setIfInBounds_toArray, List.set_cons_zero, List.set_cons_succ]
  refine wpAnyH_ready (rs := [0, 7]) (by kernel_rfl) (by simp) ?_
  refine (AllReadyH.cons rfl (fun K hK => ?_) (AllReadyH.cons rfl (fun K hK => ?_) AllReadyH.nil))
  · go_simp
    go_wp2_with (go_at_call 22; refine (H1.out _).mono ?_; rintro x v1 ⟨rfl, o1, b1⟩)
    have HO1 : Hid (v1.ownsMap Tryd.prog 3 phR W0.heap.size 13 (phD phL)) := o1
    have HV1 : Hid (Below w.heap.size w v1) := (below_drewN HB0.out 1).trans (b1.mono (below_drewN HB0.out 1).size)
    refine hK.out _ _ (RpB.below hHeld b1) (fun hHeld => ?_)
    clear o1 b1
    clear hK K
    refine wpAnyH_ready (rs := [3, 7]) (by kernel_rfl) (by simp) ?_
    refine (AllReadyH.cons rfl (fun K hK => ?_) (AllReadyH.cons rfl (fun K hK => ?_) AllReadyH.nil))
    · have l1 := HL.out _ _ HO1.out
      go_simp
      refine hK.out _ _ hHeld (fun hHeld => ?_)
      clear l1
      clear hK K
      refine wpAnyH_take (i := 4) (oi := ({ dst := some 5, op := Op.move (Operand.tmp 9), type := 45, pos := "reply.go:53", after := #[{ on := 3, ground := Ground.data }], guard := none } : Oper)) (v := ?_) rfl (by kernel_rfl) (by kernel_rfl) (by kernel_rfl) (fun _ _ _ h => h) (Or.inl ⟨by rfl, ?_⟩) (by assumption) ?_
      rotate_left
      · (intro w hSw; go_simp; try with_reducible rfl)
      try simp only [Act.put, List.setIfInBounds_toArray, List.set_cons_zero, List.set_cons_succ]
      refine wpAnyH_take (i := 5) (oi := ({ dst := some 10, op := Op.extract (Operand.tmp 5) 0, type := 44, pos := "reply.go:53", after := #[{ on := 4, ground := Ground.data }], guard := none } : Oper)) (v := ?_) rfl (by kernel_rfl) (by kernel_rfl) (by kernel_rfl) (fun _ _ _ h => h) (Or.inl ⟨by rfl, ?_⟩) (by assumption) ?_
      rotate_left
      · (intro w hSw; go_simp; try with_reducible rfl)
      try simp only [Act.put, List.setIfInBounds_toArray, List.set_cons_zero, List.set_cons_succ]
      refine wpAnyH_take (i := 6) (oi := ({ dst := some 11, op := Op.extract (Operand.tmp 5) 1, type := 4, pos := "reply.go:53", after := #[{ on := 4, ground := Ground.data }, { on := 8, ground := Ground.gcOnly Departure.lateStores }], guard := none } : Oper)) (v := ?_) rfl (by kernel_rfl) (by kernel_rfl) (by kernel_rfl) (fun _ _ _ h => h) (Or.inl ⟨by rfl, ?_⟩) (by assumption) ?_
      rotate_left
      · (intro w hSw; go_simp; try with_reducible rfl)
      try simp only [Act.put, List.setIfInBounds_toArray, List.set_cons_zero, List.set_cons_succ]
      refine wpAnyH_ready (rs := [7]) (by kernel_rfl) (by simp) ?_
      refine (AllReadyH.cons rfl (fun K hK => ?_) AllReadyH.nil)
      go_simp
      obtain ⟨v2, hv2⟩ : ∃ v2, (v1).alloc (.cells #[.string ⟨#[]⟩] 44) = v2 := ⟨_, rfl⟩
      have HV2 : Hid (Below w.heap.size w v2) := by rw [Hid, ← hv2]; exact HV1.out.alloc HV1.out.size _
      have HA2 : Hid (v2.heap[v1.heap.size]? = some (.cells #[.string ⟨#[]⟩] 44 (0, 0))) := by rw [Hid, ← hv2]; exact block_alloc_at v1 _
      have HAB : Hid (w.heap.size < v1.heap.size) := hHeld.lt
      have HO2 : Hid (v2.ownsMap Tryd.prog 3 phR W0.heap.size 13 (phD phL)) := by rw [Hid, ← hv2]; exact World.ownsMap.alloc HO1.out _
      have hH : RpB v2 w.heap.size ⟨st, bd0, ck0, cl⟩ := by rw [← hv2]; exact RpB.below hHeld ((Below.refl _ _).alloc (Nat.le_refl _) _)
      try rw [hv2]
      refine hK.out _ _ hH (fun hHeld => ?_)
      clear hH hv2
      clear hK K
      refine wpAnyH_ready (rs := [8]) (by kernel_rfl) (by simp) ?_
      refine (AllReadyH.cons rfl (fun K hK => ?_) AllReadyH.nil)
      have y0 := cell_of_block HA2.out (o := 0) rfl
      have y1 := free_of_block HA2.out 0
      go_simp
      have hH : RpB (v2.setCell ⟨v1.heap.size, 0, none⟩ (.string wd)) w.heap.size ⟨st, bd0, ck0, cl⟩ := RpB.set_other hHeld (by have := HAB.out; omega) _
      have HV9 : Hid (Below w.heap.size w (v2.setCell ⟨v1.heap.size, 0, none⟩ (.string wd))) := HV2.out.setCell (p := ⟨v1.heap.size, 0, none⟩) (Nat.le_of_lt HAB.out) _
      obtain ⟨v9, hv9⟩ : ∃ v9, v2.setCell ⟨v1.heap.size, 0, none⟩ (.string wd) = v9 := ⟨_, rfl⟩
      rw [hv9] at hH HV9
      try rw [hv9]
      refine hK.out _ _ hH (fun hHeld => ?_)
      clear hH hv9 y0 y1
      clear hK K
      refine wpAnyH_take (i := 9) (oi := ({ dst := some 4, op := Op.assign (Operand.tmp 11), type := 4, pos := "reply.go:53", after := #[{ on := 6, ground := Ground.data }, { on := 8, ground := Ground.chain }, { on := 0, ground := Ground.phase }, { on := 1, ground := Ground.phase }, { on := 2, ground := Ground.phase }, { on := 3, ground := Ground.phase }, { on := 4, ground := Ground.phase }, { on := 5, ground := Ground.phase }, { on := 6, ground := Ground.phase }, { on := 7, ground := Ground.phase }, { on := 8, ground := Ground.phase }], guard := none } : Oper)) (v := ?_) rfl (by kernel_rfl) (by kernel_rfl) (by kernel_rfl) (fun _ _ _ h => h) (Or.inl ⟨by rfl, ?_⟩) (by assumption) ?_
      rotate_left
      · (intro w hSw; go_simp; try with_reducible rfl)
      refine wpAnyH_done (by kernel_rfl) ?_ _
      try simp only [Act.put, List.setIfInBounds_toArray, List.set_cons_zero, List.set_cons_succ]
      obtain ⟨c0, c1, c2, c3⟩ := HCS.out _ hHeld
      have HH : Hid (RpB v9 w.heap.size ⟨st, bd0, ck0, cl⟩) := hHeld
      clear hHeld
      cases is with
      | false =>
        have HT : Hid (T = 180) := by rw [Hid, HR.out, if_neg (by simp)]
        go_wp2_with fail
        go_ret
        exact ⟨by rw [HT.out]; rfl, HV9.out⟩
      | true =>
        by_cases g1 : bd.size ≤ 65536
        · have g1z : ¬ (65536 : Int) < (bd.size : Int) := by omega
          have key : Hid ((st = 204 ∧ em = false) ∨ ¬ (st = 204 ∧ em = false)) := Classical.em _
          rcases key.out with g2 | g2
          · obtain ⟨rfl, rfl⟩ := g2
            have HT : Hid (T = 180) := by rw [Hid, HR.out, if_neg (by simp)]
            go_wp2_with fail
            go_ret
            exact ⟨by rw [HT.out]; rfl, HV9.out⟩
          · have HG2 : Hid ((!(decide (st = 204) && !em)) = true) := by rw [Hid]; cases em <;> simp_all
            by_cases g3 : ck.size ≤ 256
            · have g3z : ¬ (256 : Int) < (ck.size : Int) := by omega
              by_cases g4 : n < ck.size
              · have g4z : (n : Int) < (ck.size : Int) := by omega
                have HT : Hid (T = 180) := by rw [Hid, HR.out, if_neg (by simp; omega)]
                by_cases g5 : st = 204
                · subst g5
                  obtain rfl : em = true := by cases em with | true => rfl | false => exact absurd ⟨rfl, rfl⟩ g2
                  go_wp2_with fail
                  go_quiet (first | (go_at_call 23; exact Calls.quiet_of_same (H2.out _)))
                  go_wp2_with fail
                  go_ret
                  exact ⟨by rw [HT.out]; rfl, below_drewN HV9.out _⟩
                · have g5z : (st == 204) = false := beq_eq_false_iff_ne.2 g5
                  go_wp2_with fail
                  go_quiet (first | (go_at_call 23; exact Calls.quiet_of_same (H2.out _)))
                  go_wp2_with fail
                  go_ret
                  exact ⟨by rw [HT.out]; rfl, below_drewN HV9.out _⟩
              · have g4z : ¬ (n : Int) < (ck.size : Int) := by omega
                have HT : Hid (T = 0) := by rw [Hid, HR.out, HG2.out, if_pos (by simp; omega)]
                by_cases g5 : st = 204
                · subst g5
                  obtain rfl : em = true := by cases em with | true => rfl | false => exact absurd ⟨rfl, rfl⟩ g2
                  go_wp2_with fail
                  go_quiet (first | (go_at_call 23; exact Calls.quiet_of_same (H2.out _)))
                  go_wp2_with fail
                  go_ret
                  exact ⟨by rw [HT.out]; rfl, below_drewN HV9.out _⟩
                · have g5z : (st == 204) = false := beq_eq_false_iff_ne.2 g5
                  go_wp2_with fail
                  go_quiet (first | (go_at_call 23; exact Calls.quiet_of_same (H2.out _)))
                  go_wp2_with fail
                  go_ret
                  exact ⟨by rw [HT.out]; rfl, below_drewN HV9.out _⟩
            · have g3z : (256 : Int) < (ck.size : Int) := by omega
              have HT : Hid (T = 180) := by rw [Hid, HR.out, if_neg (by simp; omega)]
              by_cases g5 : st = 204
              · subst g5
                obtain rfl : em = true := by cases em with | true => rfl | false => exact absurd ⟨rfl, rfl⟩ g2
                go_wp2_with fail
                go_ret
                exact ⟨by rw [HT.out]; rfl, HV9.out⟩
              · have g5z : (st == 204) = false := beq_eq_false_iff_ne.2 g5
                go_wp2_with fail
                go_ret
                exact ⟨by rw [HT.out]; rfl, HV9.out⟩
        · have g1z : (65536 : Int) < (bd.size : Int) := by omega
          have HT : Hid (T = 180) := by rw [Hid, HR.out, if_neg (by simp; omega)]
          go_wp2_with fail
          go_ret
          exact ⟨by rw [HT.out]; rfl, HV9.out⟩
    · go_simp
      obtain ⟨v2, hv2⟩ : ∃ v2, (v1).alloc (.cells #[.string ⟨#[]⟩] 44) = v2 := ⟨_, rfl⟩
      have HV2 : Hid (Below w.heap.size w v2) := by rw [Hid, ← hv2]; exact HV1.out.alloc HV1.out.size _
      have HA2 : Hid (v2.heap[v1.heap.size]? = some (.cells #[.string ⟨#[]⟩] 44 (0, 0))) := by rw [Hid, ← hv2]; exact block_alloc_at v1 _
      have HAB : Hid (w.heap.size < v1.heap.size) := hHeld.lt
      have HO2 : Hid (v2.ownsMap Tryd.prog 3 phR W0.heap.size 13 (phD phL)) := by rw [Hid, ← hv2]; exact World.ownsMap.alloc HO1.out _
      have hH : RpB v2 w.heap.size ⟨st, bd0, ck0, cl⟩ := by rw [← hv2]; exact RpB.below hHeld ((Below.refl _ _).alloc (Nat.le_refl _) _)
      try rw [hv2]
      refine hK.out _ _ hH (fun hHeld => ?_)
      clear hH hv2
      clear hK K
      refine wpAnyH_ready (rs := [3]) (by kernel_rfl) (by simp) ?_
      refine (AllReadyH.cons rfl (fun K hK => ?_) AllReadyH.nil)
      have l1 := HL.out _ _ HO2.out
      go_simp
      refine hK.out _ _ hHeld (fun hHeld => ?_)
      clear l1
      clear hK K
      refine wpAnyH_take (i := 4) (oi := ({ dst := some 5, op := Op.move (Operand.tmp 9), type := 45, pos := "reply.go:53", after := #[{ on := 3, ground := Ground.data }], guard := none } : Oper)) (v := ?_) rfl (by kernel_rfl) (by kernel_rfl) (by kernel_rfl) (fun _ _ _ h => h) (Or.inl ⟨by rfl, ?_⟩) (by assumption) ?_
      rotate_left
      · (intro w hSw; go_simp; try with_reducible rfl)
      try simp only [Act.put, List.setIfInBounds_toArray, List.set_cons_zero, List.set_cons_succ]
      refine wpAnyH_take (i := 5) (oi := ({ dst := some 10, op := Op.extract (Operand.tmp 5) 0, type := 44, pos := "reply.go:53", after := #[{ on := 4, ground := Ground.data }], guard := none } : Oper)) (v := ?_) rfl (by kernel_rfl) (by kernel_rfl) (by kernel_rfl) (fun _ _ _ h => h) (Or.inl ⟨by rfl, ?_⟩) (by assumption) ?_
      rotate_left
      · (intro w hSw; go_simp; try with_reducible rfl)
      try simp only [Act.put, List.setIfInBounds_toArray, List.set_cons_zero, List.set_cons_succ]
      refine wpAnyH_take (i := 6) (oi := ({ dst := some 11, op := Op.extract (Operand.tmp 5) 1, type := 4, pos := "reply.go:53", after := #[{ on := 4, ground := Ground.data }, { on := 8, ground := Ground.gcOnly Departure.lateStores }], guard := none } : Oper)) (v := ?_) rfl (by kernel_rfl) (by kernel_rfl) (by kernel_rfl) (fun _ _ _ h => h) (Or.inl ⟨by rfl, ?_⟩) (by assumption) ?_
      rotate_left
      · (intro w hSw; go_simp; try with_reducible rfl)
      try simp only [Act.put, List.setIfInBounds_toArray, List.set_cons_zero, List.set_cons_succ]
      refine wpAnyH_ready (rs := [8]) (by kernel_rfl) (by simp) ?_
      refine (AllReadyH.cons rfl (fun K hK => ?_) AllReadyH.nil)
      have y0 := cell_of_block HA2.out (o := 0) rfl
      have y1 := free_of_block HA2.out 0
      go_simp
      have hH : RpB (v2.setCell ⟨v1.heap.size, 0, none⟩ (.string wd)) w.heap.size ⟨st, bd0, ck0, cl⟩ := RpB.set_other hHeld (by have := HAB.out; omega) _
      have HV9 : Hid (Below w.heap.size w (v2.setCell ⟨v1.heap.size, 0, none⟩ (.string wd))) := HV2.out.setCell (p := ⟨v1.heap.size, 0, none⟩) (Nat.le_of_lt HAB.out) _
      obtain ⟨v9, hv9⟩ : ∃ v9, v2.setCell ⟨v1.heap.size, 0, none⟩ (.string wd) = v9 := ⟨_, rfl⟩
      rw [hv9] at hH HV9
      try rw [hv9]
      refine hK.out _ _ hH (fun hHeld => ?_)
      clear hH hv9 y0 y1
      clear hK K
      refine wpAnyH_take (i := 9) (oi := ({ dst := some 4, op := Op.assign (Operand.tmp 11), type := 4, pos := "reply.go:53", after := #[{ on := 6, ground := Ground.data }, { on := 8, ground := Ground.chain }, { on := 0, ground := Ground.phase }, { on := 1, ground := Ground.phase }, { on := 2, ground := Ground.phase }, { on := 3, ground := Ground.phase }, { on := 4, ground := Ground.phase }, { on := 5, ground := Ground.phase }, { on := 6, ground := Ground.phase }, { on := 7, ground := Ground.phase }, { on := 8, ground := Ground.phase }], guard := none } : Oper)) (v := ?_) rfl (by kernel_rfl) (by kernel_rfl) (by kernel_rfl) (fun _ _ _ h => h) (Or.inl ⟨by rfl, ?_⟩) (by assumption) ?_
      rotate_left
      · (intro w hSw; go_simp; try with_reducible rfl)
      refine wpAnyH_done (by kernel_rfl) ?_ _
      try simp only [Act.put, List.setIfInBounds_toArray, List.set_cons_zero, List.set_cons_succ]
      obtain ⟨c0, c1, c2, c3⟩ := HCS.out _ hHeld
      have HH : Hid (RpB v9 w.heap.size ⟨st, bd0, ck0, cl⟩) := hHeld
      clear hHeld
      cases is with
      | false =>
        have HT : Hid (T = 180) := by rw [Hid, HR.out, if_neg (by simp)]
        go_wp2_with fail
        go_ret
        exact ⟨by rw [HT.out]; rfl, HV9.out⟩
      | true =>
        by_cases g1 : bd.size ≤ 65536
        · have g1z : ¬ (65536 : Int) < (bd.size : Int) := by omega
          have key : Hid ((st = 204 ∧ em = false) ∨ ¬ (st = 204 ∧ em = false)) := Classical.em _
          rcases key.out with g2 | g2
          · obtain ⟨rfl, rfl⟩ := g2
            have HT : Hid (T = 180) := by rw [Hid, HR.out, if_neg (by simp)]
            go_wp2_with fail
            go_ret
            exact ⟨by rw [HT.out]; rfl, HV9.out⟩
          · have HG2 : Hid ((!(decide (st = 204) && !em)) = true) := by rw [Hid]; cases em <;> simp_all
            by_cases g3 : ck.size ≤ 256
            · have g3z : ¬ (256 : Int) < (ck.size : Int) := by omega
              by_cases g4 : n < ck.size
              · have g4z : (n : Int) < (ck.size : Int) := by omega
                have HT : Hid (T = 180) := by rw [Hid, HR.out, if_neg (by simp; omega)]
                by_cases g5 : st = 204
                · subst g5
                  obtain rfl : em = true := by cases em with | true => rfl | false => exact absurd ⟨rfl, rfl⟩ g2
                  go_wp2_with fail
                  go_quiet (first | (go_at_call 23; exact Calls.quiet_of_same (H2.out _)))
                  go_wp2_with fail
                  go_ret
                  exact ⟨by rw [HT.out]; rfl, below_drewN HV9.out _⟩
                · have g5z : (st == 204) = false := beq_eq_false_iff_ne.2 g5
                  go_wp2_with fail
                  go_quiet (first | (go_at_call 23; exact Calls.quiet_of_same (H2.out _)))
                  go_wp2_with fail
                  go_ret
                  exact ⟨by rw [HT.out]; rfl, below_drewN HV9.out _⟩
              · have g4z : ¬ (n : Int) < (ck.size : Int) := by omega
                have HT : Hid (T = 0) := by rw [Hid, HR.out, HG2.out, if_pos (by simp; omega)]
                by_cases g5 : st = 204
                · subst g5
                  obtain rfl : em = true := by cases em with | true => rfl | false => exact absurd ⟨rfl, rfl⟩ g2
                  go_wp2_with fail
                  go_quiet (first | (go_at_call 23; exact Calls.quiet_of_same (H2.out _)))
                  go_wp2_with fail
                  go_ret
                  exact ⟨by rw [HT.out]; rfl, below_drewN HV9.out _⟩
                · have g5z : (st == 204) = false := beq_eq_false_iff_ne.2 g5
                  go_wp2_with fail
                  go_quiet (first | (go_at_call 23; exact Calls.quiet_of_same (H2.out _)))
                  go_wp2_with fail
                  go_ret
                  exact ⟨by rw [HT.out]; rfl, below_drewN HV9.out _⟩
            · have g3z : (256 : Int) < (ck.size : Int) := by omega
              have HT : Hid (T = 180) := by rw [Hid, HR.out, if_neg (by simp; omega)]
              by_cases g5 : st = 204
              · subst g5
                obtain rfl : em = true := by cases em with | true => rfl | false => exact absurd ⟨rfl, rfl⟩ g2
                go_wp2_with fail
                go_ret
                exact ⟨by rw [HT.out]; rfl, HV9.out⟩
              · have g5z : (st == 204) = false := beq_eq_false_iff_ne.2 g5
                go_wp2_with fail
                go_ret
                exact ⟨by rw [HT.out]; rfl, HV9.out⟩
        · have g1z : (65536 : Int) < (bd.size : Int) := by omega
          have HT : Hid (T = 180) := by rw [Hid, HR.out, if_neg (by simp; omega)]
          go_wp2_with fail
          go_ret
          exact ⟨by rw [HT.out]; rfl, HV9.out⟩
  · go_simp
    obtain ⟨v1, hv1⟩ : ∃ v1, (W0.alloc (.cells #[.string ⟨#[]⟩] 44)).drew = v1 := ⟨_, rfl⟩
    have HV1 : Hid (Below w.heap.size w v1) := by rw [Hid, ← hv1]; exact below_drewN (HB0.out.alloc HB0.out.size _) 1
    have HA1 : Hid (v1.heap[W0.heap.size]? = some (.cells #[.string ⟨#[]⟩] 44 (0, 0))) := by rw [Hid, ← hv1]; exact block_alloc_at W0 _
    have HAB : Hid (w.heap.size < W0.heap.size) := hHeld.lt
    have hH : RpB v1 w.heap.size ⟨st, bd0, ck0, cl⟩ := by rw [← hv1]; exact RpB.below (show RpB W0 w.heap.size ⟨st, bd0, ck0, cl⟩ from hHeld) (below_drewN ((Below.refl _ _).alloc (Nat.le_refl _) _) 1)
    try rw [hv1]
    refine hK.out _ _ hH (fun hHeld => ?_)
    clear hH hv1
    clear hK K
    refine wpAnyH_ready (rs := [0]) (by kernel_rfl) (by simp) ?_
    refine (AllReadyH.cons rfl (fun K hK => ?_) AllReadyH.nil)
    go_simp
    go_wp2_with (go_at_call 22; refine (H1.out _).mono ?_; rintro x v2 ⟨rfl, o2, b2⟩)
    have HO2 : Hid (v2.ownsMap Tryd.prog 3 phR v1.heap.size 13 (phD phL)) := o2
    have HV2 : Hid (Below w.heap.size w v2) := HV1.out.trans (b2.mono HV1.out.size)
    have HA2 : Hid (v2.heap[W0.heap.size]? = some (.cells #[.string ⟨#[]⟩] 44 (0, 0))) := (b2.block _ (lt_of_block HA1.out)).trans HA1.out
    refine hK.out _ _ (RpB.below hHeld b2) (fun hHeld => ?_)
    clear o2 b2
    clear hK K
    refine wpAnyH_ready (rs := [3]) (by kernel_rfl) (by simp) ?_
    refine (AllReadyH.cons rfl (fun K hK => ?_) AllReadyH.nil)
    have l1 := HL.out _ _ HO2.out
    go_simp
    refine hK.out _ _ hHeld (fun hHeld => ?_)
    clear l1
    clear hK K
    refine wpAnyH_take (i := 4) (oi := ({ dst := some 5, op := Op.move (Operand.tmp 9), type := 45, pos := "reply.go:53", after := #[{ on := 3, ground := Ground.data }], guard := none } : Oper)) (v := ?_) rfl (by kernel_rfl) (by kernel_rfl) (by kernel_rfl) (fun _ _ _ h => h) (Or.inl ⟨by rfl, ?_⟩) (by assumption) ?_
    rotate_left
    · (intro w hSw; go_simp; try with_reducible rfl)
    try simp only [Act.put, List.setIfInBounds_toArray, List.set_cons_zero, List.set_cons_succ]
    refine wpAnyH_take (i := 5) (oi := ({ dst := some 10, op := Op.extract (Operand.tmp 5) 0, type := 44, pos := "reply.go:53", after := #[{ on := 4, ground := Ground.data }], guard := none } : Oper)) (v := ?_) rfl (by kernel_rfl) (by kernel_rfl) (by kernel_rfl) (fun _ _ _ h => h) (Or.inl ⟨by rfl, ?_⟩) (by assumption) ?_
    rotate_left
    · (intro w hSw; go_simp; try with_reducible rfl)
    try simp only [Act.put, List.setIfInBounds_toArray, List.set_cons_zero, List.set_cons_succ]
    refine wpAnyH_take (i := 6) (oi := ({ dst := some 11, op := Op.extract (Operand.tmp 5) 1, type := 4, pos := "reply.go:53", after := #[{ on := 4, ground := Ground.data }, { on := 8, ground := Ground.gcOnly Departure.lateStores }], guard := none } : Oper)) (v := ?_) rfl (by kernel_rfl) (by kernel_rfl) (by kernel_rfl) (fun _ _ _ h => h) (Or.inl ⟨by rfl, ?_⟩) (by assumption) ?_
    rotate_left
    · (intro w hSw; go_simp; try with_reducible rfl)
    try simp only [Act.put, List.setIfInBounds_toArray, List.set_cons_zero, List.set_cons_succ]
    refine wpAnyH_ready (rs := [8]) (by kernel_rfl) (by simp) ?_
    refine (AllReadyH.cons rfl (fun K hK => ?_) AllReadyH.nil)
    have y0 := cell_of_block HA2.out (o := 0) rfl
    have y1 := free_of_block HA2.out 0
    go_simp
    have hH : RpB (v2.setCell ⟨W0.heap.size, 0, none⟩ (.string wd)) w.heap.size ⟨st, bd0, ck0, cl⟩ := RpB.set_other hHeld (by have := HAB.out; omega) _
    have HV9 : Hid (Below w.heap.size w (v2.setCell ⟨W0.heap.size, 0, none⟩ (.string wd))) := HV2.out.setCell (p := ⟨W0.heap.size, 0, none⟩) (Nat.le_of_lt HAB.out) _
    obtain ⟨v9, hv9⟩ : ∃ v9, v2.setCell ⟨W0.heap.size, 0, none⟩ (.string wd) = v9 := ⟨_, rfl⟩
    rw [hv9] at hH HV9
    try rw [hv9]
    refine hK.out _ _ hH (fun hHeld => ?_)
    clear hH hv9 y0 y1
    clear hK K
    refine wpAnyH_take (i := 9) (oi := ({ dst := some 4, op := Op.assign (Operand.tmp 11), type := 4, pos := "reply.go:53", after := #[{ on := 6, ground := Ground.data }, { on := 8, ground := Ground.chain }, { on := 0, ground := Ground.phase }, { on := 1, ground := Ground.phase }, { on := 2, ground := Ground.phase }, { on := 3, ground := Ground.phase }, { on := 4, ground := Ground.phase }, { on := 5, ground := Ground.phase }, { on := 6, ground := Ground.phase }, { on := 7, ground := Ground.phase }, { on := 8, ground := Ground.phase }], guard := none } : Oper)) (v := ?_) rfl (by kernel_rfl) (by kernel_rfl) (by kernel_rfl) (fun _ _ _ h => h) (Or.inl ⟨by rfl, ?_⟩) (by assumption) ?_
    rotate_left
    · (intro w hSw; go_simp; try with_reducible rfl)
    refine wpAnyH_done (by kernel_rfl) ?_ _
    try simp only [Act.put, List.setIfInBounds_toArray, List.set_cons_zero, List.set_cons_succ]
    obtain ⟨c0, c1, c2, c3⟩ := HCS.out _ hHeld
    have HH : Hid (RpB v9 w.heap.size ⟨st, bd0, ck0, cl⟩) := hHeld
    clear hHeld
    cases is with
    | false =>
      have HT : Hid (T = 180) := by rw [Hid, HR.out, if_neg (by simp)]
      go_wp2_with fail
      go_ret
      exact ⟨by rw [HT.out]; rfl, HV9.out⟩
    | true =>
      by_cases g1 : bd.size ≤ 65536
      · have g1z : ¬ (65536 : Int) < (bd.size : Int) := by omega
        have key : Hid ((st = 204 ∧ em = false) ∨ ¬ (st = 204 ∧ em = false)) := Classical.em _
        rcases key.out with g2 | g2
        · obtain ⟨rfl, rfl⟩ := g2
          have HT : Hid (T = 180) := by rw [Hid, HR.out, if_neg (by simp)]
          go_wp2_with fail
          go_ret
          exact ⟨by rw [HT.out]; rfl, HV9.out⟩
        · have HG2 : Hid ((!(decide (st = 204) && !em)) = true) := by rw [Hid]; cases em <;> simp_all
          by_cases g3 : ck.size ≤ 256
          · have g3z : ¬ (256 : Int) < (ck.size : Int) := by omega
            by_cases g4 : n < ck.size
            · have g4z : (n : Int) < (ck.size : Int) := by omega
              have HT : Hid (T = 180) := by rw [Hid, HR.out, if_neg (by simp; omega)]
              by_cases g5 : st = 204
              · subst g5
                obtain rfl : em = true := by cases em with | true => rfl | false => exact absurd ⟨rfl, rfl⟩ g2
                go_wp2_with fail
                go_quiet (first | (go_at_call 23; exact Calls.quiet_of_same (H2.out _)))
                go_wp2_with fail
                go_ret
                exact ⟨by rw [HT.out]; rfl, below_drewN HV9.out _⟩
              · have g5z : (st == 204) = false := beq_eq_false_iff_ne.2 g5
                go_wp2_with fail
                go_quiet (first | (go_at_call 23; exact Calls.quiet_of_same (H2.out _)))
                go_wp2_with fail
                go_ret
                exact ⟨by rw [HT.out]; rfl, below_drewN HV9.out _⟩
            · have g4z : ¬ (n : Int) < (ck.size : Int) := by omega
              have HT : Hid (T = 0) := by rw [Hid, HR.out, HG2.out, if_pos (by simp; omega)]
              by_cases g5 : st = 204
              · subst g5
                obtain rfl : em = true := by cases em with | true => rfl | false => exact absurd ⟨rfl, rfl⟩ g2
                go_wp2_with fail
                go_quiet (first | (go_at_call 23; exact Calls.quiet_of_same (H2.out _)))
                go_wp2_with fail
                go_ret
                exact ⟨by rw [HT.out]; rfl, below_drewN HV9.out _⟩
              · have g5z : (st == 204) = false := beq_eq_false_iff_ne.2 g5
                go_wp2_with fail
                go_quiet (first | (go_at_call 23; exact Calls.quiet_of_same (H2.out _)))
                go_wp2_with fail
                go_ret
                exact ⟨by rw [HT.out]; rfl, below_drewN HV9.out _⟩
          · have g3z : (256 : Int) < (ck.size : Int) := by omega
            have HT : Hid (T = 180) := by rw [Hid, HR.out, if_neg (by simp; omega)]
            by_cases g5 : st = 204
            · subst g5
              obtain rfl : em = true := by cases em with | true => rfl | false => exact absurd ⟨rfl, rfl⟩ g2
              go_wp2_with fail
              go_ret
              exact ⟨by rw [HT.out]; rfl, HV9.out⟩
            · have g5z : (st == 204) = false := beq_eq_false_iff_ne.2 g5
              go_wp2_with fail
              go_ret
              exact ⟨by rw [HT.out]; rfl, HV9.out⟩
      · have g1z : (65536 : Int) < (bd.size : Int) := by omega
        have HT : Hid (T = 180) := by rw [Hid, HR.out, if_neg (by simp; omega)]
        go_wp2_with fail
        go_ret
        exact ⟨by rw [HT.out]; rfl, HV9.out⟩
end Go.Proofs.YtdkbgbhcnbmlfaaDoor
