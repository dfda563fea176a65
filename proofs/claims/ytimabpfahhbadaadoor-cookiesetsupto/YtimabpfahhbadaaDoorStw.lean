/-
  The contract of Set.
-/
import Derived.Test.YtimabpfahhbadaaDoorStw0
import Derived.Laws.EntriesVeiled
import Derived.Deep.RegionHeld
namespace Go.Proofs.YtimabpfahhbadaaDoor
open Go.RowKit
set_option maxRecDepth 20000 in
set_option maxHeartbeats 16000000 in
theorem set_any (c : Ck) (hz : ckZ 1000000000 c) (w : World) (ht : c.has = true → TabP w) : Calls Tryd.prog 16 #[ckV c] w fun e w' => e = .returned (.tuple #[.string (setR c).1, .int .i64 (setR c).2]) ∧ Below w.heap.size w w' := by
  obtain ⟨i0, hi, hzz⟩ := Option.map_eq_some_iff.1 info9
  simp only [Prod.mk.injEq] at hzz
  obtain ⟨hz0, hz1, hz2⟩ := hzz
  have H1 : Hid (∀ W : World, _) := fun W => mayBe_any c hz W
  have H2 : Hid (∀ W : World, _) := fun W => printPair_any c.name c.value (by have := hz.1; have := hz.2.1; omega) W
  have H3 : Hid (∀ W : World, _) := fun W => parts_tab W
  have HG : Hid (mayR c = true → setR c = (jn (txK c 5), 0)) := setR_good
  have HF : Hid (mayR c = false → setR c = (⟨#[]⟩, 190)) := setR_bad
  have HAG : Hid (mayR c = true → 0 ≤ c.age ∧ c.age ≤ 2147483647) := fun h => by
    unfold mayR ageR at h
    simp only [Bool.and_eq_true, decide_eq_true_eq] at h
    exact ⟨h.1.2.1, h.1.2.2.1⟩
  obtain ⟨T, hT⟩ : ∃ T, setR c = T := ⟨_, rfl⟩
  rw [hT] at HG HF ⊢
  obtain ⟨my, hmy⟩ : ∃ my, mayR c = my := ⟨_, rfl⟩
  rw [hmy] at H1 HG HF HAG
  clear hT hmy
  obtain ⟨W0, hW0⟩ : ∃ W0, w.alloc (.cells (ckA c) 37) = W0 := ⟨_, rfl⟩
  have HB0 : Hid (Below w.heap.size w W0) := by rw [Hid, ← hW0]; exact (Below.refl _ _).alloc (Nat.le_refl _) _
  have HX0 : Hid (W0.heap[w.heap.size]? = some (.cells (ckA c) 37 (0, 0))) := by rw [Hid, ← hW0]; exact block_alloc_at _ _
  obtain ⟨c0, c1, c2, c3, c4, c5, c6, c7⟩ := ck_cells HX0.out
  have HZ : Hid _ := hz
  have HTB : Hid _ := ht
  clear hz ht
  unfold ckA at hW0
  unfold ckV
  go_enter Tryd.func16, Tryd.ntmps16
  go_wp2_with fail
  try rw [hW0]
  refine (H1.out _).mono ?_
  rintro e w1 ⟨rfl, b1⟩
  have HB1 : Hid (Below w.heap.size w w1) := HB0.out.trans (b1.mono HB0.out.size)
  have HX1 : Hid (w1.heap[w.heap.size]? = some (.cells (ckA c) 37 (0, 0))) := below_old HX0.out b1
  clear hW0 c0 c1 c2 c3 c4 c5 c6 c7 H1 b1
  obtain ⟨c0, c1, c2, c3, c4, c5, c6, c7⟩ := ck_cells HX1.out
  cases my with
  | false =>
    have HR : Hid (T = (⟨#[]⟩, 190)) := HF.out rfl
    go_wp2_with fail
    go_ret2
    exact ⟨by rw [HR.out]; rfl, HB1.out⟩
  | true =>
    have HR : Hid (T = (jn (txK c 5), 0)) := HG.out rfl
    have HA : Hid _ := HAG.out rfl
    clear HG HF HAG
    obtain ⟨px, hpx⟩ : ∃ px, prt ⟨c.name, c.value⟩ = px := ⟨_, rfl⟩
    rw [hpx] at H2
    obtain ⟨W2, hW2⟩ : ∃ W2, w1.alloc (.cells #[.string px] 9) = W2 := ⟨_, rfl⟩
    have HB2 : Hid (Below w.heap.size w W2) := by rw [Hid, ← hW2]; exact HB1.out.alloc HB1.out.size _
    have HX2 : Hid (W2.heap[w.heap.size]? = some (.cells (ckA c) 37 (0, 0))) := by rw [Hid, ← hW2]; exact alloc_old HX1.out
    have HOW2 : Hid (W2.ownsRow w.heap.size 9 1 (.slice (some ⟨w1.heap.size, 0, none⟩) 1 1) 1 (strV (txK c 0))) := by
      rw [Hid, ← hW2, txK, hpx]
      exact World.ownsRow_lit w1 #[.string px] 1 HB1.out.size (by decide) rfl
    obtain ⟨W3, hW3⟩ : ∃ W3, W2.alloc (.cells tabA 57) = W3 := ⟨_, rfl⟩
    have HB3 : Hid (Below w.heap.size w W3) := by rw [Hid, ← hW3]; exact HB2.out.alloc HB2.out.size _
    have HX3 : Hid (W3.heap[w.heap.size]? = some (.cells (ckA c) 37 (0, 0))) := by rw [Hid, ← hW3]; exact alloc_old HX2.out
    have HY3 : Hid (W3.heap[W2.heap.size]? = some (.cells tabA 57 (0, 0))) := by rw [Hid, ← hW3]; exact block_alloc_at _ _
    have HOW3 : Hid (W3.ownsRow w.heap.size 9 1 (.slice (some ⟨w1.heap.size, 0, none⟩) 1 1) 1 (strV (txK c 0))) := by rw [Hid, ← hW3]; exact HOW2.out.alloc _
    clear hpx
    go_wp2_with (first
      | (go_at_call 27; refine (H2.out _).mono ?_; rintro e w' ⟨rfl, rfl⟩))
    try rw [hW2]
    refine (H3.out _).mono ?_
    rintro e w3 ⟨rfl, hw3⟩
    rw [hW3] at hw3
    rw [hw3]
    clear hw3 hW2 hW3 w3 c0 c1 c2 c3 c4 c5 c6 c7 HX0 HX1 HX2 HOW2 H2 H3
    obtain ⟨gt, hgt⟩ : ∃ gt, W2.heap.size = gt := ⟨_, rfl⟩
    rw [hgt] at HY3
    go_wp2_with fail
    go_loopw [4, 18] (fun v i wr => ∃ k n : Nat, k ≤ 5 ∧ i = .int .i64 (k : Nat) ∧ n ≤ k + 1 ∧ wr.ownsRow w.heap.size 9 1 v n (strV (txK c k)) ∧ Hid ((txK c k).length = n) ∧ Hid (wr.heap[w.heap.size]? = some (.cells (ckA c) 37 (0, 0))) ∧ Hid (wr.heap[gt]? = some (.cells tabA 57 (0, 0))) ∧ Hid (Below w.heap.size w wr)) (fun _ i _ => 5 - (intOf i).toNat)
    case atStart => exact ⟨0, 1, by omega, rfl, by omega, HOW3.out, rfl, HX3.out, HY3.out, HB3.out⟩
    case round =>
      obtain ⟨k, n, hk5, rfl, hnk, hown, HLN, HX, HY, HB⟩ := hrel
      obtain ⟨va, vc, rfl⟩ := form_of_row hown
      have HOW : Hid _ := hown
      clear hown
      have hsz := HB.out.size
      have hgx : w.heap.size < wr.heap.size := (Array.getElem?_eq_some_iff.1 HX.out).1
      have HGT : Hid _ := hgt
      clear hgt
      rcases (by omega : k = 0 ∨ k = 1 ∨ k = 2 ∨ k = 3 ∨ k = 4 ∨ k = 5) with rfl | rfl | rfl | rfl | rfl | rfl
      · have t0 : wr.cell? ⟨gt, 0, none⟩ = some (.string ⟨#[80, 97, 116, 104, 61]⟩) := cell_of_block HY.out rfl
        have t1 : wr.cell? ⟨gt, 1, none⟩ = some (.func (.func 56) #[] #[]) := cell_of_block HY.out rfl
        have t2 : wr.cell? ⟨gt, 2, none⟩ = some (.func (.func 57) #[] #[]) := cell_of_block HY.out rfl
        have t3 : wr.cell? ⟨gt, 3, none⟩ = some (.func (.func 58) #[] #[]) := cell_of_block HY.out rfl
        obtain ⟨c0, c1, c2, c3, c4, c5, c6, c7⟩ := ck_cells HX.out
        have H4 : Hid (∀ W : World, _) := fun W => has_0 c W
        have H5 : Hid (∀ W : World, _) := fun W => says_0 c W
        simp only [ckV] at H4 H5
        have HKT : Hid (hasK c 0 = true → txK c 1 = txK c 0 ++ [⟨#[80, 97, 116, 104, 61]⟩ ++ sayK c 0]) := fun h => by rw [show txK c 1 = txK c 0 ++ txs c 0 from rfl, txs_has h]; rfl
        have HKF : Hid (hasK c 0 = false → txK c 1 = txK c 0) := fun h => by rw [show txK c 1 = txK c 0 ++ txs c 0 from rfl, txs_not h, List.append_nil]
        obtain ⟨hv, hhv⟩ : ∃ hv, hasK c 0 = hv := ⟨_, rfl⟩
        rw [hhv] at H4 HKT HKF
        have hsy : (sayK c 0).size ≤ 1000000000 := by show c.path.size ≤ _; have := HZ.out; omega
        obtain ⟨sy, hsay⟩ : ∃ sy, sayK c 0 = sy := ⟨_, rfl⟩
        rw [hsay] at H5 HKT hsy
        clear hsay
        clear hhv
        go_wp2_with fail
        refine (H4.out _).mono ?_
        rintro e w4 ⟨rfl, b4⟩
        have HW4 : Hid (w4.heap[wr.heap.size]? = some (.cells #[.string ⟨#[80, 97, 116, 104, 61]⟩, .func (.func 56) #[] #[], .func (.func 57) #[] #[], .func (.func 58) #[] #[]] 57 (0, 0))) := below_old (block_alloc_at _ _) b4
        have HB4 : Hid (Below w.heap.size w w4) := (HB.out.alloc hsz _).trans (b4.mono (by simp; omega))
        have HX4 : Hid (w4.heap[w.heap.size]? = some (.cells (ckA c) 37 (0, 0))) := below_old (alloc_old HX.out) b4
        have HYY4 : Hid (w4.heap[gt]? = some (.cells tabA 57 (0, 0))) := below_old (alloc_old HY.out) b4
        have HOW4 : Hid (w4.ownsRow w.heap.size 9 1 (.slice va n vc) n (strV (txK c 0))) := owns_on2 (World.ownsRow.alloc HOW.out _) b4
        clear b4 c0 c1 c2 c3 c4 c5 c6 c7 t0 t1 t2 t3 H4
        obtain ⟨c0, c1, c2, c3, c4, c5, c6, c7⟩ := ck_cells HX4.out
        cases hv with
        | false =>
          have HKK : Hid _ := HKF.out rfl
          go_wp2_with fail
          go_roundw
          case rel => exact ⟨1, n, by omega, rfl, by omega, by rw [HKK.out]; exact HOW4.out, by rw [Hid, HKK.out]; exact HLN.out, HX4.out, HYY4.out, HB4.out⟩
          case measure => simp [intOf]
        | true =>
          have HKK : Hid _ := HKT.out rfl
          have y0 : w4.cell? ⟨wr.heap.size, 0, none⟩ = some (.string ⟨#[80, 97, 116, 104, 61]⟩) := cell_of_block HW4.out rfl
          have y2 : w4.cell? ⟨wr.heap.size, 2, none⟩ = some (.func (.func 57) #[] #[]) := cell_of_block HW4.out rfl
          have hsz4 := HB4.out.size
          have hcat : ¬ 9223372036854775807 < 5 + sy.size := by omega
          go_wp2_with fail
          refine wp_region_held_drew (S := fun W => W.heap[wr.heap.size]? = some (.cells #[.string ⟨#[80, 97, 116, 104, 61]⟩, .func (.func 56) #[] #[], .func (.func 57) #[] #[], .func (.func 58) #[] #[]] 57 (0, 0)) ∧ W.heap[w.heap.size]? = some (.cells (ckA c) 37 (0, 0))) (by kernel_rfl) ⟨HW4.out, HX4.out⟩ (fun hHeld => ?_)
          refine wpAnyH_take (i := 0) (oi := ({ dst := some 26, op := Op.move (Operand.tmp 4), type := 32, pos := "set.go:70", after := #[], guard := none } : Oper)) (v := ?_) rfl (by kernel_rfl) (by kernel_rfl) (by kernel_rfl) (fun _ _ _ h => h) (Or.inl ⟨by rfl, ?_⟩) (by assumption) ?_
          rotate_left
          · (intro w hSw; go_simp; try with_reducible rfl)
          try simp only [Act.put, List.setIfInBounds_toArray, List.set_cons_zero, List.set_cons_succ]
          refine wpAnyH_take (i := 1) (oi := ({ dst := some 27, op := Op.fieldAddr 57 (Operand.tmp 6) 0, type := 0, pos := "set.go:70", after := #[], guard := none } : Oper)) (v := ?_) rfl (by kernel_rfl) (by kernel_rfl) (by kernel_rfl) (fun _ _ _ h => h) (Or.inl ⟨by rfl, ?_⟩) (by assumption) ?_
          rotate_left
          · (intro w hSw; go_simp; try with_reducible rfl)
          try simp only [Act.put, List.setIfInBounds_toArray, List.set_cons_zero, List.set_cons_succ]
          refine wpAnyH_take (i := 2) (oi := ({ dst := some 28, op := Op.load 9 (Operand.tmp 27), type := 9, pos := "set.go:70", after := #[{ on := 1, ground := Ground.data }], guard := none } : Oper)) (v := ?_) rfl (by kernel_rfl) (by kernel_rfl) (by kernel_rfl) (fun _ _ _ h => h) (Or.inl ⟨by rfl, ?_⟩) (by assumption) ?_
          rotate_left
          · (intro w hSw; obtain ⟨c0, c1, c2, c3, c4, c5, c6, c7⟩ := ck_cells hSw.2; have y0 := cell_of_block hSw.1 (o := 0) rfl; have y2 := cell_of_block hSw.1 (o := 2) rfl; go_simp; try with_reducible rfl)
          try simp only [Act.put, List.setIfInBounds_toArray, List.set_cons_zero, List.set_cons_succ]
          refine wpAnyH_take (i := 3) (oi := ({ dst := some 29, op := Op.fieldAddr 57 (Operand.tmp 6) 2, type := 0, pos := "set.go:70", after := #[], guard := none } : Oper)) (v := ?_) rfl (by kernel_rfl) (by kernel_rfl) (by kernel_rfl) (fun _ _ _ h => h) (Or.inl ⟨by rfl, ?_⟩) (by assumption) ?_
          rotate_left
          · (intro w hSw; go_simp; try with_reducible rfl)
          try simp only [Act.put, List.setIfInBounds_toArray, List.set_cons_zero, List.set_cons_succ]
          refine wpAnyH_take (i := 4) (oi := ({ dst := some 30, op := Op.load 54 (Operand.tmp 29), type := 54, pos := "set.go:70", after := #[{ on := 3, ground := Ground.data }], guard := none } : Oper)) (v := ?_) rfl (by kernel_rfl) (by kernel_rfl) (by kernel_rfl) (fun _ _ _ h => h) (Or.inl ⟨by rfl, ?_⟩) (by assumption) ?_
          rotate_left
          · (intro w hSw; obtain ⟨c0, c1, c2, c3, c4, c5, c6, c7⟩ := ck_cells hSw.2; have y0 := cell_of_block hSw.1 (o := 0) rfl; have y2 := cell_of_block hSw.1 (o := 2) rfl; go_simp; try with_reducible rfl)
          try simp only [Act.put, List.setIfInBounds_toArray, List.set_cons_zero, List.set_cons_succ]
          refine wpAnyH_take (i := 5) (oi := ({ dst := some 31, op := Op.load 37 (Operand.tmp 1), type := 37, pos := "set.go:70", after := #[], guard := none } : Oper)) (v := ?_) rfl (by kernel_rfl) (by kernel_rfl) (by kernel_rfl) (fun _ _ _ h => h) (Or.inl ⟨by rfl, ?_⟩) (by assumption) ?_
          rotate_left
          · (intro w hSw; obtain ⟨c0, c1, c2, c3, c4, c5, c6, c7⟩ := ck_cells hSw.2; have y0 := cell_of_block hSw.1 (o := 0) rfl; have y2 := cell_of_block hSw.1 (o := 2) rfl; go_simp; try with_reducible rfl)
          try simp only [Act.put, List.setIfInBounds_toArray, List.set_cons_zero, List.set_cons_succ]
          refine wpAnyH_ready (rs := [6]) (by kernel_rfl) (by simp) ?_
          refine AllReadyH.cons rfl (fun K hK => ?_) AllReadyH.nil
          go_simp
          go_wp2_with (go_at_call 57; refine (H5.out _).mono ?_; rintro e w5 ⟨rfl, b5⟩)
          have HB5 : Hid (Below w.heap.size w w5) := (below_drewN HB4.out 1).trans (b5.mono HB4.out.size)
          have HO5 : Hid (w5.ownsRow w.heap.size 9 1 (.slice va n vc) n (strV (txK c 0))) := owns_on2 (w := w4.drew) HOW4.out b5
          have HYY5 : Hid (w5.heap[gt]? = some (.cells tabA 57 (0, 0))) := below_old (w := w4.drew) HYY4.out b5
          refine hK.out _ _ ⟨below_old hHeld.1 b5, below_old hHeld.2 b5⟩ (fun hHeld => ?_)
          clear b5
          clear hK K
          refine wpAnyH_take (i := 7) (oi := ({ dst := some 33, op := Op.binOp BinOp.add 9 (Operand.tmp 28) (Operand.tmp 32) 9, type := 9, pos := "set.go:70", after := #[{ on := 2, ground := Ground.data }, { on := 6, ground := Ground.data }], guard := none } : Oper)) (v := ?_) rfl (by kernel_rfl) (by kernel_rfl) (by kernel_rfl) (fun _ _ _ h => h) (Or.inl ⟨by rfl, ?_⟩) (by assumption) ?_
          rotate_left
          · (intro w hSw; go_simp; try with_reducible rfl)
          try simp only [Act.put, List.setIfInBounds_toArray, List.set_cons_zero, List.set_cons_succ]
          refine wpAnyH_ready (rs := [8]) (by kernel_rfl) (by simp) ?_
          refine AllReadyH.cons rfl (fun K hK => ?_) AllReadyH.nil
          go_simp
          go_wp2_with fail
          refine hK.out _ _ ⟨alloc_old hHeld.1, alloc_old hHeld.2⟩ (fun hHeld => ?_)
          clear hK K
          refine wpAnyH_ready (rs := [9]) (by kernel_rfl) (by simp) ?_
          refine AllReadyH.cons rfl (fun K hK => ?_) AllReadyH.nil
          refine step_append_own rfl (.tmp 26) (.tmp 34) 32 rfl w.heap.size 9 i0 (.string ⟨#[]⟩) 1 16 Tryd.underlying32 hi hz0 hz1 hz2 rfl (by decide) _ _ _ rfl (HO5.out.alloc _) ⟨_, 0, none⟩ 1 1 (strV [(⟨#[80, 97, 116, 104, 61]⟩ ++ sy)]) rfl rfl (new_cells _ (strV [(⟨#[80, 97, 116, 104, 61]⟩ ++ sy)]) _) (strV_one _) (by unfold maxLen; omega) (by omega) (by have := HB5.out.size; simp; omega) ?_
          intro v1 w6 hown1 hgrow
          obtain ⟨a1, cap1, rfl⟩ := form_of_row hown1
          have HO6 : Hid (w6.ownsRow w.heap.size 9 1 (.slice a1 (n + 1) cap1) (n + 1) (strV (txK c 1))) := by rw [Hid, HKK.out, strV_snoc]; exact hown1
          have HB6 : Hid (Below w.heap.size w w6) := (HB5.out.alloc HB5.out.size _).grown hgrow (by have := HB5.out.size; simp; omega) (fun i hi => (World.ownsRow.lt HO5.out i hi).1)
          have HYY6 : Hid (w6.heap[gt]? = some (.cells tabA 57 (0, 0))) := keep_typed (HO5.out.alloc _) hgrow (alloc_old HYY5.out) (by decide)
          have HX6 : Hid (w6.heap[w.heap.size]? = some (.cells (ckA c) 37 (0, 0))) := keep_typed (HO5.out.alloc _) hgrow hHeld.2 (by decide)
          refine hK.out _ _ ⟨keep_typed (HO5.out.alloc _) hgrow hHeld.1 (by decide), HX6.out⟩ (fun hHeld => ?_)
          clear hown1 hgrow
          clear hK K
          refine wpAnyH_take (i := 10) (oi := ({ dst := some 4, op := Op.assign (Operand.tmp 35), type := 32, pos := "set.go:70", after := #[{ on := 9, ground := Ground.data }, { on := 9, ground := Ground.chain }, { on := 0, ground := Ground.phase }, { on := 1, ground := Ground.phase }, { on := 2, ground := Ground.phase }, { on := 3, ground := Ground.phase }, { on := 4, ground := Ground.phase }, { on := 5, ground := Ground.phase }, { on := 6, ground := Ground.phase }, { on := 7, ground := Ground.phase }, { on := 8, ground := Ground.phase }, { on := 9, ground := Ground.phase }], guard := none } : Oper)) (v := ?_) rfl (by kernel_rfl) (by kernel_rfl) (by kernel_rfl) (fun _ _ _ h => h) (Or.inl ⟨by rfl, ?_⟩) (by assumption) ?_
          rotate_left
          · (intro w hSw; go_simp; try with_reducible rfl)
          refine wpAnyH_done (by kernel_rfl) ?_ _
          go_wp2_with fail
          go_roundw
          case rel => exact ⟨1, n + 1, by omega, rfl, by omega, HO6.out, by rw [Hid, HKK.out, List.length_append, HLN.out]; rfl, HX6.out, HYY6.out, HB6.out⟩
          case measure => simp [intOf]
      · have t0 : wr.cell? ⟨gt, 4, none⟩ = some (.string ⟨#[77, 97, 120, 45, 65, 103, 101, 61]⟩) := cell_of_block HY.out rfl
        have t1 : wr.cell? ⟨gt, 5, none⟩ = some (.func (.func 59) #[] #[]) := cell_of_block HY.out rfl
        have t2 : wr.cell? ⟨gt, 6, none⟩ = some (.func (.func 60) #[] #[]) := cell_of_block HY.out rfl
        have t3 : wr.cell? ⟨gt, 7, none⟩ = some (.func (.func 62) #[] #[]) := cell_of_block HY.out rfl
        obtain ⟨c0, c1, c2, c3, c4, c5, c6, c7⟩ := ck_cells HX.out
        have H4 : Hid (∀ W : World, _) := fun W => has_1 c W
        have HT1 : Hid (hasK c 1 = true → TabP w) := fun h => HTB.out h
        have H5 : Hid (∀ W : World, TabP W → _) := fun W hW => says_1 c HA.out.1 HA.out.2 W hW
        simp only [ckV] at H4 H5
        have HKT : Hid (hasK c 1 = true → txK c 2 = txK c 1 ++ [⟨#[77, 97, 120, 45, 65, 103, 101, 61]⟩ ++ sayK c 1]) := fun h => by rw [show txK c 2 = txK c 1 ++ txs c 1 from rfl, txs_has h]; rfl
        have HKF : Hid (hasK c 1 = false → txK c 2 = txK c 1) := fun h => by rw [show txK c 2 = txK c 1 ++ txs c 1 from rfl, txs_not h, List.append_nil]
        obtain ⟨hv, hhv⟩ : ∃ hv, hasK c 1 = hv := ⟨_, rfl⟩
        rw [hhv] at H4 HKT HKF HT1
        have hsy : (sayK c 1).size ≤ 1000000000 := by exact itB_size HA.out.1 HA.out.2
        obtain ⟨sy, hsay⟩ : ∃ sy, sayK c 1 = sy := ⟨_, rfl⟩
        rw [hsay] at H5 HKT hsy
        clear hsay
        clear hhv
        go_wp2_with fail
        refine (H4.out _).mono ?_
        rintro e w4 ⟨rfl, b4⟩
        have HW4 : Hid (w4.heap[wr.heap.size]? = some (.cells #[.string ⟨#[77, 97, 120, 45, 65, 103, 101, 61]⟩, .func (.func 59) #[] #[], .func (.func 60) #[] #[], .func (.func 62) #[] #[]] 57 (0, 0))) := below_old (block_alloc_at _ _) b4
        have HB4 : Hid (Below w.heap.size w w4) := (HB.out.alloc hsz _).trans (b4.mono (by simp; omega))
        have HX4 : Hid (w4.heap[w.heap.size]? = some (.cells (ckA c) 37 (0, 0))) := below_old (alloc_old HX.out) b4
        have HYY4 : Hid (w4.heap[gt]? = some (.cells tabA 57 (0, 0))) := below_old (alloc_old HY.out) b4
        have HOW4 : Hid (w4.ownsRow w.heap.size 9 1 (.slice va n vc) n (strV (txK c 1))) := owns_on2 (World.ownsRow.alloc HOW.out _) b4
        clear b4 c0 c1 c2 c3 c4 c5 c6 c7 t0 t1 t2 t3 H4
        obtain ⟨c0, c1, c2, c3, c4, c5, c6, c7⟩ := ck_cells HX4.out
        cases hv with
        | false =>
          have HKK : Hid _ := HKF.out rfl
          go_wp2_with fail
          go_roundw
          case rel => exact ⟨2, n, by omega, rfl, by omega, by rw [HKK.out]; exact HOW4.out, by rw [Hid, HKK.out]; exact HLN.out, HX4.out, HYY4.out, HB4.out⟩
          case measure => simp [intOf]
        | true =>
          have HKK : Hid _ := HKT.out rfl
          have y0 : w4.cell? ⟨wr.heap.size, 0, none⟩ = some (.string ⟨#[77, 97, 120, 45, 65, 103, 101, 61]⟩) := cell_of_block HW4.out rfl
          have y2 : w4.cell? ⟨wr.heap.size, 2, none⟩ = some (.func (.func 60) #[] #[]) := cell_of_block HW4.out rfl
          have hsz4 := HB4.out.size
          have hcat : ¬ 9223372036854775807 < 8 + sy.size := by omega
          have H55 : Hid (∀ _ : Unit, _) := fun _ => H5.out w4.drew (tab_below (HT1.out rfl) (below_drewN HB4.out 1))
          go_wp2_with fail
          refine wp_region_held_drew (S := fun W => W.heap[wr.heap.size]? = some (.cells #[.string ⟨#[77, 97, 120, 45, 65, 103, 101, 61]⟩, .func (.func 59) #[] #[], .func (.func 60) #[] #[], .func (.func 62) #[] #[]] 57 (0, 0)) ∧ W.heap[w.heap.size]? = some (.cells (ckA c) 37 (0, 0))) (by kernel_rfl) ⟨HW4.out, HX4.out⟩ (fun hHeld => ?_)
          refine wpAnyH_take (i := 0) (oi := ({ dst := some 26, op := Op.move (Operand.tmp 4), type := 32, pos := "set.go:70", after := #[], guard := none } : Oper)) (v := ?_) rfl (by kernel_rfl) (by kernel_rfl) (by kernel_rfl) (fun _ _ _ h => h) (Or.inl ⟨by rfl, ?_⟩) (by assumption) ?_
          rotate_left
          · (intro w hSw; go_simp; try with_reducible rfl)
          try simp only [Act.put, List.setIfInBounds_toArray, List.set_cons_zero, List.set_cons_succ]
          refine wpAnyH_take (i := 1) (oi := ({ dst := some 27, op := Op.fieldAddr 57 (Operand.tmp 6) 0, type := 0, pos := "set.go:70", after := #[], guard := none } : Oper)) (v := ?_) rfl (by kernel_rfl) (by kernel_rfl) (by kernel_rfl) (fun _ _ _ h => h) (Or.inl ⟨by rfl, ?_⟩) (by assumption) ?_
          rotate_left
          · (intro w hSw; go_simp; try with_reducible rfl)
          try simp only [Act.put, List.setIfInBounds_toArray, List.set_cons_zero, List.set_cons_succ]
          refine wpAnyH_take (i := 2) (oi := ({ dst := some 28, op := Op.load 9 (Operand.tmp 27), type := 9, pos := "set.go:70", after := #[{ on := 1, ground := Ground.data }], guard := none } : Oper)) (v := ?_) rfl (by kernel_rfl) (by kernel_rfl) (by kernel_rfl) (fun _ _ _ h => h) (Or.inl ⟨by rfl, ?_⟩) (by assumption) ?_
          rotate_left
          · (intro w hSw; obtain ⟨c0, c1, c2, c3, c4, c5, c6, c7⟩ := ck_cells hSw.2; have y0 := cell_of_block hSw.1 (o := 0) rfl; have y2 := cell_of_block hSw.1 (o := 2) rfl; go_simp; try with_reducible rfl)
          try simp only [Act.put, List.setIfInBounds_toArray, List.set_cons_zero, List.set_cons_succ]
          refine wpAnyH_take (i := 3) (oi := ({ dst := some 29, op := Op.fieldAddr 57 (Operand.tmp 6) 2, type := 0, pos := "set.go:70", after := #[], guard := none } : Oper)) (v := ?_) rfl (by kernel_rfl) (by kernel_rfl) (by kernel_rfl) (fun _ _ _ h => h) (Or.inl ⟨by rfl, ?_⟩) (by assumption) ?_
          rotate_left
          · (intro w hSw; go_simp; try with_reducible rfl)
          try simp only [Act.put, List.setIfInBounds_toArray, List.set_cons_zero, List.set_cons_succ]
          refine wpAnyH_take (i := 4) (oi := ({ dst := some 30, op := Op.load 54 (Operand.tmp 29), type := 54, pos := "set.go:70", after := #[{ on := 3, ground := Ground.data }], guard := none } : Oper)) (v := ?_) rfl (by kernel_rfl) (by kernel_rfl) (by kernel_rfl) (fun _ _ _ h => h) (Or.inl ⟨by rfl, ?_⟩) (by assumption) ?_
          rotate_left
          · (intro w hSw; obtain ⟨c0, c1, c2, c3, c4, c5, c6, c7⟩ := ck_cells hSw.2; have y0 := cell_of_block hSw.1 (o := 0) rfl; have y2 := cell_of_block hSw.1 (o := 2) rfl; go_simp; try with_reducible rfl)
          try simp only [Act.put, List.setIfInBounds_toArray, List.set_cons_zero, List.set_cons_succ]
          refine wpAnyH_take (i := 5) (oi := ({ dst := some 31, op := Op.load 37 (Operand.tmp 1), type := 37, pos := "set.go:70", after := #[], guard := none } : Oper)) (v := ?_) rfl (by kernel_rfl) (by kernel_rfl) (by kernel_rfl) (fun _ _ _ h => h) (Or.inl ⟨by rfl, ?_⟩) (by assumption) ?_
          rotate_left
          · (intro w hSw; obtain ⟨c0, c1, c2, c3, c4, c5, c6, c7⟩ := ck_cells hSw.2; have y0 := cell_of_block hSw.1 (o := 0) rfl; have y2 := cell_of_block hSw.1 (o := 2) rfl; go_simp; try with_reducible rfl)
          try simp only [Act.put, List.setIfInBounds_toArray, List.set_cons_zero, List.set_cons_succ]
          refine wpAnyH_ready (rs := [6]) (by kernel_rfl) (by simp) ?_
          refine AllReadyH.cons rfl (fun K hK => ?_) AllReadyH.nil
          go_simp
          go_wp2_with (go_at_call 60; refine (H55.out ()).mono ?_; rintro e w5 ⟨rfl, b5⟩)
          have HB5 : Hid (Below w.heap.size w w5) := (below_drewN HB4.out 1).trans (b5.mono HB4.out.size)
          have HO5 : Hid (w5.ownsRow w.heap.size 9 1 (.slice va n vc) n (strV (txK c 1))) := owns_on2 (w := w4.drew) HOW4.out b5
          have HYY5 : Hid (w5.heap[gt]? = some (.cells tabA 57 (0, 0))) := below_old (w := w4.drew) HYY4.out b5
          refine hK.out _ _ ⟨below_old hHeld.1 b5, below_old hHeld.2 b5⟩ (fun hHeld => ?_)
          clear b5
          clear hK K
          refine wpAnyH_take (i := 7) (oi := ({ dst := some 33, op := Op.binOp BinOp.add 9 (Operand.tmp 28) (Operand.tmp 32) 9, type := 9, pos := "set.go:70", after := #[{ on := 2, ground := Ground.data }, { on := 6, ground := Ground.data }], guard := none } : Oper)) (v := ?_) rfl (by kernel_rfl) (by kernel_rfl) (by kernel_rfl) (fun _ _ _ h => h) (Or.inl ⟨by rfl, ?_⟩) (by assumption) ?_
          rotate_left
          · (intro w hSw; go_simp; try with_reducible rfl)
          try simp only [Act.put, List.setIfInBounds_toArray, List.set_cons_zero, List.set_cons_succ]
          refine wpAnyH_ready (rs := [8]) (by kernel_rfl) (by simp) ?_
          refine AllReadyH.cons rfl (fun K hK => ?_) AllReadyH.nil
          go_simp
          go_wp2_with fail
          refine hK.out _ _ ⟨alloc_old hHeld.1, alloc_old hHeld.2⟩ (fun hHeld => ?_)
          clear hK K
          refine wpAnyH_ready (rs := [9]) (by kernel_rfl) (by simp) ?_
          refine AllReadyH.cons rfl (fun K hK => ?_) AllReadyH.nil
          refine step_append_own rfl (.tmp 26) (.tmp 34) 32 rfl w.heap.size 9 i0 (.string ⟨#[]⟩) 1 16 Tryd.underlying32 hi hz0 hz1 hz2 rfl (by decide) _ _ _ rfl (HO5.out.alloc _) ⟨_, 0, none⟩ 1 1 (strV [(⟨#[77, 97, 120, 45, 65, 103, 101, 61]⟩ ++ sy)]) rfl rfl (new_cells _ (strV [(⟨#[77, 97, 120, 45, 65, 103, 101, 61]⟩ ++ sy)]) _) (strV_one _) (by unfold maxLen; omega) (by omega) (by have := HB5.out.size; simp; omega) ?_
          intro v1 w6 hown1 hgrow
          obtain ⟨a1, cap1, rfl⟩ := form_of_row hown1
          have HO6 : Hid (w6.ownsRow w.heap.size 9 1 (.slice a1 (n + 1) cap1) (n + 1) (strV (txK c 2))) := by rw [Hid, HKK.out, strV_snoc]; exact hown1
          have HB6 : Hid (Below w.heap.size w w6) := (HB5.out.alloc HB5.out.size _).grown hgrow (by have := HB5.out.size; simp; omega) (fun i hi => (World.ownsRow.lt HO5.out i hi).1)
          have HYY6 : Hid (w6.heap[gt]? = some (.cells tabA 57 (0, 0))) := keep_typed (HO5.out.alloc _) hgrow (alloc_old HYY5.out) (by decide)
          have HX6 : Hid (w6.heap[w.heap.size]? = some (.cells (ckA c) 37 (0, 0))) := keep_typed (HO5.out.alloc _) hgrow hHeld.2 (by decide)
          refine hK.out _ _ ⟨keep_typed (HO5.out.alloc _) hgrow hHeld.1 (by decide), HX6.out⟩ (fun hHeld => ?_)
          clear hown1 hgrow
          clear hK K
          refine wpAnyH_take (i := 10) (oi := ({ dst := some 4, op := Op.assign (Operand.tmp 35), type := 32, pos := "set.go:70", after := #[{ on := 9, ground := Ground.data }, { on := 9, ground := Ground.chain }, { on := 0, ground := Ground.phase }, { on := 1, ground := Ground.phase }, { on := 2, ground := Ground.phase }, { on := 3, ground := Ground.phase }, { on := 4, ground := Ground.phase }, { on := 5, ground := Ground.phase }, { on := 6, ground := Ground.phase }, { on := 7, ground := Ground.phase }, { on := 8, ground := Ground.phase }, { on := 9, ground := Ground.phase }], guard := none } : Oper)) (v := ?_) rfl (by kernel_rfl) (by kernel_rfl) (by kernel_rfl) (fun _ _ _ h => h) (Or.inl ⟨by rfl, ?_⟩) (by assumption) ?_
          rotate_left
          · (intro w hSw; go_simp; try with_reducible rfl)
          refine wpAnyH_done (by kernel_rfl) ?_ _
          go_wp2_with fail
          go_roundw
          case rel => exact ⟨2, n + 1, by omega, rfl, by omega, HO6.out, by rw [Hid, HKK.out, List.length_append, HLN.out]; rfl, HX6.out, HYY6.out, HB6.out⟩
          case measure => simp [intOf]
      · have t0 : wr.cell? ⟨gt, 8, none⟩ = some (.string ⟨#[72, 116, 116, 112, 79, 110, 108, 121]⟩) := cell_of_block HY.out rfl
        have t1 : wr.cell? ⟨gt, 9, none⟩ = some (.func (.func 64) #[] #[]) := cell_of_block HY.out rfl
        have t2 : wr.cell? ⟨gt, 10, none⟩ = some (.func (.func 55) #[] #[]) := cell_of_block HY.out rfl
        have t3 : wr.cell? ⟨gt, 11, none⟩ = some (.func (.func 65) #[] #[]) := cell_of_block HY.out rfl
        obtain ⟨c0, c1, c2, c3, c4, c5, c6, c7⟩ := ck_cells HX.out
        have H4 : Hid (∀ W : World, _) := fun W => has_2 c W
        have H5 : Hid (∀ W : World, _) := fun W => says_2 c W
        simp only [ckV] at H4 H5
        have HKT : Hid (hasK c 2 = true → txK c 3 = txK c 2 ++ [⟨#[72, 116, 116, 112, 79, 110, 108, 121]⟩ ++ ⟨#[]⟩]) := fun h => by rw [show txK c 3 = txK c 2 ++ txs c 2 from rfl, txs_has h]; rfl
        have HKF : Hid (hasK c 2 = false → txK c 3 = txK c 2) := fun h => by rw [show txK c 3 = txK c 2 ++ txs c 2 from rfl, txs_not h, List.append_nil]
        obtain ⟨hv, hhv⟩ : ∃ hv, hasK c 2 = hv := ⟨_, rfl⟩
        rw [hhv] at H4 HKT HKF
        clear hhv
        go_wp2_with fail
        refine (H4.out _).mono ?_
        rintro e w4 ⟨rfl, b4⟩
        have HW4 : Hid (w4.heap[wr.heap.size]? = some (.cells #[.string ⟨#[72, 116, 116, 112, 79, 110, 108, 121]⟩, .func (.func 64) #[] #[], .func (.func 55) #[] #[], .func (.func 65) #[] #[]] 57 (0, 0))) := below_old (block_alloc_at _ _) b4
        have HB4 : Hid (Below w.heap.size w w4) := (HB.out.alloc hsz _).trans (b4.mono (by simp; omega))
        have HX4 : Hid (w4.heap[w.heap.size]? = some (.cells (ckA c) 37 (0, 0))) := below_old (alloc_old HX.out) b4
        have HYY4 : Hid (w4.heap[gt]? = some (.cells tabA 57 (0, 0))) := below_old (alloc_old HY.out) b4
        have HOW4 : Hid (w4.ownsRow w.heap.size 9 1 (.slice va n vc) n (strV (txK c 2))) := owns_on2 (World.ownsRow.alloc HOW.out _) b4
        clear b4 c0 c1 c2 c3 c4 c5 c6 c7 t0 t1 t2 t3 H4
        obtain ⟨c0, c1, c2, c3, c4, c5, c6, c7⟩ := ck_cells HX4.out
        cases hv with
        | false =>
          have HKK : Hid _ := HKF.out rfl
          go_wp2_with fail
          go_roundw
          case rel => exact ⟨3, n, by omega, rfl, by omega, by rw [HKK.out]; exact HOW4.out, by rw [Hid, HKK.out]; exact HLN.out, HX4.out, HYY4.out, HB4.out⟩
          case measure => simp [intOf]
        | true =>
          have HKK : Hid _ := HKT.out rfl
          have y0 : w4.cell? ⟨wr.heap.size, 0, none⟩ = some (.string ⟨#[72, 116, 116, 112, 79, 110, 108, 121]⟩) := cell_of_block HW4.out rfl
          have y2 : w4.cell? ⟨wr.heap.size, 2, none⟩ = some (.func (.func 55) #[] #[]) := cell_of_block HW4.out rfl
          have hsz4 := HB4.out.size
          go_wp2_with fail
          refine wp_region_held_drew (S := fun W => W.heap[wr.heap.size]? = some (.cells #[.string ⟨#[72, 116, 116, 112, 79, 110, 108, 121]⟩, .func (.func 64) #[] #[], .func (.func 55) #[] #[], .func (.func 65) #[] #[]] 57 (0, 0)) ∧ W.heap[w.heap.size]? = some (.cells (ckA c) 37 (0, 0))) (by kernel_rfl) ⟨HW4.out, HX4.out⟩ (fun hHeld => ?_)
          refine wpAnyH_take (i := 0) (oi := ({ dst := some 26, op := Op.move (Operand.tmp 4), type := 32, pos := "set.go:70", after := #[], guard := none } : Oper)) (v := ?_) rfl (by kernel_rfl) (by kernel_rfl) (by kernel_rfl) (fun _ _ _ h => h) (Or.inl ⟨by rfl, ?_⟩) (by assumption) ?_
          rotate_left
          · (intro w hSw; go_simp; try with_reducible rfl)
          try simp only [Act.put, List.setIfInBounds_toArray, List.set_cons_zero, List.set_cons_succ]
          refine wpAnyH_take (i := 1) (oi := ({ dst := some 27, op := Op.fieldAddr 57 (Operand.tmp 6) 0, type := 0, pos := "set.go:70", after := #[], guard := none } : Oper)) (v := ?_) rfl (by kernel_rfl) (by kernel_rfl) (by kernel_rfl) (fun _ _ _ h => h) (Or.inl ⟨by rfl, ?_⟩) (by assumption) ?_
          rotate_left
          · (intro w hSw; go_simp; try with_reducible rfl)
          try simp only [Act.put, List.setIfInBounds_toArray, List.set_cons_zero, List.set_cons_succ]
          refine wpAnyH_take (i := 2) (oi := ({ dst := some 28, op := Op.load 9 (Operand.tmp 27), type := 9, pos := "set.go:70", after := #[{ on := 1, ground := Ground.data }], guard := none } : Oper)) (v := ?_) rfl (by kernel_rfl) (by kernel_rfl) (by kernel_rfl) (fun _ _ _ h => h) (Or.inl ⟨by rfl, ?_⟩) (by assumption) ?_
          rotate_left
          · (intro w hSw; obtain ⟨c0, c1, c2, c3, c4, c5, c6, c7⟩ := ck_cells hSw.2; have y0 := cell_of_block hSw.1 (o := 0) rfl; have y2 := cell_of_block hSw.1 (o := 2) rfl; go_simp; try with_reducible rfl)
          try simp only [Act.put, List.setIfInBounds_toArray, List.set_cons_zero, List.set_cons_succ]
          refine wpAnyH_take (i := 3) (oi := ({ dst := some 29, op := Op.fieldAddr 57 (Operand.tmp 6) 2, type := 0, pos := "set.go:70", after := #[], guard := none } : Oper)) (v := ?_) rfl (by kernel_rfl) (by kernel_rfl) (by kernel_rfl) (fun _ _ _ h => h) (Or.inl ⟨by rfl, ?_⟩) (by assumption) ?_
          rotate_left
          · (intro w hSw; go_simp; try with_reducible rfl)
          try simp only [Act.put, List.setIfInBounds_toArray, List.set_cons_zero, List.set_cons_succ]
          refine wpAnyH_take (i := 4) (oi := ({ dst := some 30, op := Op.load 54 (Operand.tmp 29), type := 54, pos := "set.go:70", after := #[{ on := 3, ground := Ground.data }], guard := none } : Oper)) (v := ?_) rfl (by kernel_rfl) (by kernel_rfl) (by kernel_rfl) (fun _ _ _ h => h) (Or.inl ⟨by rfl, ?_⟩) (by assumption) ?_
          rotate_left
          · (intro w hSw; obtain ⟨c0, c1, c2, c3, c4, c5, c6, c7⟩ := ck_cells hSw.2; have y0 := cell_of_block hSw.1 (o := 0) rfl; have y2 := cell_of_block hSw.1 (o := 2) rfl; go_simp; try with_reducible rfl)
          try simp only [Act.put, List.setIfInBounds_toArray, List.set_cons_zero, List.set_cons_succ]
          refine wpAnyH_take (i := 5) (oi := ({ dst := some 31, op := Op.load 37 (Operand.tmp 1), type := 37, pos := "set.go:70", after := #[], guard := none } : Oper)) (v := ?_) rfl (by kernel_rfl) (by kernel_rfl) (by kernel_rfl) (fun _ _ _ h => h) (Or.inl ⟨by rfl, ?_⟩) (by assumption) ?_
          rotate_left
          · (intro w hSw; obtain ⟨c0, c1, c2, c3, c4, c5, c6, c7⟩ := ck_cells hSw.2; have y0 := cell_of_block hSw.1 (o := 0) rfl; have y2 := cell_of_block hSw.1 (o := 2) rfl; go_simp; try with_reducible rfl)
          try simp only [Act.put, List.setIfInBounds_toArray, List.set_cons_zero, List.set_cons_succ]
          refine wpAnyH_ready (rs := [6]) (by kernel_rfl) (by simp) ?_
          refine AllReadyH.cons rfl (fun K hK => ?_) AllReadyH.nil
          go_simp
          go_wp2_with (go_at_call 55; refine (H5.out _).mono ?_; rintro e w5 ⟨rfl, b5⟩)
          have HB5 : Hid (Below w.heap.size w w5) := (below_drewN HB4.out 1).trans (b5.mono HB4.out.size)
          have HO5 : Hid (w5.ownsRow w.heap.size 9 1 (.slice va n vc) n (strV (txK c 2))) := owns_on2 (w := w4.drew) HOW4.out b5
          have HYY5 : Hid (w5.heap[gt]? = some (.cells tabA 57 (0, 0))) := below_old (w := w4.drew) HYY4.out b5
          refine hK.out _ _ ⟨below_old hHeld.1 b5, below_old hHeld.2 b5⟩ (fun hHeld => ?_)
          clear b5
          clear hK K
          refine wpAnyH_take (i := 7) (oi := ({ dst := some 33, op := Op.binOp BinOp.add 9 (Operand.tmp 28) (Operand.tmp 32) 9, type := 9, pos := "set.go:70", after := #[{ on := 2, ground := Ground.data }, { on := 6, ground := Ground.data }], guard := none } : Oper)) (v := ?_) rfl (by kernel_rfl) (by kernel_rfl) (by kernel_rfl) (fun _ _ _ h => h) (Or.inl ⟨by rfl, ?_⟩) (by assumption) ?_
          rotate_left
          · (intro w hSw; go_simp; try with_reducible rfl)
          try simp only [Act.put, List.setIfInBounds_toArray, List.set_cons_zero, List.set_cons_succ]
          refine wpAnyH_ready (rs := [8]) (by kernel_rfl) (by simp) ?_
          refine AllReadyH.cons rfl (fun K hK => ?_) AllReadyH.nil
          go_simp
          go_wp2_with fail
          refine hK.out _ _ ⟨alloc_old hHeld.1, alloc_old hHeld.2⟩ (fun hHeld => ?_)
          clear hK K
          refine wpAnyH_ready (rs := [9]) (by kernel_rfl) (by simp) ?_
          refine AllReadyH.cons rfl (fun K hK => ?_) AllReadyH.nil
          refine step_append_own rfl (.tmp 26) (.tmp 34) 32 rfl w.heap.size 9 i0 (.string ⟨#[]⟩) 1 16 Tryd.underlying32 hi hz0 hz1 hz2 rfl (by decide) _ _ _ rfl (HO5.out.alloc _) ⟨_, 0, none⟩ 1 1 (strV [(⟨#[72, 116, 116, 112, 79, 110, 108, 121]⟩ ++ ⟨#[]⟩)]) rfl rfl (new_cells _ (strV [(⟨#[72, 116, 116, 112, 79, 110, 108, 121]⟩ ++ ⟨#[]⟩)]) _) (strV_one _) (by unfold maxLen; omega) (by omega) (by have := HB5.out.size; simp; omega) ?_
          intro v1 w6 hown1 hgrow
          obtain ⟨a1, cap1, rfl⟩ := form_of_row hown1
          have HO6 : Hid (w6.ownsRow w.heap.size 9 1 (.slice a1 (n + 1) cap1) (n + 1) (strV (txK c 3))) := by rw [Hid, HKK.out, strV_snoc]; exact hown1
          have HB6 : Hid (Below w.heap.size w w6) := (HB5.out.alloc HB5.out.size _).grown hgrow (by have := HB5.out.size; simp; omega) (fun i hi => (World.ownsRow.lt HO5.out i hi).1)
          have HYY6 : Hid (w6.heap[gt]? = some (.cells tabA 57 (0, 0))) := keep_typed (HO5.out.alloc _) hgrow (alloc_old HYY5.out) (by decide)
          have HX6 : Hid (w6.heap[w.heap.size]? = some (.cells (ckA c) 37 (0, 0))) := keep_typed (HO5.out.alloc _) hgrow hHeld.2 (by decide)
          refine hK.out _ _ ⟨keep_typed (HO5.out.alloc _) hgrow hHeld.1 (by decide), HX6.out⟩ (fun hHeld => ?_)
          clear hown1 hgrow
          clear hK K
          refine wpAnyH_take (i := 10) (oi := ({ dst := some 4, op := Op.assign (Operand.tmp 35), type := 32, pos := "set.go:70", after := #[{ on := 9, ground := Ground.data }, { on := 9, ground := Ground.chain }, { on := 0, ground := Ground.phase }, { on := 1, ground := Ground.phase }, { on := 2, ground := Ground.phase }, { on := 3, ground := Ground.phase }, { on := 4, ground := Ground.phase }, { on := 5, ground := Ground.phase }, { on := 6, ground := Ground.phase }, { on := 7, ground := Ground.phase }, { on := 8, ground := Ground.phase }, { on := 9, ground := Ground.phase }], guard := none } : Oper)) (v := ?_) rfl (by kernel_rfl) (by kernel_rfl) (by kernel_rfl) (fun _ _ _ h => h) (Or.inl ⟨by rfl, ?_⟩) (by assumption) ?_
          rotate_left
          · (intro w hSw; go_simp; try with_reducible rfl)
          refine wpAnyH_done (by kernel_rfl) ?_ _
          go_wp2_with fail
          go_roundw
          case rel => exact ⟨3, n + 1, by omega, rfl, by omega, HO6.out, by rw [Hid, HKK.out, List.length_append, HLN.out]; rfl, HX6.out, HYY6.out, HB6.out⟩
          case measure => simp [intOf]
      · have t0 : wr.cell? ⟨gt, 12, none⟩ = some (.string ⟨#[83, 101, 99, 117, 114, 101]⟩) := cell_of_block HY.out rfl
        have t1 : wr.cell? ⟨gt, 13, none⟩ = some (.func (.func 66) #[] #[]) := cell_of_block HY.out rfl
        have t2 : wr.cell? ⟨gt, 14, none⟩ = some (.func (.func 55) #[] #[]) := cell_of_block HY.out rfl
        have t3 : wr.cell? ⟨gt, 15, none⟩ = some (.func (.func 67) #[] #[]) := cell_of_block HY.out rfl
        obtain ⟨c0, c1, c2, c3, c4, c5, c6, c7⟩ := ck_cells HX.out
        have H4 : Hid (∀ W : World, _) := fun W => has_3 c W
        have H5 : Hid (∀ W : World, _) := fun W => says_2 c W
        simp only [ckV] at H4 H5
        have HKT : Hid (hasK c 3 = true → txK c 4 = txK c 3 ++ [⟨#[83, 101, 99, 117, 114, 101]⟩ ++ ⟨#[]⟩]) := fun h => by rw [show txK c 4 = txK c 3 ++ txs c 3 from rfl, txs_has h]; rfl
        have HKF : Hid (hasK c 3 = false → txK c 4 = txK c 3) := fun h => by rw [show txK c 4 = txK c 3 ++ txs c 3 from rfl, txs_not h, List.append_nil]
        obtain ⟨hv, hhv⟩ : ∃ hv, hasK c 3 = hv := ⟨_, rfl⟩
        rw [hhv] at H4 HKT HKF
        clear hhv
        go_wp2_with fail
        refine (H4.out _).mono ?_
        rintro e w4 ⟨rfl, b4⟩
        have HW4 : Hid (w4.heap[wr.heap.size]? = some (.cells #[.string ⟨#[83, 101, 99, 117, 114, 101]⟩, .func (.func 66) #[] #[], .func (.func 55) #[] #[], .func (.func 67) #[] #[]] 57 (0, 0))) := below_old (block_alloc_at _ _) b4
        have HB4 : Hid (Below w.heap.size w w4) := (HB.out.alloc hsz _).trans (b4.mono (by simp; omega))
        have HX4 : Hid (w4.heap[w.heap.size]? = some (.cells (ckA c) 37 (0, 0))) := below_old (alloc_old HX.out) b4
        have HYY4 : Hid (w4.heap[gt]? = some (.cells tabA 57 (0, 0))) := below_old (alloc_old HY.out) b4
        have HOW4 : Hid (w4.ownsRow w.heap.size 9 1 (.slice va n vc) n (strV (txK c 3))) := owns_on2 (World.ownsRow.alloc HOW.out _) b4
        clear b4 c0 c1 c2 c3 c4 c5 c6 c7 t0 t1 t2 t3 H4
        obtain ⟨c0, c1, c2, c3, c4, c5, c6, c7⟩ := ck_cells HX4.out
        cases hv with
        | false =>
          have HKK : Hid _ := HKF.out rfl
          go_wp2_with fail
          go_roundw
          case rel => exact ⟨4, n, by omega, rfl, by omega, by rw [HKK.out]; exact HOW4.out, by rw [Hid, HKK.out]; exact HLN.out, HX4.out, HYY4.out, HB4.out⟩
          case measure => simp [intOf]
        | true =>
          have HKK : Hid _ := HKT.out rfl
          have y0 : w4.cell? ⟨wr.heap.size, 0, none⟩ = some (.string ⟨#[83, 101, 99, 117, 114, 101]⟩) := cell_of_block HW4.out rfl
          have y2 : w4.cell? ⟨wr.heap.size, 2, none⟩ = some (.func (.func 55) #[] #[]) := cell_of_block HW4.out rfl
          have hsz4 := HB4.out.size
          go_wp2_with fail
          refine wp_region_held_drew (S := fun W => W.heap[wr.heap.size]? = some (.cells #[.string ⟨#[83, 101, 99, 117, 114, 101]⟩, .func (.func 66) #[] #[], .func (.func 55) #[] #[], .func (.func 67) #[] #[]] 57 (0, 0)) ∧ W.heap[w.heap.size]? = some (.cells (ckA c) 37 (0, 0))) (by kernel_rfl) ⟨HW4.out, HX4.out⟩ (fun hHeld => ?_)
          refine wpAnyH_take (i := 0) (oi := ({ dst := some 26, op := Op.move (Operand.tmp 4), type := 32, pos := "set.go:70", after := #[], guard := none } : Oper)) (v := ?_) rfl (by kernel_rfl) (by kernel_rfl) (by kernel_rfl) (fun _ _ _ h => h) (Or.inl ⟨by rfl, ?_⟩) (by assumption) ?_
          rotate_left
          · (intro w hSw; go_simp; try with_reducible rfl)
          try simp only [Act.put, List.setIfInBounds_toArray, List.set_cons_zero, List.set_cons_succ]
          refine wpAnyH_take (i := 1) (oi := ({ dst := some 27, op := Op.fieldAddr 57 (Operand.tmp 6) 0, type := 0, pos := "set.go:70", after := #[], guard := none } : Oper)) (v := ?_) rfl (by kernel_rfl) (by kernel_rfl) (by kernel_rfl) (fun _ _ _ h => h) (Or.inl ⟨by rfl, ?_⟩) (by assumption) ?_
          rotate_left
          · (intro w hSw; go_simp; try with_reducible rfl)
          try simp only [Act.put, List.setIfInBounds_toArray, List.set_cons_zero, List.set_cons_succ]
          refine wpAnyH_take (i := 2) (oi := ({ dst := some 28, op := Op.load 9 (Operand.tmp 27), type := 9, pos := "set.go:70", after := #[{ on := 1, ground := Ground.data }], guard := none } : Oper)) (v := ?_) rfl (by kernel_rfl) (by kernel_rfl) (by kernel_rfl) (fun _ _ _ h => h) (Or.inl ⟨by rfl, ?_⟩) (by assumption) ?_
          rotate_left
          · (intro w hSw; obtain ⟨c0, c1, c2, c3, c4, c5, c6, c7⟩ := ck_cells hSw.2; have y0 := cell_of_block hSw.1 (o := 0) rfl; have y2 := cell_of_block hSw.1 (o := 2) rfl; go_simp; try with_reducible rfl)
          try simp only [Act.put, List.setIfInBounds_toArray, List.set_cons_zero, List.set_cons_succ]
          refine wpAnyH_take (i := 3) (oi := ({ dst := some 29, op := Op.fieldAddr 57 (Operand.tmp 6) 2, type := 0, pos := "set.go:70", after := #[], guard := none } : Oper)) (v := ?_) rfl (by kernel_rfl) (by kernel_rfl) (by kernel_rfl) (fun _ _ _ h => h) (Or.inl ⟨by rfl, ?_⟩) (by assumption) ?_
          rotate_left
          · (intro w hSw; go_simp; try with_reducible rfl)
          try simp only [Act.put, List.setIfInBounds_toArray, List.set_cons_zero, List.set_cons_succ]
          refine wpAnyH_take (i := 4) (oi := ({ dst := some 30, op := Op.load 54 (Operand.tmp 29), type := 54, pos := "set.go:70", after := #[{ on := 3, ground := Ground.data }], guard := none } : Oper)) (v := ?_) rfl (by kernel_rfl) (by kernel_rfl) (by kernel_rfl) (fun _ _ _ h => h) (Or.inl ⟨by rfl, ?_⟩) (by assumption) ?_
          rotate_left
          · (intro w hSw; obtain ⟨c0, c1, c2, c3, c4, c5, c6, c7⟩ := ck_cells hSw.2; have y0 := cell_of_block hSw.1 (o := 0) rfl; have y2 := cell_of_block hSw.1 (o := 2) rfl; go_simp; try with_reducible rfl)
          try simp only [Act.put, List.setIfInBounds_toArray, List.set_cons_zero, List.set_cons_succ]
          refine wpAnyH_take (i := 5) (oi := ({ dst := some 31, op := Op.load 37 (Operand.tmp 1), type := 37, pos := "set.go:70", after := #[], guard := none } : Oper)) (v := ?_) rfl (by kernel_rfl) (by kernel_rfl) (by kernel_rfl) (fun _ _ _ h => h) (Or.inl ⟨by rfl, ?_⟩) (by assumption) ?_
          rotate_left
          · (intro w hSw; obtain ⟨c0, c1, c2, c3, c4, c5, c6, c7⟩ := ck_cells hSw.2; have y0 := cell_of_block hSw.1 (o := 0) rfl; have y2 := cell_of_block hSw.1 (o := 2) rfl; go_simp; try with_reducible rfl)
          try simp only [Act.put, List.setIfInBounds_toArray, List.set_cons_zero, List.set_cons_succ]
          refine wpAnyH_ready (rs := [6]) (by kernel_rfl) (by simp) ?_
          refine AllReadyH.cons rfl (fun K hK => ?_) AllReadyH.nil
          go_simp
          go_wp2_with (go_at_call 55; refine (H5.out _).mono ?_; rintro e w5 ⟨rfl, b5⟩)
          have HB5 : Hid (Below w.heap.size w w5) := (below_drewN HB4.out 1).trans (b5.mono HB4.out.size)
          have HO5 : Hid (w5.ownsRow w.heap.size 9 1 (.slice va n vc) n (strV (txK c 3))) := owns_on2 (w := w4.drew) HOW4.out b5
          have HYY5 : Hid (w5.heap[gt]? = some (.cells tabA 57 (0, 0))) := below_old (w := w4.drew) HYY4.out b5
          refine hK.out _ _ ⟨below_old hHeld.1 b5, below_old hHeld.2 b5⟩ (fun hHeld => ?_)
          clear b5
          clear hK K
          refine wpAnyH_take (i := 7) (oi := ({ dst := some 33, op := Op.binOp BinOp.add 9 (Operand.tmp 28) (Operand.tmp 32) 9, type := 9, pos := "set.go:70", after := #[{ on := 2, ground := Ground.data }, { on := 6, ground := Ground.data }], guard := none } : Oper)) (v := ?_) rfl (by kernel_rfl) (by kernel_rfl) (by kernel_rfl) (fun _ _ _ h => h) (Or.inl ⟨by rfl, ?_⟩) (by assumption) ?_
          rotate_left
          · (intro w hSw; go_simp; try with_reducible rfl)
          try simp only [Act.put, List.setIfInBounds_toArray, List.set_cons_zero, List.set_cons_succ]
          refine wpAnyH_ready (rs := [8]) (by kernel_rfl) (by simp) ?_
          refine AllReadyH.cons rfl (fun K hK => ?_) AllReadyH.nil
          go_simp
          go_wp2_with fail
          refine hK.out _ _ ⟨alloc_old hHeld.1, alloc_old hHeld.2⟩ (fun hHeld => ?_)
          clear hK K
          refine wpAnyH_ready (rs := [9]) (by kernel_rfl) (by simp) ?_
          refine AllReadyH.cons rfl (fun K hK => ?_) AllReadyH.nil
          refine step_append_own rfl (.tmp 26) (.tmp 34) 32 rfl w.heap.size 9 i0 (.string ⟨#[]⟩) 1 16 Tryd.underlying32 hi hz0 hz1 hz2 rfl (by decide) _ _ _ rfl (HO5.out.alloc _) ⟨_, 0, none⟩ 1 1 (strV [(⟨#[83, 101, 99, 117, 114, 101]⟩ ++ ⟨#[]⟩)]) rfl rfl (new_cells _ (strV [(⟨#[83, 101, 99, 117, 114, 101]⟩ ++ ⟨#[]⟩)]) _) (strV_one _) (by unfold maxLen; omega) (by omega) (by have := HB5.out.size; simp; omega) ?_
          intro v1 w6 hown1 hgrow
          obtain ⟨a1, cap1, rfl⟩ := form_of_row hown1
          have HO6 : Hid (w6.ownsRow w.heap.size 9 1 (.slice a1 (n + 1) cap1) (n + 1) (strV (txK c 4))) := by rw [Hid, HKK.out, strV_snoc]; exact hown1
          have HB6 : Hid (Below w.heap.size w w6) := (HB5.out.alloc HB5.out.size _).grown hgrow (by have := HB5.out.size; simp; omega) (fun i hi => (World.ownsRow.lt HO5.out i hi).1)
          have HYY6 : Hid (w6.heap[gt]? = some (.cells tabA 57 (0, 0))) := keep_typed (HO5.out.alloc _) hgrow (alloc_old HYY5.out) (by decide)
          have HX6 : Hid (w6.heap[w.heap.size]? = some (.cells (ckA c) 37 (0, 0))) := keep_typed (HO5.out.alloc _) hgrow hHeld.2 (by decide)
          refine hK.out _ _ ⟨keep_typed (HO5.out.alloc _) hgrow hHeld.1 (by decide), HX6.out⟩ (fun hHeld => ?_)
          clear hown1 hgrow
          clear hK K
          refine wpAnyH_take (i := 10) (oi := ({ dst := some 4, op := Op.assign (Operand.tmp 35), type := 32, pos := "set.go:70", after := #[{ on := 9, ground := Ground.data }, { on := 9, ground := Ground.chain }, { on := 0, ground := Ground.phase }, { on := 1, ground := Ground.phase }, { on := 2, ground := Ground.phase }, { on := 3, ground := Ground.phase }, { on := 4, ground := Ground.phase }, { on := 5, ground := Ground.phase }, { on := 6, ground := Ground.phase }, { on := 7, ground := Ground.phase }, { on := 8, ground := Ground.phase }, { on := 9, ground := Ground.phase }], guard := none } : Oper)) (v := ?_) rfl (by kernel_rfl) (by kernel_rfl) (by kernel_rfl) (fun _ _ _ h => h) (Or.inl ⟨by rfl, ?_⟩) (by assumption) ?_
          rotate_left
          · (intro w hSw; go_simp; try with_reducible rfl)
          refine wpAnyH_done (by kernel_rfl) ?_ _
          go_wp2_with fail
          go_roundw
          case rel => exact ⟨4, n + 1, by omega, rfl, by omega, HO6.out, by rw [Hid, HKK.out, List.length_append, HLN.out]; rfl, HX6.out, HYY6.out, HB6.out⟩
          case measure => simp [intOf]
      · have t0 : wr.cell? ⟨gt, 16, none⟩ = some (.string ⟨#[83, 97, 109, 101, 83, 105, 116, 101, 61]⟩) := cell_of_block HY.out rfl
        have t1 : wr.cell? ⟨gt, 17, none⟩ = some (.func (.func 68) #[] #[]) := cell_of_block HY.out rfl
        have t2 : wr.cell? ⟨gt, 18, none⟩ = some (.func (.func 69) #[] #[]) := cell_of_block HY.out rfl
        have t3 : wr.cell? ⟨gt, 19, none⟩ = some (.func (.func 70) #[] #[]) := cell_of_block HY.out rfl
        obtain ⟨c0, c1, c2, c3, c4, c5, c6, c7⟩ := ck_cells HX.out
        have H4 : Hid (∀ W : World, _) := fun W => has_4 c W
        have H5 : Hid (∀ W : World, _) := fun W => says_4 c W
        simp only [ckV] at H4 H5
        have HKT : Hid (hasK c 4 = true → txK c 5 = txK c 4 ++ [⟨#[83, 97, 109, 101, 83, 105, 116, 101, 61]⟩ ++ sayK c 4]) := fun h => by rw [show txK c 5 = txK c 4 ++ txs c 4 from rfl, txs_has h]; rfl
        have HKF : Hid (hasK c 4 = false → txK c 5 = txK c 4) := fun h => by rw [show txK c 5 = txK c 4 ++ txs c 4 from rfl, txs_not h, List.append_nil]
        obtain ⟨hv, hhv⟩ : ∃ hv, hasK c 4 = hv := ⟨_, rfl⟩
        rw [hhv] at H4 HKT HKF
        have hsy : (sayK c 4).size ≤ 1000000000 := by show c.same.size ≤ _; have := HZ.out; omega
        obtain ⟨sy, hsay⟩ : ∃ sy, sayK c 4 = sy := ⟨_, rfl⟩
        rw [hsay] at H5 HKT hsy
        clear hsay
        clear hhv
        go_wp2_with fail
        refine (H4.out _).mono ?_
        rintro e w4 ⟨rfl, b4⟩
        have HW4 : Hid (w4.heap[wr.heap.size]? = some (.cells #[.string ⟨#[83, 97, 109, 101, 83, 105, 116, 101, 61]⟩, .func (.func 68) #[] #[], .func (.func 69) #[] #[], .func (.func 70) #[] #[]] 57 (0, 0))) := below_old (block_alloc_at _ _) b4
        have HB4 : Hid (Below w.heap.size w w4) := (HB.out.alloc hsz _).trans (b4.mono (by simp; omega))
        have HX4 : Hid (w4.heap[w.heap.size]? = some (.cells (ckA c) 37 (0, 0))) := below_old (alloc_old HX.out) b4
        have HYY4 : Hid (w4.heap[gt]? = some (.cells tabA 57 (0, 0))) := below_old (alloc_old HY.out) b4
        have HOW4 : Hid (w4.ownsRow w.heap.size 9 1 (.slice va n vc) n (strV (txK c 4))) := owns_on2 (World.ownsRow.alloc HOW.out _) b4
        clear b4 c0 c1 c2 c3 c4 c5 c6 c7 t0 t1 t2 t3 H4
        obtain ⟨c0, c1, c2, c3, c4, c5, c6, c7⟩ := ck_cells HX4.out
        cases hv with
        | false =>
          have HKK : Hid _ := HKF.out rfl
          go_wp2_with fail
          go_roundw
          case rel => exact ⟨5, n, by omega, rfl, by omega, by rw [HKK.out]; exact HOW4.out, by rw [Hid, HKK.out]; exact HLN.out, HX4.out, HYY4.out, HB4.out⟩
          case measure => simp [intOf]
        | true =>
          have HKK : Hid _ := HKT.out rfl
          have y0 : w4.cell? ⟨wr.heap.size, 0, none⟩ = some (.string ⟨#[83, 97, 109, 101, 83, 105, 116, 101, 61]⟩) := cell_of_block HW4.out rfl
          have y2 : w4.cell? ⟨wr.heap.size, 2, none⟩ = some (.func (.func 69) #[] #[]) := cell_of_block HW4.out rfl
          have hsz4 := HB4.out.size
          have hcat : ¬ 9223372036854775807 < 9 + sy.size := by omega
          go_wp2_with fail
          refine wp_region_held_drew (S := fun W => W.heap[wr.heap.size]? = some (.cells #[.string ⟨#[83, 97, 109, 101, 83, 105, 116, 101, 61]⟩, .func (.func 68) #[] #[], .func (.func 69) #[] #[], .func (.func 70) #[] #[]] 57 (0, 0)) ∧ W.heap[w.heap.size]? = some (.cells (ckA c) 37 (0, 0))) (by kernel_rfl) ⟨HW4.out, HX4.out⟩ (fun hHeld => ?_)
          refine wpAnyH_take (i := 0) (oi := ({ dst := some 26, op := Op.move (Operand.tmp 4), type := 32, pos := "set.go:70", after := #[], guard := none } : Oper)) (v := ?_) rfl (by kernel_rfl) (by kernel_rfl) (by kernel_rfl) (fun _ _ _ h => h) (Or.inl ⟨by rfl, ?_⟩) (by assumption) ?_
          rotate_left
          · (intro w hSw; go_simp; try with_reducible rfl)
          try simp only [Act.put, List.setIfInBounds_toArray, List.set_cons_zero, List.set_cons_succ]
          refine wpAnyH_take (i := 1) (oi := ({ dst := some 27, op := Op.fieldAddr 57 (Operand.tmp 6) 0, type := 0, pos := "set.go:70", after := #[], guard := none } : Oper)) (v := ?_) rfl (by kernel_rfl) (by kernel_rfl) (by kernel_rfl) (fun _ _ _ h => h) (Or.inl ⟨by rfl, ?_⟩) (by assumption) ?_
          rotate_left
          · (intro w hSw; go_simp; try with_reducible rfl)
          try simp only [Act.put, List.setIfInBounds_toArray, List.set_cons_zero, List.set_cons_succ]
          refine wpAnyH_take (i := 2) (oi := ({ dst := some 28, op := Op.load 9 (Operand.tmp 27), type := 9, pos := "set.go:70", after := #[{ on := 1, ground := Ground.data }], guard := none } : Oper)) (v := ?_) rfl (by kernel_rfl) (by kernel_rfl) (by kernel_rfl) (fun _ _ _ h => h) (Or.inl ⟨by rfl, ?_⟩) (by assumption) ?_
          rotate_left
          · (intro w hSw; obtain ⟨c0, c1, c2, c3, c4, c5, c6, c7⟩ := ck_cells hSw.2; have y0 := cell_of_block hSw.1 (o := 0) rfl; have y2 := cell_of_block hSw.1 (o := 2) rfl; go_simp; try with_reducible rfl)
          try simp only [Act.put, List.setIfInBounds_toArray, List.set_cons_zero, List.set_cons_succ]
          refine wpAnyH_take (i := 3) (oi := ({ dst := some 29, op := Op.fieldAddr 57 (Operand.tmp 6) 2, type := 0, pos := "set.go:70", after := #[], guard := none } : Oper)) (v := ?_) rfl (by kernel_rfl) (by kernel_rfl) (by kernel_rfl) (fun _ _ _ h => h) (Or.inl ⟨by rfl, ?_⟩) (by assumption) ?_
          rotate_left
          · (intro w hSw; go_simp; try with_reducible rfl)
          try simp only [Act.put, List.setIfInBounds_toArray, List.set_cons_zero, List.set_cons_succ]
          refine wpAnyH_take (i := 4) (oi := ({ dst := some 30, op := Op.load 54 (Operand.tmp 29), type := 54, pos := "set.go:70", after := #[{ on := 3, ground := Ground.data }], guard := none } : Oper)) (v := ?_) rfl (by kernel_rfl) (by kernel_rfl) (by kernel_rfl) (fun _ _ _ h => h) (Or.inl ⟨by rfl, ?_⟩) (by assumption) ?_
          rotate_left
          · (intro w hSw; obtain ⟨c0, c1, c2, c3, c4, c5, c6, c7⟩ := ck_cells hSw.2; have y0 := cell_of_block hSw.1 (o := 0) rfl; have y2 := cell_of_block hSw.1 (o := 2) rfl; go_simp; try with_reducible rfl)
          try simp only [Act.put, List.setIfInBounds_toArray, List.set_cons_zero, List.set_cons_succ]
          refine wpAnyH_take (i := 5) (oi := ({ dst := some 31, op := Op.load 37 (Operand.tmp 1), type := 37, pos := "set.go:70", after := #[], guard := none } : Oper)) (v := ?_) rfl (by kernel_rfl) (by kernel_rfl) (by kernel_rfl) (fun _ _ _ h => h) (Or.inl ⟨by rfl, ?_⟩) (by assumption) ?_
          rotate_left
          · (intro w hSw; obtain ⟨c0, c1, c2, c3, c4, c5, c6, c7⟩ := ck_cells hSw.2; have y0 := cell_of_block hSw.1 (o := 0) rfl; have y2 := cell_of_block hSw.1 (o := 2) rfl; go_simp; try with_reducible rfl)
          try simp only [Act.put, List.setIfInBounds_toArray, List.set_cons_zero, List.set_cons_succ]
          refine wpAnyH_ready (rs := [6]) (by kernel_rfl) (by simp) ?_
          refine AllReadyH.cons rfl (fun K hK => ?_) AllReadyH.nil
          go_simp
          go_wp2_with (go_at_call 69; refine (H5.out _).mono ?_; rintro e w5 ⟨rfl, b5⟩)
          have HB5 : Hid (Below w.heap.size w w5) := (below_drewN HB4.out 1).trans (b5.mono HB4.out.size)
          have HO5 : Hid (w5.ownsRow w.heap.size 9 1 (.slice va n vc) n (strV (txK c 4))) := owns_on2 (w := w4.drew) HOW4.out b5
          have HYY5 : Hid (w5.heap[gt]? = some (.cells tabA 57 (0, 0))) := below_old (w := w4.drew) HYY4.out b5
          refine hK.out _ _ ⟨below_old hHeld.1 b5, below_old hHeld.2 b5⟩ (fun hHeld => ?_)
          clear b5
          clear hK K
          refine wpAnyH_take (i := 7) (oi := ({ dst := some 33, op := Op.binOp BinOp.add 9 (Operand.tmp 28) (Operand.tmp 32) 9, type := 9, pos := "set.go:70", after := #[{ on := 2, ground := Ground.data }, { on := 6, ground := Ground.data }], guard := none } : Oper)) (v := ?_) rfl (by kernel_rfl) (by kernel_rfl) (by kernel_rfl) (fun _ _ _ h => h) (Or.inl ⟨by rfl, ?_⟩) (by assumption) ?_
          rotate_left
          · (intro w hSw; go_simp; try with_reducible rfl)
          try simp only [Act.put, List.setIfInBounds_toArray, List.set_cons_zero, List.set_cons_succ]
          refine wpAnyH_ready (rs := [8]) (by kernel_rfl) (by simp) ?_
          refine AllReadyH.cons rfl (fun K hK => ?_) AllReadyH.nil
          go_simp
          go_wp2_with fail
          refine hK.out _ _ ⟨alloc_old hHeld.1, alloc_old hHeld.2⟩ (fun hHeld => ?_)
          clear hK K
          refine wpAnyH_ready (rs := [9]) (by kernel_rfl) (by simp) ?_
          refine AllReadyH.cons rfl (fun K hK => ?_) AllReadyH.nil
          refine step_append_own rfl (.tmp 26) (.tmp 34) 32 rfl w.heap.size 9 i0 (.string ⟨#[]⟩) 1 16 Tryd.underlying32 hi hz0 hz1 hz2 rfl (by decide) _ _ _ rfl (HO5.out.alloc _) ⟨_, 0, none⟩ 1 1 (strV [(⟨#[83, 97, 109, 101, 83, 105, 116, 101, 61]⟩ ++ sy)]) rfl rfl (new_cells _ (strV [(⟨#[83, 97, 109, 101, 83, 105, 116, 101, 61]⟩ ++ sy)]) _) (strV_one _) (by unfold maxLen; omega) (by omega) (by have := HB5.out.size; simp; omega) ?_
          intro v1 w6 hown1 hgrow
          obtain ⟨a1, cap1, rfl⟩ := form_of_row hown1
          have HO6 : Hid (w6.ownsRow w.heap.size 9 1 (.slice a1 (n + 1) cap1) (n + 1) (strV (txK c 5))) := by rw [Hid, HKK.out, strV_snoc]; exact hown1
          have HB6 : Hid (Below w.heap.size w w6) := (HB5.out.alloc HB5.out.size _).grown hgrow (by have := HB5.out.size; simp; omega) (fun i hi => (World.ownsRow.lt HO5.out i hi).1)
          have HYY6 : Hid (w6.heap[gt]? = some (.cells tabA 57 (0, 0))) := keep_typed (HO5.out.alloc _) hgrow (alloc_old HYY5.out) (by decide)
          have HX6 : Hid (w6.heap[w.heap.size]? = some (.cells (ckA c) 37 (0, 0))) := keep_typed (HO5.out.alloc _) hgrow hHeld.2 (by decide)
          refine hK.out _ _ ⟨keep_typed (HO5.out.alloc _) hgrow hHeld.1 (by decide), HX6.out⟩ (fun hHeld => ?_)
          clear hown1 hgrow
          clear hK K
          refine wpAnyH_take (i := 10) (oi := ({ dst := some 4, op := Op.assign (Operand.tmp 35), type := 32, pos := "set.go:70", after := #[{ on := 9, ground := Ground.data }, { on := 9, ground := Ground.chain }, { on := 0, ground := Ground.phase }, { on := 1, ground := Ground.phase }, { on := 2, ground := Ground.phase }, { on := 3, ground := Ground.phase }, { on := 4, ground := Ground.phase }, { on := 5, ground := Ground.phase }, { on := 6, ground := Ground.phase }, { on := 7, ground := Ground.phase }, { on := 8, ground := Ground.phase }, { on := 9, ground := Ground.phase }], guard := none } : Oper)) (v := ?_) rfl (by kernel_rfl) (by kernel_rfl) (by kernel_rfl) (fun _ _ _ h => h) (Or.inl ⟨by rfl, ?_⟩) (by assumption) ?_
          rotate_left
          · (intro w hSw; go_simp; try with_reducible rfl)
          refine wpAnyH_done (by kernel_rfl) ?_ _
          go_wp2_with fail
          go_roundw
          case rel => exact ⟨5, n + 1, by omega, rfl, by omega, HO6.out, by rw [Hid, HKK.out, List.length_append, HLN.out]; rfl, HX6.out, HYY6.out, HB6.out⟩
          case measure => simp [intOf]
      · have hq := HOW.out
        obtain ⟨t0, ht0⟩ : ∃ t0, (txK c 5)[0]? = some t0 := ⟨(txK c 5)[0]'(by have := (txK_len c 5 (by omega)).1; omega), List.getElem?_eq_getElem _⟩
        obtain ⟨gb, rfl, _, hgl, _⟩ := owns_str hq ht0
        have hcap : n ≤ vc := by
          rcases hq.2 with ⟨e, _⟩ | ⟨g2, cap, cur, e, _, _, hn2, _⟩
          · cases e
          · cases e; omega
        have H5 : Hid (∀ _ : Unit, Calls Tryd.prog 28 #[.slice (some ⟨gb, 0, none⟩) n vc, .string ⟨#[59, 32]⟩] wr fun e w' => e = .returned (.string (jn (txK c 5))) ∧ Below wr.heap.size wr w') := fun _ => by
          have := Tryd.strings_Join gb 0 vc (txK c 5) ⟨#[59, 32]⟩ wr (fun j x hj => by obtain ⟨g3, e3, _, _, hc3⟩ := owns_str hq hj; cases e3; rw [Nat.zero_add]; exact hc3) hgl (by have := HLN.out; omega) (by have := HLN.out; omega) (by
            show (Lib.join ((txK c 5).map (·.data.toList)) [59, 32]).length ≤ _
            rw [show (Lib.join ((txK c 5).map (·.data.toList)) [59, 32]).length = (jn (txK c 5)).size by unfold jn; simp [ByteArray.size]]
            exact txK_size HZ.out HA.out)
          rw [HLN.out] at this
          exact this
        clear hq ht0
        go_wp2_with fail
        refine (H5.out ()).mono ?_
        rintro e w2 ⟨rfl, b2⟩
        go_wp2_with fail
        go_ret2
        exact ⟨by rw [HR.out]; rfl, HB.out.trans (b2.mono HB.out.size)⟩
end Go.Proofs.YtimabpfahhbadaaDoor
