/-
  The contract of readSet.
-/
import Derived.Test.YtimabpfahhbadaaDoorRst0
import Derived.Deep.RegionHeld
import Derived.BigQuiet
namespace Go.Proofs.YtimabpfahhbadaaDoor
open Go.RowKit
theorem cellA {W : World} {g : Nat} {a : Array Value} {t : TypeId} (h : W.heap[g]? = some (.cells a t (0, 0))) {i : Nat} {v : Value} (hv : a[i]? = some v) : W.cell? ⟨g, i, none⟩ = some v := cell_of_block h hv
theorem rdS_next {c0 c : Ck} {r0 : List ByteArray} {t : ByteArray} {q : List ByteArray} {k : Nat} (h : rdS k c0 r0 = (c, t :: q)) : (preW t (wordK k) = true → rdS (k + 1) c0 r0 = (takeK c (cutW t (wordK k)) k, q)) ∧ (preW t (wordK k) = false → rdS (k + 1) c0 r0 = (c, t :: q)) := by
  constructor
  · intro hp
    rw [rdS, h, stepS, if_pos hp]
  · intro hp
    rw [rdS, h, stepS, if_neg (by rw [hp]; decide)]
theorem cutW_size (t w : ByteArray) : (cutW t w).size ≤ t.size := by
  have : (cutW t w).size = (t.data.toList.drop w.data.toList.length).length := List.size_toArray
  rw [this, List.length_drop, Array.length_toList]
  exact Nat.sub_le _ _
theorem trim_pre {t w : ByteArray} (h : preW t w = true) : (⟨(Lib.trimPrefix t.data.toList w.data.toList).toArray⟩ : ByteArray) = cutW t w := by
  unfold Lib.trimPrefix cutW
  rw [if_pos (show Lib.hasPrefix t.data.toList w.data.toList = true from h)]
set_option maxRecDepth 20000 in
set_option maxHeartbeats 16000000 in
theorem readSet_any (t0 : ByteArray) (r0 : List ByteArray) (gT n : Nat) (m : Int) (w : World) (hT : w.heap[gT]? = some (.cells (strV (t0 :: r0)).toArray 9 (0, 0))) (hn : r0.length = n) (hn0 : n ≤ 1000000000) (hz : ∀ t ∈ t0 :: r0, t.size ≤ 1000000000) (hm : w.cell? ⟨0, 0, none⟩ = some (.int .i64 m)) :
    Calls Tryd.prog 36 #[.slice (some ⟨gT, 0, none⟩) (n + 1) (n + 1)] w fun e w' => e = .returned (ckV (rsR (t0 :: r0))) ∧ Below w.heap.size w w' := by
  have HM : Hid (∀ W, Below w.heap.size w W → W.cell? ⟨0, 0, none⟩ = some (.int .i64 m)) := fun W b => mx_below hm b
  have H1 : Hid (∀ W, Below w.heap.size w W → _) := fun W b => readPair_any t0 (by have := hz t0 (List.mem_cons_self ..); omega) m W (HM.out W b)
  have H3 : Hid (∀ W : World, _) := fun W => parts_tab W
  have HRS : Hid (rsR (t0 :: r0) = (rdS 5 (ck0 (rdP t0).name (rdP t0).val) r0).1) := rfl
  have HZ : Hid _ := hz
  have HT : Hid _ := hT
  have HNL : Hid _ := hn
  have hgT : gT < w.heap.size := (Array.getElem?_eq_some_iff.1 hT).1
  obtain ⟨fp, hfp⟩ : ∃ fp, rdP t0 = fp := ⟨_, rfl⟩
  rw [hfp] at H1 HRS
  obtain ⟨pn, pv⟩ := fp
  simp only at H1 HRS
  obtain ⟨T, hTT⟩ : ∃ T, rsR (t0 :: r0) = T := ⟨_, rfl⟩
  rw [hTT] at HRS ⊢
  obtain ⟨C0, hC0⟩ : ∃ C0, ck0 pn pv = C0 := ⟨_, rfl⟩
  clear hTT hfp hm hz hn
  obtain ⟨W0, hW0⟩ : ∃ W0, w.alloc (.cells (ckA ckN) 37) = W0 := ⟨_, rfl⟩
  have HB0 : Hid (Below w.heap.size w W0) := by rw [Hid, ← hW0]; exact (Below.refl _ _).alloc (Nat.le_refl _) _
  have HX0 : Hid (CkB W0 w.heap.size ckN) := by rw [Hid, ← hW0]; exact block_alloc_at _ _
  have HT0 : Hid (W0.heap[gT]? = some (.cells (strV (t0 :: r0)).toArray 9 (0, 0))) := by rw [Hid, ← hW0]; exact alloc_old hT
  clear hT
  unfold ckA ckN ck0 at hW0
  simp only at hW0
  go_enter Tryd.func36, Tryd.ntmps36
  go_wp2_with fail
  try rw [hW0]
  have hgT0 : gT < W0.heap.size := (Array.getElem?_eq_some_iff.1 HT0.out).1
  have HGW : Hid (w.heap.size < W0.heap.size) := HX0.out.lt
  go_cut [3, 4] from 10 to 15 (fun s3 s4 wc => ∃ g3 o, s3 = .pointer (some ⟨g3, 0, none⟩) ∧ s4 = .slice (some ⟨gT, o, none⟩) n n ∧ wc.cell? ⟨g3, 0, none⟩ = some (.string pn) ∧ wc.cell? ⟨g3, 1, none⟩ = some (.string pv) ∧ Hid (Below W0.heap.size W0 wc) ∧ Hid (n = 0 ∨ o = 1))
  case first =>
    clear hW0
    rcases Nat.eq_zero_or_pos n with rfl | hn1
    · have hz0 : True := trivial
      refine wp_region_held_drew (S := fun W => W.heap[gT]? = some (.cells (strV (t0 :: r0)).toArray 9 (0, 0))) (by kernel_rfl) HT0.out (fun hHeld => ?_)
      refine wpAnyH_take (i := 0) (oi := ({ dst := some 10, op := Op.move (Operand.tmp 0), type := 32, pos := "set.go:110", after := #[], guard := none } : Oper)) (v := ?_) rfl (by kernel_rfl) (by kernel_rfl) (by kernel_rfl) (fun _ _ _ h => h) (Or.inl ⟨by rfl, ?_⟩) (by assumption) ?_
      rotate_left
      · (intro w hSw; go_simp; try with_reducible rfl)
      try simp only [Act.put, List.setIfInBounds_toArray, List.set_cons_zero, List.set_cons_succ]
      refine wpAnyH_take (i := 1) (oi := ({ dst := some 11, op := Op.indexAddr 32 (Operand.tmp 10) (Operand.const (Value.int IntKind.i64 0)), type := 0, pos := "set.go:110", after := #[{ on := 0, ground := Ground.data }], guard := none } : Oper)) (v := ?_) rfl (by kernel_rfl) (by kernel_rfl) (by kernel_rfl) (fun _ _ _ h => h) (Or.inl ⟨by rfl, ?_⟩) (by assumption) ?_
      rotate_left
      · (intro w hSw; go_simp; try with_reducible rfl)
      try simp only [Act.put, List.setIfInBounds_toArray, List.set_cons_zero, List.set_cons_succ]
      refine wpAnyH_take (i := 2) (oi := ({ dst := some 12, op := Op.load 9 (Operand.tmp 11), type := 9, pos := "set.go:110", after := #[{ on := 1, ground := Ground.data }], guard := none } : Oper)) (v := ?_) rfl (by kernel_rfl) (by kernel_rfl) (by kernel_rfl) (fun _ _ _ h => h) (Or.inl ⟨by rfl, ?_⟩) (by assumption) ?_
      rotate_left
      · (intro w hSw; have c0 : w.cell? ⟨gT, 0, none⟩ = some (.string t0) := cell_of_block hSw rfl; go_simp; try with_reducible rfl)
      try simp only [Act.put, List.setIfInBounds_toArray, List.set_cons_zero, List.set_cons_succ]
      refine wpAnyH_take (i := 4) (oi := ({ dst := some 14, op := Op.move (Operand.tmp 0), type := 32, pos := "set.go:110", after := #[], guard := none } : Oper)) (v := ?_) rfl (by kernel_rfl) (by kernel_rfl) (by kernel_rfl) (fun _ _ _ h => h) (Or.inl ⟨by rfl, ?_⟩) (by assumption) ?_
      rotate_left
      · (intro w hSw; go_simp; try with_reducible rfl)
      try simp only [Act.put, List.setIfInBounds_toArray, List.set_cons_zero, List.set_cons_succ]
      refine wpAnyH_take (i := 5) (oi := ({ dst := some 15, op := Op.slice 32 (Operand.tmp 14) (some (Operand.const (Value.int IntKind.i64 1))) none none, type := 32, pos := "set.go:110", after := #[{ on := 4, ground := Ground.data }], guard := none } : Oper)) (v := ?_) rfl (by kernel_rfl) (by kernel_rfl) (by kernel_rfl) (fun _ _ _ h => h) (Or.inl ⟨by rfl, ?_⟩) (by assumption) ?_
      rotate_left
      · (intro w hSw; go_simp; try with_reducible rfl)
      try simp only [Act.put, List.setIfInBounds_toArray, List.set_cons_zero, List.set_cons_succ]
      refine wpAnyH_ready (rs := [3, 6]) (by kernel_rfl) (by simp) ?_
      refine (AllReadyH.cons rfl (fun K hK => ?_) (AllReadyH.cons rfl (fun K hK => ?_) AllReadyH.nil))
      · go_simp
        go_wp2_with (go_at_call 21; refine (H1.out _ (below_drewN HB0.out 1)).mono ?_; rintro e w1 ⟨rfl, b1⟩)
        have hS1 := below_old hHeld b1
        refine hK.out _ _ hS1 (fun hHeld => ?_)
        clear hK K
        refine wpAnyH_ready (rs := [6]) (by kernel_rfl) (by simp) ?_
        refine (AllReadyH.cons rfl (fun K hK => ?_) AllReadyH.nil)
        go_simp
        go_wp2_with fail
        refine hK.out _ _ (alloc_old hHeld) (fun hHeld => ?_)
        clear hK K
        refine wpAnyH_ready (rs := [7]) (by kernel_rfl) (by simp) ?_
        refine (AllReadyH.cons rfl (fun K hK => ?_) AllReadyH.nil)
        go_simp
        go_wp2_with fail
        refine hK.out _ _ (alloc_old hS1) (fun hHeld => ?_)
        clear hK K
        refine wpAnyH_take (i := 8) (oi := ({ dst := some 4, op := Op.assign (Operand.tmp 15), type := 32, pos := "set.go:110", after := #[{ on := 5, ground := Ground.data }, { on := 7, ground := Ground.chain }, { on := 0, ground := Ground.phase }, { on := 1, ground := Ground.phase }, { on := 2, ground := Ground.phase }, { on := 3, ground := Ground.phase }, { on := 4, ground := Ground.phase }, { on := 5, ground := Ground.phase }, { on := 6, ground := Ground.phase }, { on := 7, ground := Ground.phase }], guard := none } : Oper)) (v := ?_) rfl (by kernel_rfl) (by kernel_rfl) (by kernel_rfl) (fun _ _ _ h => h) (Or.inl ⟨by rfl, ?_⟩) (by assumption) ?_
        rotate_left
        · (intro w hSw; go_simp; try with_reducible rfl)
        refine wpAnyH_done (by kernel_rfl) ?_ _
        go_wp2_with fail
        go_meet
        exact ⟨w1.heap.size, 0, rfl, rfl, cell_of_block (block_alloc_at w1 _) rfl, cell_of_block (block_alloc_at w1 _) rfl, ((below_drewN (Below.refl _ _) 1).trans b1).alloc b1.size _, Or.inl (by first | rfl | trivial)⟩
      · go_simp
        go_wp2_with fail
        refine hK.out _ _ (alloc_old hHeld) (fun hHeld => ?_)
        clear hK K
        refine wpAnyH_ready (rs := [3]) (by kernel_rfl) (by simp) ?_
        refine (AllReadyH.cons rfl (fun K hK => ?_) AllReadyH.nil)
        go_simp
        go_wp2_with (go_at_call 21; refine (H1.out _ ((below_drewN HB0.out 1).alloc HB0.out.size _)).mono ?_; rintro e w1 ⟨rfl, b1⟩)
        have hS1 := below_old hHeld b1
        have hx3 : w1.heap[W0.heap.size]? = some (.cells #[.string ⟨#[]⟩, .string ⟨#[]⟩] 44 (0, 0)) := below_old (w := (W0.alloc (.cells #[.string ⟨#[]⟩, .string ⟨#[]⟩] 44)).drew) (block_alloc_at W0 _) b1
        have k0 := cell_of_block hx3 (o := 0) rfl
        have k1 := cell_of_block hx3 (o := 1) rfl
        have f0 := free_of_block hx3 0
        have f1 := free_of_block hx3 1
        refine hK.out _ _ hS1 (fun hHeld => ?_)
        clear hK K
        refine wpAnyH_ready (rs := [7]) (by kernel_rfl) (by simp) ?_
        refine (AllReadyH.cons rfl (fun K hK => ?_) AllReadyH.nil)
        go_simp
        go_wp2_with fail
        refine hK.out _ _ ((Below.heap_setCell _ _ _ _ (by show gT ≠ W0.heap.size; omega)).trans ((Below.heap_setCell _ _ _ _ (by show gT ≠ W0.heap.size; omega)).trans hS1)) (fun hHeld => ?_)
        clear hK K
        refine wpAnyH_take (i := 8) (oi := ({ dst := some 4, op := Op.assign (Operand.tmp 15), type := 32, pos := "set.go:110", after := #[{ on := 5, ground := Ground.data }, { on := 7, ground := Ground.chain }, { on := 0, ground := Ground.phase }, { on := 1, ground := Ground.phase }, { on := 2, ground := Ground.phase }, { on := 3, ground := Ground.phase }, { on := 4, ground := Ground.phase }, { on := 5, ground := Ground.phase }, { on := 6, ground := Ground.phase }, { on := 7, ground := Ground.phase }], guard := none } : Oper)) (v := ?_) rfl (by kernel_rfl) (by kernel_rfl) (by kernel_rfl) (fun _ _ _ h => h) (Or.inl ⟨by rfl, ?_⟩) (by assumption) ?_
        rotate_left
        · (intro w hSw; go_simp; try with_reducible rfl)
        refine wpAnyH_done (by kernel_rfl) ?_ _
        go_wp2_with fail
        go_meet
        exact ⟨W0.heap.size, 0, rfl, rfl, cell_of_block (set2_block hx3 _ _) rfl, cell_of_block (set2_block hx3 _ _) rfl, set2_below (((below_drewN (Below.refl _ _) 1).alloc (Nat.le_refl _) _).trans (b1.mono (by simp))) (Nat.le_refl _) _ _, Or.inl (by first | rfl | trivial)⟩
    · have q0 : (1 : Int) ≤ (n : Int) + 1 := by omega
      have q1 : ¬ (n + 1 = 1) := by omega
      have q2 : n + 1 - 1 = n := by omega
      refine wp_region_held_drew (S := fun W => W.heap[gT]? = some (.cells (strV (t0 :: r0)).toArray 9 (0, 0))) (by kernel_rfl) HT0.out (fun hHeld => ?_)
      refine wpAnyH_take (i := 0) (oi := ({ dst := some 10, op := Op.move (Operand.tmp 0), type := 32, pos := "set.go:110", after := #[], guard := none } : Oper)) (v := ?_) rfl (by kernel_rfl) (by kernel_rfl) (by kernel_rfl) (fun _ _ _ h => h) (Or.inl ⟨by rfl, ?_⟩) (by assumption) ?_
      rotate_left
      · (intro w hSw; go_simp; try with_reducible rfl)
      try simp only [Act.put, List.setIfInBounds_toArray, List.set_cons_zero, List.set_cons_succ]
      refine wpAnyH_take (i := 1) (oi := ({ dst := some 11, op := Op.indexAddr 32 (Operand.tmp 10) (Operand.const (Value.int IntKind.i64 0)), type := 0, pos := "set.go:110", after := #[{ on := 0, ground := Ground.data }], guard := none } : Oper)) (v := ?_) rfl (by kernel_rfl) (by kernel_rfl) (by kernel_rfl) (fun _ _ _ h => h) (Or.inl ⟨by rfl, ?_⟩) (by assumption) ?_
      rotate_left
      · (intro w hSw; go_simp; try with_reducible rfl)
      try simp only [Act.put, List.setIfInBounds_toArray, List.set_cons_zero, List.set_cons_succ]
      refine wpAnyH_take (i := 2) (oi := ({ dst := some 12, op := Op.load 9 (Operand.tmp 11), type := 9, pos := "set.go:110", after := #[{ on := 1, ground := Ground.data }], guard := none } : Oper)) (v := ?_) rfl (by kernel_rfl) (by kernel_rfl) (by kernel_rfl) (fun _ _ _ h => h) (Or.inl ⟨by rfl, ?_⟩) (by assumption) ?_
      rotate_left
      · (intro w hSw; have c0 : w.cell? ⟨gT, 0, none⟩ = some (.string t0) := cell_of_block hSw rfl; go_simp; try with_reducible rfl)
      try simp only [Act.put, List.setIfInBounds_toArray, List.set_cons_zero, List.set_cons_succ]
      refine wpAnyH_take (i := 4) (oi := ({ dst := some 14, op := Op.move (Operand.tmp 0), type := 32, pos := "set.go:110", after := #[], guard := none } : Oper)) (v := ?_) rfl (by kernel_rfl) (by kernel_rfl) (by kernel_rfl) (fun _ _ _ h => h) (Or.inl ⟨by rfl, ?_⟩) (by assumption) ?_
      rotate_left
      · (intro w hSw; go_simp; try with_reducible rfl)
      try simp only [Act.put, List.setIfInBounds_toArray, List.set_cons_zero, List.set_cons_succ]
      refine wpAnyH_take (i := 5) (oi := ({ dst := some 15, op := Op.slice 32 (Operand.tmp 14) (some (Operand.const (Value.int IntKind.i64 1))) none none, type := 32, pos := "set.go:110", after := #[{ on := 4, ground := Ground.data }], guard := none } : Oper)) (v := ?_) rfl (by kernel_rfl) (by kernel_rfl) (by kernel_rfl) (fun _ _ _ h => h) (Or.inl ⟨by rfl, ?_⟩) (by assumption) ?_
      rotate_left
      · (intro w hSw; go_simp; try with_reducible rfl)
      try simp only [Act.put, List.setIfInBounds_toArray, List.set_cons_zero, List.set_cons_succ]
      refine wpAnyH_ready (rs := [3, 6]) (by kernel_rfl) (by simp) ?_
      refine (AllReadyH.cons rfl (fun K hK => ?_) (AllReadyH.cons rfl (fun K hK => ?_) AllReadyH.nil))
      · go_simp
        go_wp2_with (go_at_call 21; refine (H1.out _ (below_drewN HB0.out 1)).mono ?_; rintro e w1 ⟨rfl, b1⟩)
        have hS1 := below_old hHeld b1
        refine hK.out _ _ hS1 (fun hHeld => ?_)
        clear hK K
        refine wpAnyH_ready (rs := [6]) (by kernel_rfl) (by simp) ?_
        refine (AllReadyH.cons rfl (fun K hK => ?_) AllReadyH.nil)
        go_simp
        go_wp2_with fail
        refine hK.out _ _ (alloc_old hHeld) (fun hHeld => ?_)
        clear hK K
        refine wpAnyH_ready (rs := [7]) (by kernel_rfl) (by simp) ?_
        refine (AllReadyH.cons rfl (fun K hK => ?_) AllReadyH.nil)
        go_simp
        go_wp2_with fail
        refine hK.out _ _ (alloc_old hS1) (fun hHeld => ?_)
        clear hK K
        refine wpAnyH_take (i := 8) (oi := ({ dst := some 4, op := Op.assign (Operand.tmp 15), type := 32, pos := "set.go:110", after := #[{ on := 5, ground := Ground.data }, { on := 7, ground := Ground.chain }, { on := 0, ground := Ground.phase }, { on := 1, ground := Ground.phase }, { on := 2, ground := Ground.phase }, { on := 3, ground := Ground.phase }, { on := 4, ground := Ground.phase }, { on := 5, ground := Ground.phase }, { on := 6, ground := Ground.phase }, { on := 7, ground := Ground.phase }], guard := none } : Oper)) (v := ?_) rfl (by kernel_rfl) (by kernel_rfl) (by kernel_rfl) (fun _ _ _ h => h) (Or.inl ⟨by rfl, ?_⟩) (by assumption) ?_
        rotate_left
        · (intro w hSw; go_simp; try with_reducible rfl)
        refine wpAnyH_done (by kernel_rfl) ?_ _
        go_wp2_with fail
        go_meet
        exact ⟨w1.heap.size, 1, rfl, rfl, cell_of_block (block_alloc_at w1 _) rfl, cell_of_block (block_alloc_at w1 _) rfl, ((below_drewN (Below.refl _ _) 1).trans b1).alloc b1.size _, Or.inr rfl⟩
      · go_simp
        go_wp2_with fail
        refine hK.out _ _ (alloc_old hHeld) (fun hHeld => ?_)
        clear hK K
        refine wpAnyH_ready (rs := [3]) (by kernel_rfl) (by simp) ?_
        refine (AllReadyH.cons rfl (fun K hK => ?_) AllReadyH.nil)
        go_simp
        go_wp2_with (go_at_call 21; refine (H1.out _ ((below_drewN HB0.out 1).alloc HB0.out.size _)).mono ?_; rintro e w1 ⟨rfl, b1⟩)
        have hS1 := below_old hHeld b1
        have hx3 : w1.heap[W0.heap.size]? = some (.cells #[.string ⟨#[]⟩, .string ⟨#[]⟩] 44 (0, 0)) := below_old (w := (W0.alloc (.cells #[.string ⟨#[]⟩, .string ⟨#[]⟩] 44)).drew) (block_alloc_at W0 _) b1
        have k0 := cell_of_block hx3 (o := 0) rfl
        have k1 := cell_of_block hx3 (o := 1) rfl
        have f0 := free_of_block hx3 0
        have f1 := free_of_block hx3 1
        refine hK.out _ _ hS1 (fun hHeld => ?_)
        clear hK K
        refine wpAnyH_ready (rs := [7]) (by kernel_rfl) (by simp) ?_
        refine (AllReadyH.cons rfl (fun K hK => ?_) AllReadyH.nil)
        go_simp
        go_wp2_with fail
        refine hK.out _ _ ((Below.heap_setCell _ _ _ _ (by show gT ≠ W0.heap.size; omega)).trans ((Below.heap_setCell _ _ _ _ (by show gT ≠ W0.heap.size; omega)).trans hS1)) (fun hHeld => ?_)
        clear hK K
        refine wpAnyH_take (i := 8) (oi := ({ dst := some 4, op := Op.assign (Operand.tmp 15), type := 32, pos := "set.go:110", after := #[{ on := 5, ground := Ground.data }, { on := 7, ground := Ground.chain }, { on := 0, ground := Ground.phase }, { on := 1, ground := Ground.phase }, { on := 2, ground := Ground.phase }, { on := 3, ground := Ground.phase }, { on := 4, ground := Ground.phase }, { on := 5, ground := Ground.phase }, { on := 6, ground := Ground.phase }, { on := 7, ground := Ground.phase }], guard := none } : Oper)) (v := ?_) rfl (by kernel_rfl) (by kernel_rfl) (by kernel_rfl) (fun _ _ _ h => h) (Or.inl ⟨by rfl, ?_⟩) (by assumption) ?_
        rotate_left
        · (intro w hSw; go_simp; try with_reducible rfl)
        refine wpAnyH_done (by kernel_rfl) ?_ _
        go_wp2_with fail
        go_meet
        exact ⟨W0.heap.size, 1, rfl, rfl, cell_of_block (set2_block hx3 _ _) rfl, cell_of_block (set2_block hx3 _ _) rfl, set2_below (((below_drewN (Below.refl _ _) 1).alloc (Nat.le_refl _) _).trans (b1.mono (by simp))) (Nat.le_refl _) _ _, Or.inr rfl⟩
  case rest =>
    obtain ⟨g3, o, rfl, rfl, d0, d1, HBC, HO⟩ := hcut
    clear hW0 H1
    have HTc : Hid (wc.heap[gT]? = some (.cells (strV (t0 :: r0)).toArray 9 (0, 0))) := below_old HT0.out HBC.out
    have HXc : Hid (CkB wc w.heap.size ckN) := HX0.out.below HBC.out
    have HBW : Hid (Below w.heap.size w wc) := HB0.out.trans (HBC.out.mono HB0.out.size)
    have HGC : Hid (w.heap.size < wc.heap.size) := HXc.out.lt
    obtain ⟨Wb, hWb⟩ : ∃ Wb, wc.alloc (.cells (ckA (ck0 pn pv)) 37) = Wb := ⟨_, rfl⟩
    have HBb : Hid (Below w.heap.size w Wb) := by rw [Hid, ← hWb]; exact HBW.out.alloc HBW.out.size _
    have HTb : Hid (Wb.heap[gT]? = some (.cells (strV (t0 :: r0)).toArray 9 (0, 0))) := by rw [Hid, ← hWb]; exact alloc_old HTc.out
    have HXb : Hid (CkB Wb w.heap.size ckN) := by rw [Hid, ← hWb]; exact HXc.out.alloc _
    have HCb : Hid (CkB Wb wc.heap.size (ck0 pn pv)) := by rw [Hid, ← hWb]; exact block_alloc_at _ _
    obtain ⟨W3, hW3⟩ : ∃ W3, Wb.alloc (.cells tabA 57) = W3 := ⟨_, rfl⟩
    have HB3 : Hid (Below w.heap.size w W3) := by rw [Hid, ← hW3]; exact HBb.out.alloc HBb.out.size _
    have HT3 : Hid (W3.heap[gT]? = some (.cells (strV (t0 :: r0)).toArray 9 (0, 0))) := by rw [Hid, ← hW3]; exact alloc_old HTb.out
    have HX3 : Hid (CkB W3 w.heap.size ckN) := by rw [Hid, ← hW3]; exact HXb.out.alloc _
    have HC3 : Hid (CkB W3 wc.heap.size (ck0 pn pv)) := by rw [Hid, ← hW3]; exact HCb.out.alloc _
    have HY3 : Hid (W3.heap[Wb.heap.size]? = some (.cells tabA 57 (0, 0))) := by rw [Hid, ← hW3]; exact block_alloc_at _ _
    unfold ckA ck0 at hWb
    simp only at hWb
    have HWb : Hid _ := hWb
    clear hWb
    go_wp2_with fail
    rw [HWb.out]
    refine (H3.out _).mono ?_
    rintro e w3 ⟨rfl, hw3⟩
    rw [hW3] at hw3
    rw [hw3]
    rw [hC0] at HC3 HRS
    obtain ⟨gt, hgt⟩ : ∃ gt, Wb.heap.size = gt := ⟨_, rfl⟩
    obtain ⟨g5, hg5⟩ : ∃ g5, wc.heap.size = g5 := ⟨_, rfl⟩
    rw [hgt] at HY3
    rw [hg5] at HC3 HGC
    have HR3 : Hid (RestAt W3 gT o r0) := fun j z hj => by
      rcases HO.out with h | h
      · have : r0 = [] := List.eq_nil_of_length_eq_zero (by rw [HNL.out, h])
        rw [this] at hj; simp at hj
      · rw [h]
        refine cell_of_block HT3.out ?_
        rw [List.getElem?_toArray, strV, List.getElem?_map, Nat.add_comm, List.getElem?_cons_succ, hj]
        rfl
    rw [← HNL.out]
    clear hw3 hW3 HWb w3 hC0 d0 d1 HTb HXb HCb HTc HXc HT0 HX0 H3
    go_wp2_with fail
    go_loopw [4, 23] (fun s4 i wr => ∃ (k : Nat) (c : Ck) (r : List ByteArray) (o : Nat), k ≤ 5 ∧ i = .int .i64 (k : Nat) ∧ s4 = .slice (some ⟨gT, o, none⟩) r.length r.length ∧ Hid (rdS k C0 r0 = (c, r)) ∧ Hid (RestAt wr gT o r) ∧ Hid (∀ t ∈ r, t.size ≤ 1000000000) ∧ Hid (CkB wr g5 c) ∧ Hid (wr.heap[gt]? = some (.cells tabA 57 (0, 0))) ∧ Hid (CkB wr w.heap.size ckN) ∧ Hid (wr.heap[gT]? = W3.heap[gT]?) ∧ Hid (Below w.heap.size w wr)) (fun _ i _ => 5 - (intOf i).toNat)
    case atStart => exact ⟨0, C0, r0, o, by omega, rfl, rfl, rfl, HR3.out, fun t ht => HZ.out t (List.mem_cons_of_mem _ ht), HC3.out, HY3.out, HX3.out, rfl, HB3.out⟩
    case round =>
      obtain ⟨k, c, r, o, hk5, rfl, rfl, HE, HRA, HRZ, HC, HY, HX, HGG, HB⟩ := hrel
      have HGT : Hid _ := hgt
      have HG5 : Hid _ := hg5
      have hgx : w.heap.size < wr.heap.size := HX.out.lt
      have hg5l : g5 < wr.heap.size := HC.out.lt
      have hgTl : gT < wr.heap.size := by have := HB.out.size; omega
      have hgtl : gt < wr.heap.size := (Array.getElem?_eq_some_iff.1 HY.out).1
      have HNG : Hid (g5 ≠ gT ∧ g5 ≠ w.heap.size ∧ g5 ≠ gt) := by
        refine ⟨?_, by have := HGC.out; omega, fun e => ?_⟩
        · have := HGC.out; omega
        · have h1 := HC.out; have h2 := HY.out
          rw [CkB, e, h2] at h1
          have h3 := congrArg (fun o : Option Obj => match o with | some (.cells _ t _) => t | _ => 0) h1
          exact absurd h3 (show ¬ ((57 : Nat) = 37) by decide)
      clear hgt hg5
      rcases (by omega : k = 0 ∨ k = 1 ∨ k = 2 ∨ k = 3 ∨ k = 4 ∨ k = 5) with rfl | rfl | rfl | rfl | rfl | rfl
      · have t0 : wr.cell? ⟨gt, 0, none⟩ = some (.string ⟨#[80, 97, 116, 104, 61]⟩) := cell_of_block HY.out rfl
        have t1 : wr.cell? ⟨gt, 1, none⟩ = some (.func (.func 56) #[] #[]) := cell_of_block HY.out rfl
        have t2 : wr.cell? ⟨gt, 2, none⟩ = some (.func (.func 57) #[] #[]) := cell_of_block HY.out rfl
        have t3 : wr.cell? ⟨gt, 3, none⟩ = some (.func (.func 58) #[] #[]) := cell_of_block HY.out rfl
        obtain ⟨V, hV⟩ : ∃ V, wr.alloc (.cells #[.string ⟨#[80, 97, 116, 104, 61]⟩, .func (.func 56) #[] #[], .func (.func 57) #[] #[], .func (.func 58) #[] #[]] 57) = V := ⟨_, rfl⟩
        have HCV : Hid (CkB V g5 c) := by rw [Hid, ← hV]; exact HC.out.alloc _
        have HXV : Hid (CkB V w.heap.size ckN) := by rw [Hid, ← hV]; exact HX.out.alloc _
        have HYV : Hid (V.heap[gt]? = some (.cells tabA 57 (0, 0))) := by rw [Hid, ← hV]; exact alloc_old HY.out
        have HPV : Hid (V.heap[wr.heap.size]? = some (.cells #[.string ⟨#[80, 97, 116, 104, 61]⟩, .func (.func 56) #[] #[], .func (.func 57) #[] #[], .func (.func 58) #[] #[]] 57 (0, 0))) := by rw [Hid, ← hV]; exact block_alloc_at _ _
        have HBV : Hid (Below w.heap.size w V) := by rw [Hid, ← hV]; exact HB.out.alloc HB.out.size _
        have HGV : Hid (V.heap[gT]? = W3.heap[gT]?) := by rw [Hid, ← hV]; exact (((Below.refl wr.heap.size wr).alloc (Nat.le_refl _) _).block gT hgTl).trans HGG.out
        have HRV : Hid (RestAt V gT o r) := RestAt.keep HRA.out (HGV.out.trans HGG.out.symm)
        cases r with
        | nil =>
          have HRR : Hid (T = c) := by rw [Hid, HRS.out]; exact rdS_done 5 0 rfl HE.out
          obtain ⟨c0, c1, c2, c3, c4, c5, c6, c7⟩ := ck_cells HCV.out
          obtain ⟨k0, k1, k2, k3, k4, k5, k6, k7⟩ := ck_cells HXV.out
          have f0 := CkB.free HXV.out 0
          have f1 := CkB.free HXV.out 1
          have f2 := CkB.free HXV.out 2
          have f3 := CkB.free HXV.out 3
          have f4 := CkB.free HXV.out 4
          have f5 := CkB.free HXV.out 5
          have f6 := CkB.free HXV.out 6
          have f7 := CkB.free HXV.out 7
          simp only [ckN, ck0] at k0 k1 k2 k3 k4 k5 k6 k7
          obtain ⟨W9, hW9⟩ : ∃ W9, set8 V w.heap.size c = W9 := ⟨_, rfl⟩
          have HX9 : CkB W9 w.heap.size c := by rw [← hW9]; exact set8_box HXV.out c
          have HB9 : Hid (Below w.heap.size w W9) := by rw [Hid, ← hW9]; exact set8_below HBV.out (Nat.le_refl _) c
          obtain ⟨x0, x1, x2, x3, x4, x5, x6, x7⟩ := ck_cells HX9
          clear HX9
          unfold set8 at hW9
          go_upto_region 6 with fail
          try rw [hV]
          go_wp2_with fail
          try rw [hW9]
          refine bodyPost_ret (v := ckV c) ?_ rfl ⟨by rw [HRR.out], HB9.out⟩
          rw [results_cell1 rfl]
          unfold ckV
          go_simp
        | cons t q =>
          have hrl : RestAt V gT o (t :: q) := HRV.out
          have r0c : V.cell? ⟨gT, o, none⟩ = some (.string t) := hrl 0 t rfl
          have y0 : V.cell? ⟨wr.heap.size, 0, none⟩ = some (.string ⟨#[80, 97, 116, 104, 61]⟩) := cell_of_block HPV.out rfl
          have y3 : V.cell? ⟨wr.heap.size, 3, none⟩ = some (.func (.func 58) #[] #[]) := cell_of_block HPV.out rfl
          obtain ⟨HNX1, HNX2⟩ := rdS_next HE.out
          have htz := HRZ.out t (List.mem_cons_self ..)
          have H6 : Hid (∀ W : World, _) := fun W => Tryd.strings_CutPrefix t ⟨#[80, 97, 116, 104, 61]⟩ W
          rw [show Lib.hasPrefix t.data.toList (⟨#[80, 97, 116, 104, 61]⟩ : ByteArray).data.toList = preW t (wordK 0) from rfl] at H6
          have HTP : Hid (preW t (wordK 0) = true → (⟨(Lib.trimPrefix t.data.toList (⟨#[80, 97, 116, 104, 61]⟩ : ByteArray).data.toList).toArray⟩ : ByteArray) = cutW t (wordK 0)) := fun h => trim_pre (w := wordK 0) h
          have HXZ : Hid ((cutW t (wordK 0)).size ≤ 1000000000) := Nat.le_trans (cutW_size _ _) htz
          obtain ⟨X, hX⟩ : ∃ X, (⟨(Lib.trimPrefix t.data.toList (⟨#[80, 97, 116, 104, 61]⟩ : ByteArray).data.toList).toArray⟩ : ByteArray) = X := ⟨_, rfl⟩
          obtain ⟨is, his⟩ : ∃ is, preW t (wordK 0) = is := ⟨_, rfl⟩
          rw [hX, his] at H6
          rw [hX, his] at HTP
          rw [his] at HNX1 HNX2
          have HN1 : Hid _ := HNX1
          have HN2 : Hid _ := HNX2
          obtain ⟨mq, hmq⟩ : ∃ mq, q.length = mq := ⟨_, rfl⟩
          have HMQ : Hid _ := hmq
          rw [List.length_cons, hmq]
          have hm0 : ¬ (mq + 1 = 0) := by omega
          have hmz : (((mq : Int) + 1) == 0) = false := by simp; omega
          have hmb : (0 : Int) < (mq : Int) + 1 := by omega
          clear hX his hmq hrl htz HNX1 HNX2
          go_upto_region 6 with fail
          try rw [hV]
          go_wp2_with fail
          go_quiet (first | (go_at_call 71; exact Calls.quiet_of_same (H6.out _)))
          obtain ⟨V2, hV2⟩ : ∃ V2, V.drewN nq = V2 := ⟨_, rfl⟩
          have HCV2 : Hid (CkB V2 g5 c) := by rw [Hid, ← hV2]; exact HCV.out
          have HXV2 : Hid (CkB V2 w.heap.size ckN) := by rw [Hid, ← hV2]; exact HXV.out
          have HYV2 : Hid (V2.heap[gt]? = some (.cells tabA 57 (0, 0))) := by rw [Hid, ← hV2]; exact HYV.out
          have HGV2 : Hid (V2.heap[gT]? = W3.heap[gT]?) := by rw [Hid, ← hV2]; exact HGV.out
          have HRV2 : Hid (RestAt V2 gT o (t :: q)) := by rw [Hid, ← hV2]; exact HRV.out
          have HBV2 : Hid (Below w.heap.size w V2) := by rw [Hid, ← hV2]; exact below_drewN HBV.out _
          have z3 : V2.cell? ⟨wr.heap.size, 3, none⟩ = some (.func (.func 58) #[] #[]) := by rw [← hV2]; exact y3
          rw [hV2]
          clear hV2 hV y0 y3 r0c t0 t1 t2 t3
          cases is with
          | false =>
            go_wp2_with fail
            go_roundw
            case rel => exact ⟨1, c, t :: q, o, by omega, rfl, by rw [List.length_cons, HMQ.out], HN2.out rfl, HRV2.out, HRZ.out, HCV2.out, HYV2.out, HXV2.out, HGV2.out, HBV2.out⟩
            case measure => simp [intOf]
          | true =>
            have hXe := HTP.out rfl
            have H7 : Hid (∀ W : World, CkB W g5 c → _) := fun W hc => take_0 c g5 X W hc
            have HNN : Hid (rdS 1 C0 r0 = (takeK c X 0, q)) := by rw [Hid, hXe]; exact HN1.out rfl
            obtain ⟨V3, hV3⟩ : ∃ V3, setK V2 g5 X 0 = V3 := ⟨_, rfl⟩
            have HCV3 : Hid (CkB V3 g5 (takeK c X 0)) := by rw [Hid, ← hV3]; exact setK_box HCV2.out X 0
            have HXV3 : Hid (CkB V3 w.heap.size ckN) := by rw [Hid, ← hV3]; exact (setK_other _ _ _ _ _ (Ne.symm HNG.out.2.1)).trans HXV2.out
            have HYV3 : Hid (V3.heap[gt]? = some (.cells tabA 57 (0, 0))) := by rw [Hid, ← hV3]; exact (setK_other _ _ _ _ _ (Ne.symm HNG.out.2.2)).trans HYV2.out
            have HGV3 : Hid (V3.heap[gT]? = W3.heap[gT]?) := by rw [Hid, ← hV3]; exact (setK_other _ _ _ _ _ (Ne.symm HNG.out.1)).trans HGV2.out
            have HBV3 : Hid (Below w.heap.size w V3) := by rw [Hid, ← hV3]; exact setK_below HBV2.out (by have := HGC.out; omega) X 0
            have HRV3 : Hid (RestAt V3 gT o (t :: q)) := RestAt.keep HRV2.out (HGV3.out.trans HGV2.out.symm)
            clear hXe
            go_wp2_with fail
            refine (H7.out _ HCV2.out).mono ?_
            rintro e w5 ⟨⟨v5, rfl⟩, hw5⟩
            rw [hV3] at hw5
            rw [hw5]
            clear hw5 hV3 w5
            rcases Nat.eq_zero_or_pos mq with rfl | hmp
            · have HQ0 : Hid (q = []) := List.eq_nil_of_length_eq_zero HMQ.out
              go_wp2_with fail
              go_roundw
              case rel => exact ⟨1, _, [], o, by omega, rfl, rfl, by rw [Hid, HNN.out, HQ0.out], fun j z hj => by simp at hj, fun t ht => (by cases ht), HCV3.out, HYV3.out, HXV3.out, HGV3.out, HBV3.out⟩
              case measure => simp [intOf]
            · have q1 : ¬ (mq + 1 = 1) := by omega
              have q2 : mq + 1 - 1 = mq := by omega
              have q3 : (1 : Int) ≤ (mq : Int) + 1 := by omega
              go_wp2_with fail
              go_roundw
              case rel => exact ⟨1, _, q, o + 1, by omega, rfl, by rw [HMQ.out], HNN.out, RestAt.tail HRV3.out, fun t ht => HRZ.out t (List.mem_cons_of_mem _ ht), HCV3.out, HYV3.out, HXV3.out, HGV3.out, HBV3.out⟩
              case measure => simp [intOf]
      · have t0 : wr.cell? ⟨gt, 4, none⟩ = some (.string ⟨#[77, 97, 120, 45, 65, 103, 101, 61]⟩) := cell_of_block HY.out rfl
        have t1 : wr.cell? ⟨gt, 5, none⟩ = some (.func (.func 59) #[] #[]) := cell_of_block HY.out rfl
        have t2 : wr.cell? ⟨gt, 6, none⟩ = some (.func (.func 60) #[] #[]) := cell_of_block HY.out rfl
        have t3 : wr.cell? ⟨gt, 7, none⟩ = some (.func (.func 62) #[] #[]) := cell_of_block HY.out rfl
        obtain ⟨V, hV⟩ : ∃ V, wr.alloc (.cells #[.string ⟨#[77, 97, 120, 45, 65, 103, 101, 61]⟩, .func (.func 59) #[] #[], .func (.func 60) #[] #[], .func (.func 62) #[] #[]] 57) = V := ⟨_, rfl⟩
        have HCV : Hid (CkB V g5 c) := by rw [Hid, ← hV]; exact HC.out.alloc _
        have HXV : Hid (CkB V w.heap.size ckN) := by rw [Hid, ← hV]; exact HX.out.alloc _
        have HYV : Hid (V.heap[gt]? = some (.cells tabA 57 (0, 0))) := by rw [Hid, ← hV]; exact alloc_old HY.out
        have HPV : Hid (V.heap[wr.heap.size]? = some (.cells #[.string ⟨#[77, 97, 120, 45, 65, 103, 101, 61]⟩, .func (.func 59) #[] #[], .func (.func 60) #[] #[], .func (.func 62) #[] #[]] 57 (0, 0))) := by rw [Hid, ← hV]; exact block_alloc_at _ _
        have HBV : Hid (Below w.heap.size w V) := by rw [Hid, ← hV]; exact HB.out.alloc HB.out.size _
        have HGV : Hid (V.heap[gT]? = W3.heap[gT]?) := by rw [Hid, ← hV]; exact (((Below.refl wr.heap.size wr).alloc (Nat.le_refl _) _).block gT hgTl).trans HGG.out
        have HRV : Hid (RestAt V gT o r) := RestAt.keep HRA.out (HGV.out.trans HGG.out.symm)
        cases r with
        | nil =>
          have HRR : Hid (T = c) := by rw [Hid, HRS.out]; exact rdS_done 4 1 rfl HE.out
          obtain ⟨c0, c1, c2, c3, c4, c5, c6, c7⟩ := ck_cells HCV.out
          obtain ⟨k0, k1, k2, k3, k4, k5, k6, k7⟩ := ck_cells HXV.out
          have f0 := CkB.free HXV.out 0
          have f1 := CkB.free HXV.out 1
          have f2 := CkB.free HXV.out 2
          have f3 := CkB.free HXV.out 3
          have f4 := CkB.free HXV.out 4
          have f5 := CkB.free HXV.out 5
          have f6 := CkB.free HXV.out 6
          have f7 := CkB.free HXV.out 7
          simp only [ckN, ck0] at k0 k1 k2 k3 k4 k5 k6 k7
          obtain ⟨W9, hW9⟩ : ∃ W9, set8 V w.heap.size c = W9 := ⟨_, rfl⟩
          have HX9 : CkB W9 w.heap.size c := by rw [← hW9]; exact set8_box HXV.out c
          have HB9 : Hid (Below w.heap.size w W9) := by rw [Hid, ← hW9]; exact set8_below HBV.out (Nat.le_refl _) c
          obtain ⟨x0, x1, x2, x3, x4, x5, x6, x7⟩ := ck_cells HX9
          clear HX9
          unfold set8 at hW9
          go_upto_region 6 with fail
          try rw [hV]
          go_wp2_with fail
          try rw [hW9]
          refine bodyPost_ret (v := ckV c) ?_ rfl ⟨by rw [HRR.out], HB9.out⟩
          rw [results_cell1 rfl]
          unfold ckV
          go_simp
        | cons t q =>
          have hrl : RestAt V gT o (t :: q) := HRV.out
          have r0c : V.cell? ⟨gT, o, none⟩ = some (.string t) := hrl 0 t rfl
          have y0 : V.cell? ⟨wr.heap.size, 0, none⟩ = some (.string ⟨#[77, 97, 120, 45, 65, 103, 101, 61]⟩) := cell_of_block HPV.out rfl
          have y3 : V.cell? ⟨wr.heap.size, 3, none⟩ = some (.func (.func 62) #[] #[]) := cell_of_block HPV.out rfl
          obtain ⟨HNX1, HNX2⟩ := rdS_next HE.out
          have htz := HRZ.out t (List.mem_cons_self ..)
          have H6 : Hid (∀ W : World, _) := fun W => Tryd.strings_CutPrefix t ⟨#[77, 97, 120, 45, 65, 103, 101, 61]⟩ W
          rw [show Lib.hasPrefix t.data.toList (⟨#[77, 97, 120, 45, 65, 103, 101, 61]⟩ : ByteArray).data.toList = preW t (wordK 1) from rfl] at H6
          have HTP : Hid (preW t (wordK 1) = true → (⟨(Lib.trimPrefix t.data.toList (⟨#[77, 97, 120, 45, 65, 103, 101, 61]⟩ : ByteArray).data.toList).toArray⟩ : ByteArray) = cutW t (wordK 1)) := fun h => trim_pre (w := wordK 1) h
          have HXZ : Hid ((cutW t (wordK 1)).size ≤ 1000000000) := Nat.le_trans (cutW_size _ _) htz
          obtain ⟨X, hX⟩ : ∃ X, (⟨(Lib.trimPrefix t.data.toList (⟨#[77, 97, 120, 45, 65, 103, 101, 61]⟩ : ByteArray).data.toList).toArray⟩ : ByteArray) = X := ⟨_, rfl⟩
          obtain ⟨is, his⟩ : ∃ is, preW t (wordK 1) = is := ⟨_, rfl⟩
          rw [hX, his] at H6
          rw [hX, his] at HTP
          rw [his] at HNX1 HNX2
          have HN1 : Hid _ := HNX1
          have HN2 : Hid _ := HNX2
          obtain ⟨mq, hmq⟩ : ∃ mq, q.length = mq := ⟨_, rfl⟩
          have HMQ : Hid _ := hmq
          rw [List.length_cons, hmq]
          have hm0 : ¬ (mq + 1 = 0) := by omega
          have hmz : (((mq : Int) + 1) == 0) = false := by simp; omega
          have hmb : (0 : Int) < (mq : Int) + 1 := by omega
          clear hX his hmq hrl htz HNX1 HNX2
          go_upto_region 6 with fail
          try rw [hV]
          go_wp2_with fail
          go_quiet (first | (go_at_call 71; exact Calls.quiet_of_same (H6.out _)))
          obtain ⟨V2, hV2⟩ : ∃ V2, V.drewN nq = V2 := ⟨_, rfl⟩
          have HCV2 : Hid (CkB V2 g5 c) := by rw [Hid, ← hV2]; exact HCV.out
          have HXV2 : Hid (CkB V2 w.heap.size ckN) := by rw [Hid, ← hV2]; exact HXV.out
          have HYV2 : Hid (V2.heap[gt]? = some (.cells tabA 57 (0, 0))) := by rw [Hid, ← hV2]; exact HYV.out
          have HGV2 : Hid (V2.heap[gT]? = W3.heap[gT]?) := by rw [Hid, ← hV2]; exact HGV.out
          have HRV2 : Hid (RestAt V2 gT o (t :: q)) := by rw [Hid, ← hV2]; exact HRV.out
          have HBV2 : Hid (Below w.heap.size w V2) := by rw [Hid, ← hV2]; exact below_drewN HBV.out _
          have z3 : V2.cell? ⟨wr.heap.size, 3, none⟩ = some (.func (.func 62) #[] #[]) := by rw [← hV2]; exact y3
          rw [hV2]
          clear hV2 hV y0 y3 r0c t0 t1 t2 t3
          cases is with
          | false =>
            go_wp2_with fail
            go_roundw
            case rel => exact ⟨2, c, t :: q, o, by omega, rfl, by rw [List.length_cons, HMQ.out], HN2.out rfl, HRV2.out, HRZ.out, HCV2.out, HYV2.out, HXV2.out, HGV2.out, HBV2.out⟩
            case measure => simp [intOf]
          | true =>
            have hXe := HTP.out rfl
            have H7 : Hid (∀ W : World, CkB W g5 c → _) := fun W hc => take_1 c g5 X (by rw [hXe]; have := HXZ.out; omega) W hc
            have HNN : Hid (rdS 2 C0 r0 = (takeK c X 1, q)) := by rw [Hid, hXe]; exact HN1.out rfl
            obtain ⟨V3, hV3⟩ : ∃ V3, setK V2 g5 X 1 = V3 := ⟨_, rfl⟩
            have HCV3 : Hid (CkB V3 g5 (takeK c X 1)) := by rw [Hid, ← hV3]; exact setK_box HCV2.out X 1
            have HXV3 : Hid (CkB V3 w.heap.size ckN) := by rw [Hid, ← hV3]; exact (setK_other _ _ _ _ _ (Ne.symm HNG.out.2.1)).trans HXV2.out
            have HYV3 : Hid (V3.heap[gt]? = some (.cells tabA 57 (0, 0))) := by rw [Hid, ← hV3]; exact (setK_other _ _ _ _ _ (Ne.symm HNG.out.2.2)).trans HYV2.out
            have HGV3 : Hid (V3.heap[gT]? = W3.heap[gT]?) := by rw [Hid, ← hV3]; exact (setK_other _ _ _ _ _ (Ne.symm HNG.out.1)).trans HGV2.out
            have HBV3 : Hid (Below w.heap.size w V3) := by rw [Hid, ← hV3]; exact setK_below HBV2.out (by have := HGC.out; omega) X 1
            have HRV3 : Hid (RestAt V3 gT o (t :: q)) := RestAt.keep HRV2.out (HGV3.out.trans HGV2.out.symm)
            clear hXe
            go_wp2_with fail
            refine (H7.out _ HCV2.out).mono ?_
            rintro e w5 ⟨⟨v5, rfl⟩, hw5⟩
            rw [hV3] at hw5
            rw [hw5]
            clear hw5 hV3 w5
            rcases Nat.eq_zero_or_pos mq with rfl | hmp
            · have HQ0 : Hid (q = []) := List.eq_nil_of_length_eq_zero HMQ.out
              go_wp2_with fail
              go_roundw
              case rel => exact ⟨2, _, [], o, by omega, rfl, rfl, by rw [Hid, HNN.out, HQ0.out], fun j z hj => by simp at hj, fun t ht => (by cases ht), HCV3.out, HYV3.out, HXV3.out, HGV3.out, HBV3.out⟩
              case measure => simp [intOf]
            · have q1 : ¬ (mq + 1 = 1) := by omega
              have q2 : mq + 1 - 1 = mq := by omega
              have q3 : (1 : Int) ≤ (mq : Int) + 1 := by omega
              go_wp2_with fail
              go_roundw
              case rel => exact ⟨2, _, q, o + 1, by omega, rfl, by rw [HMQ.out], HNN.out, RestAt.tail HRV3.out, fun t ht => HRZ.out t (List.mem_cons_of_mem _ ht), HCV3.out, HYV3.out, HXV3.out, HGV3.out, HBV3.out⟩
              case measure => simp [intOf]
      · have t0 : wr.cell? ⟨gt, 8, none⟩ = some (.string ⟨#[72, 116, 116, 112, 79, 110, 108, 121]⟩) := cell_of_block HY.out rfl
        have t1 : wr.cell? ⟨gt, 9, none⟩ = some (.func (.func 64) #[] #[]) := cell_of_block HY.out rfl
        have t2 : wr.cell? ⟨gt, 10, none⟩ = some (.func (.func 55) #[] #[]) := cell_of_block HY.out rfl
        have t3 : wr.cell? ⟨gt, 11, none⟩ = some (.func (.func 65) #[] #[]) := cell_of_block HY.out rfl
        obtain ⟨V, hV⟩ : ∃ V, wr.alloc (.cells #[.string ⟨#[72, 116, 116, 112, 79, 110, 108, 121]⟩, .func (.func 64) #[] #[], .func (.func 55) #[] #[], .func (.func 65) #[] #[]] 57) = V := ⟨_, rfl⟩
        have HCV : Hid (CkB V g5 c) := by rw [Hid, ← hV]; exact HC.out.alloc _
        have HXV : Hid (CkB V w.heap.size ckN) := by rw [Hid, ← hV]; exact HX.out.alloc _
        have HYV : Hid (V.heap[gt]? = some (.cells tabA 57 (0, 0))) := by rw [Hid, ← hV]; exact alloc_old HY.out
        have HPV : Hid (V.heap[wr.heap.size]? = some (.cells #[.string ⟨#[72, 116, 116, 112, 79, 110, 108, 121]⟩, .func (.func 64) #[] #[], .func (.func 55) #[] #[], .func (.func 65) #[] #[]] 57 (0, 0))) := by rw [Hid, ← hV]; exact block_alloc_at _ _
        have HBV : Hid (Below w.heap.size w V) := by rw [Hid, ← hV]; exact HB.out.alloc HB.out.size _
        have HGV : Hid (V.heap[gT]? = W3.heap[gT]?) := by rw [Hid, ← hV]; exact (((Below.refl wr.heap.size wr).alloc (Nat.le_refl _) _).block gT hgTl).trans HGG.out
        have HRV : Hid (RestAt V gT o r) := RestAt.keep HRA.out (HGV.out.trans HGG.out.symm)
        cases r with
        | nil =>
          have HRR : Hid (T = c) := by rw [Hid, HRS.out]; exact rdS_done 3 2 rfl HE.out
          obtain ⟨c0, c1, c2, c3, c4, c5, c6, c7⟩ := ck_cells HCV.out
          obtain ⟨k0, k1, k2, k3, k4, k5, k6, k7⟩ := ck_cells HXV.out
          have f0 := CkB.free HXV.out 0
          have f1 := CkB.free HXV.out 1
          have f2 := CkB.free HXV.out 2
          have f3 := CkB.free HXV.out 3
          have f4 := CkB.free HXV.out 4
          have f5 := CkB.free HXV.out 5
          have f6 := CkB.free HXV.out 6
          have f7 := CkB.free HXV.out 7
          simp only [ckN, ck0] at k0 k1 k2 k3 k4 k5 k6 k7
          obtain ⟨W9, hW9⟩ : ∃ W9, set8 V w.heap.size c = W9 := ⟨_, rfl⟩
          have HX9 : CkB W9 w.heap.size c := by rw [← hW9]; exact set8_box HXV.out c
          have HB9 : Hid (Below w.heap.size w W9) := by rw [Hid, ← hW9]; exact set8_below HBV.out (Nat.le_refl _) c
          obtain ⟨x0, x1, x2, x3, x4, x5, x6, x7⟩ := ck_cells HX9
          clear HX9
          unfold set8 at hW9
          go_upto_region 6 with fail
          try rw [hV]
          go_wp2_with fail
          try rw [hW9]
          refine bodyPost_ret (v := ckV c) ?_ rfl ⟨by rw [HRR.out], HB9.out⟩
          rw [results_cell1 rfl]
          unfold ckV
          go_simp
        | cons t q =>
          have hrl : RestAt V gT o (t :: q) := HRV.out
          have r0c : V.cell? ⟨gT, o, none⟩ = some (.string t) := hrl 0 t rfl
          have y0 : V.cell? ⟨wr.heap.size, 0, none⟩ = some (.string ⟨#[72, 116, 116, 112, 79, 110, 108, 121]⟩) := cell_of_block HPV.out rfl
          have y3 : V.cell? ⟨wr.heap.size, 3, none⟩ = some (.func (.func 65) #[] #[]) := cell_of_block HPV.out rfl
          obtain ⟨HNX1, HNX2⟩ := rdS_next HE.out
          have htz := HRZ.out t (List.mem_cons_self ..)
          have H6 : Hid (∀ W : World, _) := fun W => Tryd.strings_CutPrefix t ⟨#[72, 116, 116, 112, 79, 110, 108, 121]⟩ W
          rw [show Lib.hasPrefix t.data.toList (⟨#[72, 116, 116, 112, 79, 110, 108, 121]⟩ : ByteArray).data.toList = preW t (wordK 2) from rfl] at H6
          have HTP : Hid (preW t (wordK 2) = true → (⟨(Lib.trimPrefix t.data.toList (⟨#[72, 116, 116, 112, 79, 110, 108, 121]⟩ : ByteArray).data.toList).toArray⟩ : ByteArray) = cutW t (wordK 2)) := fun h => trim_pre (w := wordK 2) h
          have HXZ : Hid ((cutW t (wordK 2)).size ≤ 1000000000) := Nat.le_trans (cutW_size _ _) htz
          obtain ⟨X, hX⟩ : ∃ X, (⟨(Lib.trimPrefix t.data.toList (⟨#[72, 116, 116, 112, 79, 110, 108, 121]⟩ : ByteArray).data.toList).toArray⟩ : ByteArray) = X := ⟨_, rfl⟩
          obtain ⟨is, his⟩ : ∃ is, preW t (wordK 2) = is := ⟨_, rfl⟩
          rw [hX, his] at H6
          rw [hX, his] at HTP
          rw [his] at HNX1 HNX2
          have HN1 : Hid _ := HNX1
          have HN2 : Hid _ := HNX2
          obtain ⟨mq, hmq⟩ : ∃ mq, q.length = mq := ⟨_, rfl⟩
          have HMQ : Hid _ := hmq
          rw [List.length_cons, hmq]
          have hm0 : ¬ (mq + 1 = 0) := by omega
          have hmz : (((mq : Int) + 1) == 0) = false := by simp; omega
          have hmb : (0 : Int) < (mq : Int) + 1 := by omega
          clear hX his hmq hrl htz HNX1 HNX2
          go_upto_region 6 with fail
          try rw [hV]
          go_wp2_with fail
          go_quiet (first | (go_at_call 71; exact Calls.quiet_of_same (H6.out _)))
          obtain ⟨V2, hV2⟩ : ∃ V2, V.drewN nq = V2 := ⟨_, rfl⟩
          have HCV2 : Hid (CkB V2 g5 c) := by rw [Hid, ← hV2]; exact HCV.out
          have HXV2 : Hid (CkB V2 w.heap.size ckN) := by rw [Hid, ← hV2]; exact HXV.out
          have HYV2 : Hid (V2.heap[gt]? = some (.cells tabA 57 (0, 0))) := by rw [Hid, ← hV2]; exact HYV.out
          have HGV2 : Hid (V2.heap[gT]? = W3.heap[gT]?) := by rw [Hid, ← hV2]; exact HGV.out
          have HRV2 : Hid (RestAt V2 gT o (t :: q)) := by rw [Hid, ← hV2]; exact HRV.out
          have HBV2 : Hid (Below w.heap.size w V2) := by rw [Hid, ← hV2]; exact below_drewN HBV.out _
          have z3 : V2.cell? ⟨wr.heap.size, 3, none⟩ = some (.func (.func 65) #[] #[]) := by rw [← hV2]; exact y3
          rw [hV2]
          clear hV2 hV y0 y3 r0c t0 t1 t2 t3
          cases is with
          | false =>
            go_wp2_with fail
            go_roundw
            case rel => exact ⟨3, c, t :: q, o, by omega, rfl, by rw [List.length_cons, HMQ.out], HN2.out rfl, HRV2.out, HRZ.out, HCV2.out, HYV2.out, HXV2.out, HGV2.out, HBV2.out⟩
            case measure => simp [intOf]
          | true =>
            have hXe := HTP.out rfl
            have H7 : Hid (∀ W : World, CkB W g5 c → _) := fun W hc => take_2 c g5 X W hc
            have HNN : Hid (rdS 3 C0 r0 = (takeK c X 2, q)) := by rw [Hid, hXe]; exact HN1.out rfl
            obtain ⟨V3, hV3⟩ : ∃ V3, setK V2 g5 X 2 = V3 := ⟨_, rfl⟩
            have HCV3 : Hid (CkB V3 g5 (takeK c X 2)) := by rw [Hid, ← hV3]; exact setK_box HCV2.out X 2
            have HXV3 : Hid (CkB V3 w.heap.size ckN) := by rw [Hid, ← hV3]; exact (setK_other _ _ _ _ _ (Ne.symm HNG.out.2.1)).trans HXV2.out
            have HYV3 : Hid (V3.heap[gt]? = some (.cells tabA 57 (0, 0))) := by rw [Hid, ← hV3]; exact (setK_other _ _ _ _ _ (Ne.symm HNG.out.2.2)).trans HYV2.out
            have HGV3 : Hid (V3.heap[gT]? = W3.heap[gT]?) := by rw [Hid, ← hV3]; exact (setK_other _ _ _ _ _ (Ne.symm HNG.out.1)).trans HGV2.out
            have HBV3 : Hid (Below w.heap.size w V3) := by rw [Hid, ← hV3]; exact setK_below HBV2.out (by have := HGC.out; omega) X 2
            have HRV3 : Hid (RestAt V3 gT o (t :: q)) := RestAt.keep HRV2.out (HGV3.out.trans HGV2.out.symm)
            clear hXe
            go_wp2_with fail
            refine (H7.out _ HCV2.out).mono ?_
            rintro e w5 ⟨⟨v5, rfl⟩, hw5⟩
            rw [hV3] at hw5
            rw [hw5]
            clear hw5 hV3 w5
            rcases Nat.eq_zero_or_pos mq with rfl | hmp
            · have HQ0 : Hid (q = []) := List.eq_nil_of_length_eq_zero HMQ.out
              go_wp2_with fail
              go_roundw
              case rel => exact ⟨3, _, [], o, by omega, rfl, rfl, by rw [Hid, HNN.out, HQ0.out], fun j z hj => by simp at hj, fun t ht => (by cases ht), HCV3.out, HYV3.out, HXV3.out, HGV3.out, HBV3.out⟩
              case measure => simp [intOf]
            · have q1 : ¬ (mq + 1 = 1) := by omega
              have q2 : mq + 1 - 1 = mq := by omega
              have q3 : (1 : Int) ≤ (mq : Int) + 1 := by omega
              go_wp2_with fail
              go_roundw
              case rel => exact ⟨3, _, q, o + 1, by omega, rfl, by rw [HMQ.out], HNN.out, RestAt.tail HRV3.out, fun t ht => HRZ.out t (List.mem_cons_of_mem _ ht), HCV3.out, HYV3.out, HXV3.out, HGV3.out, HBV3.out⟩
              case measure => simp [intOf]
      · have t0 : wr.cell? ⟨gt, 12, none⟩ = some (.string ⟨#[83, 101, 99, 117, 114, 101]⟩) := cell_of_block HY.out rfl
        have t1 : wr.cell? ⟨gt, 13, none⟩ = some (.func (.func 66) #[] #[]) := cell_of_block HY.out rfl
        have t2 : wr.cell? ⟨gt, 14, none⟩ = some (.func (.func 55) #[] #[]) := cell_of_block HY.out rfl
        have t3 : wr.cell? ⟨gt, 15, none⟩ = some (.func (.func 67) #[] #[]) := cell_of_block HY.out rfl
        obtain ⟨V, hV⟩ : ∃ V, wr.alloc (.cells #[.string ⟨#[83, 101, 99, 117, 114, 101]⟩, .func (.func 66) #[] #[], .func (.func 55) #[] #[], .func (.func 67) #[] #[]] 57) = V := ⟨_, rfl⟩
        have HCV : Hid (CkB V g5 c) := by rw [Hid, ← hV]; exact HC.out.alloc _
        have HXV : Hid (CkB V w.heap.size ckN) := by rw [Hid, ← hV]; exact HX.out.alloc _
        have HYV : Hid (V.heap[gt]? = some (.cells tabA 57 (0, 0))) := by rw [Hid, ← hV]; exact alloc_old HY.out
        have HPV : Hid (V.heap[wr.heap.size]? = some (.cells #[.string ⟨#[83, 101, 99, 117, 114, 101]⟩, .func (.func 66) #[] #[], .func (.func 55) #[] #[], .func (.func 67) #[] #[]] 57 (0, 0))) := by rw [Hid, ← hV]; exact block_alloc_at _ _
        have HBV : Hid (Below w.heap.size w V) := by rw [Hid, ← hV]; exact HB.out.alloc HB.out.size _
        have HGV : Hid (V.heap[gT]? = W3.heap[gT]?) := by rw [Hid, ← hV]; exact (((Below.refl wr.heap.size wr).alloc (Nat.le_refl _) _).block gT hgTl).trans HGG.out
        have HRV : Hid (RestAt V gT o r) := RestAt.keep HRA.out (HGV.out.trans HGG.out.symm)
        cases r with
        | nil =>
          have HRR : Hid (T = c) := by rw [Hid, HRS.out]; exact rdS_done 2 3 rfl HE.out
          obtain ⟨c0, c1, c2, c3, c4, c5, c6, c7⟩ := ck_cells HCV.out
          obtain ⟨k0, k1, k2, k3, k4, k5, k6, k7⟩ := ck_cells HXV.out
          have f0 := CkB.free HXV.out 0
          have f1 := CkB.free HXV.out 1
          have f2 := CkB.free HXV.out 2
          have f3 := CkB.free HXV.out 3
          have f4 := CkB.free HXV.out 4
          have f5 := CkB.free HXV.out 5
          have f6 := CkB.free HXV.out 6
          have f7 := CkB.free HXV.out 7
          simp only [ckN, ck0] at k0 k1 k2 k3 k4 k5 k6 k7
          obtain ⟨W9, hW9⟩ : ∃ W9, set8 V w.heap.size c = W9 := ⟨_, rfl⟩
          have HX9 : CkB W9 w.heap.size c := by rw [← hW9]; exact set8_box HXV.out c
          have HB9 : Hid (Below w.heap.size w W9) := by rw [Hid, ← hW9]; exact set8_below HBV.out (Nat.le_refl _) c
          obtain ⟨x0, x1, x2, x3, x4, x5, x6, x7⟩ := ck_cells HX9
          clear HX9
          unfold set8 at hW9
          go_upto_region 6 with fail
          try rw [hV]
          go_wp2_with fail
          try rw [hW9]
          refine bodyPost_ret (v := ckV c) ?_ rfl ⟨by rw [HRR.out], HB9.out⟩
          rw [results_cell1 rfl]
          unfold ckV
          go_simp
        | cons t q =>
          have hrl : RestAt V gT o (t :: q) := HRV.out
          have r0c : V.cell? ⟨gT, o, none⟩ = some (.string t) := hrl 0 t rfl
          have y0 : V.cell? ⟨wr.heap.size, 0, none⟩ = some (.string ⟨#[83, 101, 99, 117, 114, 101]⟩) := cell_of_block HPV.out rfl
          have y3 : V.cell? ⟨wr.heap.size, 3, none⟩ = some (.func (.func 67) #[] #[]) := cell_of_block HPV.out rfl
          obtain ⟨HNX1, HNX2⟩ := rdS_next HE.out
          have htz := HRZ.out t (List.mem_cons_self ..)
          have H6 : Hid (∀ W : World, _) := fun W => Tryd.strings_CutPrefix t ⟨#[83, 101, 99, 117, 114, 101]⟩ W
          rw [show Lib.hasPrefix t.data.toList (⟨#[83, 101, 99, 117, 114, 101]⟩ : ByteArray).data.toList = preW t (wordK 3) from rfl] at H6
          have HTP : Hid (preW t (wordK 3) = true → (⟨(Lib.trimPrefix t.data.toList (⟨#[83, 101, 99, 117, 114, 101]⟩ : ByteArray).data.toList).toArray⟩ : ByteArray) = cutW t (wordK 3)) := fun h => trim_pre (w := wordK 3) h
          have HXZ : Hid ((cutW t (wordK 3)).size ≤ 1000000000) := Nat.le_trans (cutW_size _ _) htz
          obtain ⟨X, hX⟩ : ∃ X, (⟨(Lib.trimPrefix t.data.toList (⟨#[83, 101, 99, 117, 114, 101]⟩ : ByteArray).data.toList).toArray⟩ : ByteArray) = X := ⟨_, rfl⟩
          obtain ⟨is, his⟩ : ∃ is, preW t (wordK 3) = is := ⟨_, rfl⟩
          rw [hX, his] at H6
          rw [hX, his] at HTP
          rw [his] at HNX1 HNX2
          have HN1 : Hid _ := HNX1
          have HN2 : Hid _ := HNX2
          obtain ⟨mq, hmq⟩ : ∃ mq, q.length = mq := ⟨_, rfl⟩
          have HMQ : Hid _ := hmq
          rw [List.length_cons, hmq]
          have hm0 : ¬ (mq + 1 = 0) := by omega
          have hmz : (((mq : Int) + 1) == 0) = false := by simp; omega
          have hmb : (0 : Int) < (mq : Int) + 1 := by omega
          clear hX his hmq hrl htz HNX1 HNX2
          go_upto_region 6 with fail
          try rw [hV]
          go_wp2_with fail
          go_quiet (first | (go_at_call 71; exact Calls.quiet_of_same (H6.out _)))
          obtain ⟨V2, hV2⟩ : ∃ V2, V.drewN nq = V2 := ⟨_, rfl⟩
          have HCV2 : Hid (CkB V2 g5 c) := by rw [Hid, ← hV2]; exact HCV.out
          have HXV2 : Hid (CkB V2 w.heap.size ckN) := by rw [Hid, ← hV2]; exact HXV.out
          have HYV2 : Hid (V2.heap[gt]? = some (.cells tabA 57 (0, 0))) := by rw [Hid, ← hV2]; exact HYV.out
          have HGV2 : Hid (V2.heap[gT]? = W3.heap[gT]?) := by rw [Hid, ← hV2]; exact HGV.out
          have HRV2 : Hid (RestAt V2 gT o (t :: q)) := by rw [Hid, ← hV2]; exact HRV.out
          have HBV2 : Hid (Below w.heap.size w V2) := by rw [Hid, ← hV2]; exact below_drewN HBV.out _
          have z3 : V2.cell? ⟨wr.heap.size, 3, none⟩ = some (.func (.func 67) #[] #[]) := by rw [← hV2]; exact y3
          rw [hV2]
          clear hV2 hV y0 y3 r0c t0 t1 t2 t3
          cases is with
          | false =>
            go_wp2_with fail
            go_roundw
            case rel => exact ⟨4, c, t :: q, o, by omega, rfl, by rw [List.length_cons, HMQ.out], HN2.out rfl, HRV2.out, HRZ.out, HCV2.out, HYV2.out, HXV2.out, HGV2.out, HBV2.out⟩
            case measure => simp [intOf]
          | true =>
            have hXe := HTP.out rfl
            have H7 : Hid (∀ W : World, CkB W g5 c → _) := fun W hc => take_3 c g5 X W hc
            have HNN : Hid (rdS 4 C0 r0 = (takeK c X 3, q)) := by rw [Hid, hXe]; exact HN1.out rfl
            obtain ⟨V3, hV3⟩ : ∃ V3, setK V2 g5 X 3 = V3 := ⟨_, rfl⟩
            have HCV3 : Hid (CkB V3 g5 (takeK c X 3)) := by rw [Hid, ← hV3]; exact setK_box HCV2.out X 3
            have HXV3 : Hid (CkB V3 w.heap.size ckN) := by rw [Hid, ← hV3]; exact (setK_other _ _ _ _ _ (Ne.symm HNG.out.2.1)).trans HXV2.out
            have HYV3 : Hid (V3.heap[gt]? = some (.cells tabA 57 (0, 0))) := by rw [Hid, ← hV3]; exact (setK_other _ _ _ _ _ (Ne.symm HNG.out.2.2)).trans HYV2.out
            have HGV3 : Hid (V3.heap[gT]? = W3.heap[gT]?) := by rw [Hid, ← hV3]; exact (setK_other _ _ _ _ _ (Ne.symm HNG.out.1)).trans HGV2.out
            have HBV3 : Hid (Below w.heap.size w V3) := by rw [Hid, ← hV3]; exact setK_below HBV2.out (by have := HGC.out; omega) X 3
            have HRV3 : Hid (RestAt V3 gT o (t :: q)) := RestAt.keep HRV2.out (HGV3.out.trans HGV2.out.symm)
            clear hXe
            go_wp2_with fail
            refine (H7.out _ HCV2.out).mono ?_
            rintro e w5 ⟨⟨v5, rfl⟩, hw5⟩
            rw [hV3] at hw5
            rw [hw5]
            clear hw5 hV3 w5
            rcases Nat.eq_zero_or_pos mq with rfl | hmp
            · have HQ0 : Hid (q = []) := List.eq_nil_of_length_eq_zero HMQ.out
              go_wp2_with fail
              go_roundw
              case rel => exact ⟨4, _, [], o, by omega, rfl, rfl, by rw [Hid, HNN.out, HQ0.out], fun j z hj => by simp at hj, fun t ht => (by cases ht), HCV3.out, HYV3.out, HXV3.out, HGV3.out, HBV3.out⟩
              case measure => simp [intOf]
            · have q1 : ¬ (mq + 1 = 1) := by omega
              have q2 : mq + 1 - 1 = mq := by omega
              have q3 : (1 : Int) ≤ (mq : Int) + 1 := by omega
              go_wp2_with fail
              go_roundw
              case rel => exact ⟨4, _, q, o + 1, by omega, rfl, by rw [HMQ.out], HNN.out, RestAt.tail HRV3.out, fun t ht => HRZ.out t (List.mem_cons_of_mem _ ht), HCV3.out, HYV3.out, HXV3.out, HGV3.out, HBV3.out⟩
              case measure => simp [intOf]
      · have t0 : wr.cell? ⟨gt, 16, none⟩ = some (.string ⟨#[83, 97, 109, 101, 83, 105, 116, 101, 61]⟩) := cell_of_block HY.out rfl
        have t1 : wr.cell? ⟨gt, 17, none⟩ = some (.func (.func 68) #[] #[]) := cell_of_block HY.out rfl
        have t2 : wr.cell? ⟨gt, 18, none⟩ = some (.func (.func 69) #[] #[]) := cell_of_block HY.out rfl
        have t3 : wr.cell? ⟨gt, 19, none⟩ = some (.func (.func 70) #[] #[]) := cell_of_block HY.out rfl
        obtain ⟨V, hV⟩ : ∃ V, wr.alloc (.cells #[.string ⟨#[83, 97, 109, 101, 83, 105, 116, 101, 61]⟩, .func (.func 68) #[] #[], .func (.func 69) #[] #[], .func (.func 70) #[] #[]] 57) = V := ⟨_, rfl⟩
        have HCV : Hid (CkB V g5 c) := by rw [Hid, ← hV]; exact HC.out.alloc _
        have HXV : Hid (CkB V w.heap.size ckN) := by rw [Hid, ← hV]; exact HX.out.alloc _
        have HYV : Hid (V.heap[gt]? = some (.cells tabA 57 (0, 0))) := by rw [Hid, ← hV]; exact alloc_old HY.out
        have HPV : Hid (V.heap[wr.heap.size]? = some (.cells #[.string ⟨#[83, 97, 109, 101, 83, 105, 116, 101, 61]⟩, .func (.func 68) #[] #[], .func (.func 69) #[] #[], .func (.func 70) #[] #[]] 57 (0, 0))) := by rw [Hid, ← hV]; exact block_alloc_at _ _
        have HBV : Hid (Below w.heap.size w V) := by rw [Hid, ← hV]; exact HB.out.alloc HB.out.size _
        have HGV : Hid (V.heap[gT]? = W3.heap[gT]?) := by rw [Hid, ← hV]; exact (((Below.refl wr.heap.size wr).alloc (Nat.le_refl _) _).block gT hgTl).trans HGG.out
        have HRV : Hid (RestAt V gT o r) := RestAt.keep HRA.out (HGV.out.trans HGG.out.symm)
        cases r with
        | nil =>
          have HRR : Hid (T = c) := by rw [Hid, HRS.out]; exact rdS_done 1 4 rfl HE.out
          obtain ⟨c0, c1, c2, c3, c4, c5, c6, c7⟩ := ck_cells HCV.out
          obtain ⟨k0, k1, k2, k3, k4, k5, k6, k7⟩ := ck_cells HXV.out
          have f0 := CkB.free HXV.out 0
          have f1 := CkB.free HXV.out 1
          have f2 := CkB.free HXV.out 2
          have f3 := CkB.free HXV.out 3
          have f4 := CkB.free HXV.out 4
          have f5 := CkB.free HXV.out 5
          have f6 := CkB.free HXV.out 6
          have f7 := CkB.free HXV.out 7
          simp only [ckN, ck0] at k0 k1 k2 k3 k4 k5 k6 k7
          obtain ⟨W9, hW9⟩ : ∃ W9, set8 V w.heap.size c = W9 := ⟨_, rfl⟩
          have HX9 : CkB W9 w.heap.size c := by rw [← hW9]; exact set8_box HXV.out c
          have HB9 : Hid (Below w.heap.size w W9) := by rw [Hid, ← hW9]; exact set8_below HBV.out (Nat.le_refl _) c
          obtain ⟨x0, x1, x2, x3, x4, x5, x6, x7⟩ := ck_cells HX9
          clear HX9
          unfold set8 at hW9
          go_upto_region 6 with fail
          try rw [hV]
          go_wp2_with fail
          try rw [hW9]
          refine bodyPost_ret (v := ckV c) ?_ rfl ⟨by rw [HRR.out], HB9.out⟩
          rw [results_cell1 rfl]
          unfold ckV
          go_simp
        | cons t q =>
          have hrl : RestAt V gT o (t :: q) := HRV.out
          have r0c : V.cell? ⟨gT, o, none⟩ = some (.string t) := hrl 0 t rfl
          have y0 : V.cell? ⟨wr.heap.size, 0, none⟩ = some (.string ⟨#[83, 97, 109, 101, 83, 105, 116, 101, 61]⟩) := cell_of_block HPV.out rfl
          have y3 : V.cell? ⟨wr.heap.size, 3, none⟩ = some (.func (.func 70) #[] #[]) := cell_of_block HPV.out rfl
          obtain ⟨HNX1, HNX2⟩ := rdS_next HE.out
          have htz := HRZ.out t (List.mem_cons_self ..)
          have H6 : Hid (∀ W : World, _) := fun W => Tryd.strings_CutPrefix t ⟨#[83, 97, 109, 101, 83, 105, 116, 101, 61]⟩ W
          rw [show Lib.hasPrefix t.data.toList (⟨#[83, 97, 109, 101, 83, 105, 116, 101, 61]⟩ : ByteArray).data.toList = preW t (wordK 4) from rfl] at H6
          have HTP : Hid (preW t (wordK 4) = true → (⟨(Lib.trimPrefix t.data.toList (⟨#[83, 97, 109, 101, 83, 105, 116, 101, 61]⟩ : ByteArray).data.toList).toArray⟩ : ByteArray) = cutW t (wordK 4)) := fun h => trim_pre (w := wordK 4) h
          have HXZ : Hid ((cutW t (wordK 4)).size ≤ 1000000000) := Nat.le_trans (cutW_size _ _) htz
          obtain ⟨X, hX⟩ : ∃ X, (⟨(Lib.trimPrefix t.data.toList (⟨#[83, 97, 109, 101, 83, 105, 116, 101, 61]⟩ : ByteArray).data.toList).toArray⟩ : ByteArray) = X := ⟨_, rfl⟩
          obtain ⟨is, his⟩ : ∃ is, preW t (wordK 4) = is := ⟨_, rfl⟩
          rw [hX, his] at H6
          rw [hX, his] at HTP
          rw [his] at HNX1 HNX2
          have HN1 : Hid _ := HNX1
          have HN2 : Hid _ := HNX2
          obtain ⟨mq, hmq⟩ : ∃ mq, q.length = mq := ⟨_, rfl⟩
          have HMQ : Hid _ := hmq
          rw [List.length_cons, hmq]
          have hm0 : ¬ (mq + 1 = 0) := by omega
          have hmz : (((mq : Int) + 1) == 0) = false := by simp; omega
          have hmb : (0 : Int) < (mq : Int) + 1 := by omega
          clear hX his hmq hrl htz HNX1 HNX2
          go_upto_region 6 with fail
          try rw [hV]
          go_wp2_with fail
          go_quiet (first | (go_at_call 71; exact Calls.quiet_of_same (H6.out _)))
          obtain ⟨V2, hV2⟩ : ∃ V2, V.drewN nq = V2 := ⟨_, rfl⟩
          have HCV2 : Hid (CkB V2 g5 c) := by rw [Hid, ← hV2]; exact HCV.out
          have HXV2 : Hid (CkB V2 w.heap.size ckN) := by rw [Hid, ← hV2]; exact HXV.out
          have HYV2 : Hid (V2.heap[gt]? = some (.cells tabA 57 (0, 0))) := by rw [Hid, ← hV2]; exact HYV.out
          have HGV2 : Hid (V2.heap[gT]? = W3.heap[gT]?) := by rw [Hid, ← hV2]; exact HGV.out
          have HRV2 : Hid (RestAt V2 gT o (t :: q)) := by rw [Hid, ← hV2]; exact HRV.out
          have HBV2 : Hid (Below w.heap.size w V2) := by rw [Hid, ← hV2]; exact below_drewN HBV.out _
          have z3 : V2.cell? ⟨wr.heap.size, 3, none⟩ = some (.func (.func 70) #[] #[]) := by rw [← hV2]; exact y3
          rw [hV2]
          clear hV2 hV y0 y3 r0c t0 t1 t2 t3
          cases is with
          | false =>
            go_wp2_with fail
            go_roundw
            case rel => exact ⟨5, c, t :: q, o, by omega, rfl, by rw [List.length_cons, HMQ.out], HN2.out rfl, HRV2.out, HRZ.out, HCV2.out, HYV2.out, HXV2.out, HGV2.out, HBV2.out⟩
            case measure => simp [intOf]
          | true =>
            have hXe := HTP.out rfl
            have H7 : Hid (∀ W : World, CkB W g5 c → _) := fun W hc => take_4 c g5 X W hc
            have HNN : Hid (rdS 5 C0 r0 = (takeK c X 4, q)) := by rw [Hid, hXe]; exact HN1.out rfl
            obtain ⟨V3, hV3⟩ : ∃ V3, setK V2 g5 X 4 = V3 := ⟨_, rfl⟩
            have HCV3 : Hid (CkB V3 g5 (takeK c X 4)) := by rw [Hid, ← hV3]; exact setK_box HCV2.out X 4
            have HXV3 : Hid (CkB V3 w.heap.size ckN) := by rw [Hid, ← hV3]; exact (setK_other _ _ _ _ _ (Ne.symm HNG.out.2.1)).trans HXV2.out
            have HYV3 : Hid (V3.heap[gt]? = some (.cells tabA 57 (0, 0))) := by rw [Hid, ← hV3]; exact (setK_other _ _ _ _ _ (Ne.symm HNG.out.2.2)).trans HYV2.out
            have HGV3 : Hid (V3.heap[gT]? = W3.heap[gT]?) := by rw [Hid, ← hV3]; exact (setK_other _ _ _ _ _ (Ne.symm HNG.out.1)).trans HGV2.out
            have HBV3 : Hid (Below w.heap.size w V3) := by rw [Hid, ← hV3]; exact setK_below HBV2.out (by have := HGC.out; omega) X 4
            have HRV3 : Hid (RestAt V3 gT o (t :: q)) := RestAt.keep HRV2.out (HGV3.out.trans HGV2.out.symm)
            clear hXe
            go_wp2_with fail
            refine (H7.out _ HCV2.out).mono ?_
            rintro e w5 ⟨⟨v5, rfl⟩, hw5⟩
            rw [hV3] at hw5
            rw [hw5]
            clear hw5 hV3 w5
            rcases Nat.eq_zero_or_pos mq with rfl | hmp
            · have HQ0 : Hid (q = []) := List.eq_nil_of_length_eq_zero HMQ.out
              go_wp2_with fail
              go_roundw
              case rel => exact ⟨5, _, [], o, by omega, rfl, rfl, by rw [Hid, HNN.out, HQ0.out], fun j z hj => by simp at hj, fun t ht => (by cases ht), HCV3.out, HYV3.out, HXV3.out, HGV3.out, HBV3.out⟩
              case measure => simp [intOf]
            · have q1 : ¬ (mq + 1 = 1) := by omega
              have q2 : mq + 1 - 1 = mq := by omega
              have q3 : (1 : Int) ≤ (mq : Int) + 1 := by omega
              go_wp2_with fail
              go_roundw
              case rel => exact ⟨5, _, q, o + 1, by omega, rfl, by rw [HMQ.out], HNN.out, RestAt.tail HRV3.out, fun t ht => HRZ.out t (List.mem_cons_of_mem _ ht), HCV3.out, HYV3.out, HXV3.out, HGV3.out, HBV3.out⟩
              case measure => simp [intOf]
      · have HRR : Hid (T = c) := by rw [Hid, HRS.out, HE.out]
        obtain ⟨c0, c1, c2, c3, c4, c5, c6, c7⟩ := ck_cells HC.out
        obtain ⟨k0, k1, k2, k3, k4, k5, k6, k7⟩ := ck_cells HX.out
        have f0 := CkB.free HX.out 0
        have f1 := CkB.free HX.out 1
        have f2 := CkB.free HX.out 2
        have f3 := CkB.free HX.out 3
        have f4 := CkB.free HX.out 4
        have f5 := CkB.free HX.out 5
        have f6 := CkB.free HX.out 6
        have f7 := CkB.free HX.out 7
        simp only [ckN, ck0] at k0 k1 k2 k3 k4 k5 k6 k7
        obtain ⟨W9, hW9⟩ : ∃ W9, set8 wr w.heap.size c = W9 := ⟨_, rfl⟩
        have HX9 : CkB W9 w.heap.size c := by rw [← hW9]; exact set8_box HX.out c
        have HB9 : Hid (Below w.heap.size w W9) := by rw [Hid, ← hW9]; exact set8_below HB.out (Nat.le_refl _) c
        obtain ⟨x0, x1, x2, x3, x4, x5, x6, x7⟩ := ck_cells HX9
        clear HX9
        unfold set8 at hW9
        go_wp2_with fail
        try rw [hW9]
        refine bodyPost_ret (v := ckV c) ?_ rfl ⟨by rw [HRR.out], HB9.out⟩
        rw [results_cell1 rfl]
        unfold ckV
        go_simp
end Go.Proofs.YtimabpfahhbadaaDoor
