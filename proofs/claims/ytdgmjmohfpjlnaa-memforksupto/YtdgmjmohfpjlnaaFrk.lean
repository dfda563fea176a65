/-
  The contracts of slices.Clone of nodes and of Fork.
-/
import Derived.Test.YtdgmjmohfpjlnaaRfk
import Derived.Lib.SliceRun
namespace Go.Proofs.Ytdgmjmohfpjlnaa
open Go.RowKit Go.Shelf
theorem rowL_one {cell : Nat → Cl} {nx : Nat → Nat → Nat} : ∀ {n : Nat}, ∀ u ∈ rowL n cell nx, u.oneCell' = true := by
  intro n u hu
  unfold rowL at hu
  obtain ⟨p, _, hp⟩ := List.mem_flatMap.1 hu
  exact ndL_one _ _ u hp
theorem row_nodes {W : World} {B n : Nat} {v : Value} {xs : List Value} (h : W.ownsRow B 68 16 v n xs) (hn : 0 < n) : ∃ b c, v = .slice (some ⟨b, 0, none⟩) n c := by
  rcases h.2 with ⟨rfl, h0⟩ | ⟨g, cap, cur, rfl, _⟩
  · obtain ⟨rfl, _⟩ := h0
    omega
  · exact ⟨_, _, rfl⟩
set_option maxRecDepth 100000 in
set_option maxHeartbeats 2000000 in
theorem clone_nodes (B b n cap : Nat) (xs : List Value) (w : World) (hrow : w.ownsRow B 68 16 (.slice (some ⟨b, 0, none⟩) n cap) n xs) (h1c : ∀ u ∈ xs, u.oneCell' = true) (hmx : n ≤ 100000000000) :
    Calls Try.prog 27 #[.slice (some ⟨b, 0, none⟩) n cap] w fun r w' => ∃ v, r = .returned v ∧ w'.ownsRow w.heap.size 68 16 v n xs ∧ Below w.heap.size w w' := by
  obtain ⟨i0, hi, hz0, hz1, hz2⟩ := info_parts info68
  have hq : ∀ (w : World) (a : Option Addr) (n c n' c' : Nat), (binOp .eql 57 (.slice a n c) (.slice none n' c')).run Try.prog w = .ok (.bool a.isNone) w := fun w a n c n' c' => Lib.run_eql_slice_nil w _ _ a n c n' c' Try.underlying57
  have b1 : Below w.heap.size w (w.alloc (.cells #[] 68)) := (Below.refl _ w).alloc (Nat.le_refl _) _
  have HB1 : Hid (Below w.heap.size w (w.alloc (.cells #[] 68))) := b1
  have HRX : Hid ((w.alloc (.cells #[] 68)).ownsRow w.heap.size 68 16 (.slice (some ⟨w.heap.size, 0, none⟩) 0 0) 0 []) := emp_new w _ _ _ (Nat.le_refl _)
  have HNC : Hid (∀ j u, xs[j]? = some u → (w.alloc (.cells #[] 68)).cell? ((⟨b, 0, none⟩ : Addr).add j) = some u) := fun j u hj => by
    have hl : j < n * 16 := by have := (List.getElem?_eq_some_iff.1 hj).1; rw [hrow.1] at this; exact this
    have := World.ownsRow.cellAt (rowal (o := .cells #[] 68) hrow rfl) j hl
    rw [hj] at this
    rw [addr_addC, Nat.zero_add]
    exact this
  have HLF : Hid (xs.length = n * 16) := hrow.1
  have h1 : 0 + n ≤ maxLen := by unfold maxLen; omega
  have h2 : (0 + n) * 144 ≤ 140737488355328 := by omega
  have h3 : w.heap.size ≤ (w.alloc (.cells #[] 68)).heap.size := by simp
  clear hrow hmx b1
  go_enter Try.func27, Try.ntmps27
  go_wp2_with (at_builtin; refine wpList_append_own _ rfl _ _ 57 rfl w.heap.size 68 i0 (.agg (ndL cl0 (fun _ => 0)).toArray) 16 144 Try.underlying57 hi hz0 hz1 hz2 rfl (by decide) _ _ _ rfl HRX.out ⟨b, 0, none⟩ n cap xs rfl HLF.out HNC.out h1c h1 h2 h3 ?_; intro v2 w3 hown2 hg2 _; have HE : Hid (w3.ownsRow w.heap.size 68 16 v2 n xs ∧ Below w.heap.size w w3) := ⟨(by rw [List.nil_append] at hown2; have := hown2; simpa using this), HB1.out.grown hg2 h3 (fun k e => (World.ownsRow.lt HRX.out k e).1)⟩; clear hown2 hg2)
  go_ret
  exact ⟨_, rfl, HE.out⟩
set_option maxRecDepth 20000 in
set_option maxHeartbeats 8000000 in
theorem fork_any (B g b cap : Nat) (t : St) (w : World) (h : MA B w g b cap t) :
    Calls Try.prog 11 #[.pointer (some ⟨g, 0, none⟩)] w fun e w' => ∃ g' b' cap', e = .returned (.pointer (some ⟨g', 0, none⟩)) ∧ MA w.heap.size w' g' b' cap' t ∧ Below w.heap.size w w' := by
  obtain ⟨s, hs⟩ : ∃ s, w.heap.size = s := ⟨_, rfl⟩
  have HM : ∀ V, Below s w V → MA B V g b cap t := fun V hV => h.below (by rw [hs]; exact hV)
  obtain ⟨N, hN⟩ : ∃ N, t.n = N := ⟨_, rfl⟩
  obtain ⟨sz, hsz⟩ : ∃ q, t.size = q := ⟨_, rfl⟩
  have HS : Hid (∀ V, Below s w V → V.cell? ⟨g, 1, none⟩ = some (.slice (some ⟨b, 0, none⟩) N cap) ∧ V.cell? ⟨g, 2, none⟩ = some (.int .i64 (sz : Nat))) := fun V hV => by rw [← hN, ← hsz]; exact (HM V hV).hd.2
  have HCN : Hid (∀ V, Below s w V → Calls Try.prog 27 #[.slice (some ⟨b, 0, none⟩) N cap] V fun r w' => ∃ v, r = .returned v ∧ w'.ownsRow V.heap.size 68 16 v N (rowL t.n t.cell t.nx) ∧ Below V.heap.size V w') := fun V hV => by
    rw [← hN]
    exact clone_nodes B b t.n cap _ V (HM V hV).row rowL_one (by have := h.small; omega)
  have HN : Hid (0 < N ∧ t.n = N ∧ t.size = sz ∧ Rep t.n t.cell t.nx t.E ∧ t.n ≤ 1000000000) := ⟨by have := h.rep.size; omega, hN, hsz, h.rep, h.small⟩
  have HCL : Hid (∀ _ : Unit, _) := fun _ => closed_no g w h.hd.1
  have HZ : Hid (w.heap.size = s) := hs
  rw [hs]
  have bW : Below s w w.drew := (Below.refl _ _).drew
  clear h hs HM hN hsz
  go_enter Try.func11, Try.ntmps11
  go_wp2_with fail
  refine (HCL.out ()).mono ?_
  rintro e w1 ⟨rfl, hw1⟩
  rw [hw1]
  clear hw1 w1
  go_wp2_with fail
  obtain ⟨X0, hX0⟩ : ∃ V, w.drew = V := ⟨_, rfl⟩
  refine wp_region_held_drew (S := fun W => W.cell? ⟨g, 1, none⟩ = some (.slice (some ⟨b, 0, none⟩) N cap) ∧ W.cell? ⟨g, 2, none⟩ = some (.int .i64 (sz : Nat))) (by kernel_rfl) (HS.out _ bW) (fun hHeld => ?_)
  rw [hX0] at hHeld bW ⊢
  have bX0 := bW
  clear bW hX0
  refine wpAnyH_take (i := 0) (oi := ({ dst := some 6, op := Op.move (Operand.tmp 0), type := 23, pos := "mem.go:144", after := #[], guard := none } : Oper)) (v := ?_) rfl (by kernel_rfl) (by kernel_rfl) (by kernel_rfl) (fun _ _ _ h => h) (Or.inl ⟨by rfl, ?_⟩) (by assumption) ?_
  rotate_left
  · (intro w hSw; (try dsimp only at hSw); go_simp; try with_reducible rfl)
  try simp only [Act.put, List.setIfInBounds_toArray, List.set_cons_zero, List.set_cons_succ]
  refine wpAnyH_take (i := 1) (oi := ({ dst := some 7, op := Op.nilCheck (Operand.tmp 6), type := 0, pos := "mem.go:144", after := #[{ on := 0, ground := Ground.data }], guard := none } : Oper)) (v := ?_) rfl (by kernel_rfl) (by kernel_rfl) (by kernel_rfl) (fun _ _ _ h => h) (Or.inl ⟨by rfl, ?_⟩) (by assumption) ?_
  rotate_left
  · (intro w hSw; (try dsimp only at hSw); go_simp; try with_reducible rfl)
  try simp only [Act.put, List.setIfInBounds_toArray, List.set_cons_zero, List.set_cons_succ]
  refine wpAnyH_take (i := 2) (oi := ({ dst := some 8, op := Op.fieldAddr 59 (Operand.tmp 7) 1, type := 0, pos := "mem.go:144", after := #[{ on := 1, ground := Ground.data }], guard := none } : Oper)) (v := ?_) rfl (by kernel_rfl) (by kernel_rfl) (by kernel_rfl) (fun _ _ _ h => h) (Or.inl ⟨by rfl, ?_⟩) (by assumption) ?_
  rotate_left
  · (intro w hSw; (try dsimp only at hSw); go_simp; try with_reducible rfl)
  try simp only [Act.put, List.setIfInBounds_toArray, List.set_cons_zero, List.set_cons_succ]
  refine wpAnyH_take (i := 3) (oi := ({ dst := some 9, op := Op.load 57 (Operand.tmp 8), type := 57, pos := "mem.go:144", after := #[{ on := 2, ground := Ground.data }], guard := none } : Oper)) (v := ?_) rfl (by kernel_rfl) (by kernel_rfl) (by kernel_rfl) (fun _ _ _ h => h) (Or.inl ⟨by rfl, ?_⟩) (by assumption) ?_
  rotate_left
  · (intro w hSw; (try dsimp only at hSw); go_simp; try with_reducible rfl)
  try simp only [Act.put, List.setIfInBounds_toArray, List.set_cons_zero, List.set_cons_succ]
  refine wpAnyH_take (i := 5) (oi := ({ dst := some 11, op := Op.move (Operand.tmp 0), type := 23, pos := "mem.go:144", after := #[], guard := none } : Oper)) (v := ?_) rfl (by kernel_rfl) (by kernel_rfl) (by kernel_rfl) (fun _ _ _ h => h) (Or.inl ⟨by rfl, ?_⟩) (by assumption) ?_
  rotate_left
  · (intro w hSw; (try dsimp only at hSw); go_simp; try with_reducible rfl)
  try simp only [Act.put, List.setIfInBounds_toArray, List.set_cons_zero, List.set_cons_succ]
  refine wpAnyH_take (i := 6) (oi := ({ dst := some 12, op := Op.nilCheck (Operand.tmp 11), type := 0, pos := "mem.go:144", after := #[{ on := 5, ground := Ground.data }], guard := none } : Oper)) (v := ?_) rfl (by kernel_rfl) (by kernel_rfl) (by kernel_rfl) (fun _ _ _ h => h) (Or.inl ⟨by rfl, ?_⟩) (by assumption) ?_
  rotate_left
  · (intro w hSw; (try dsimp only at hSw); go_simp; try with_reducible rfl)
  try simp only [Act.put, List.setIfInBounds_toArray, List.set_cons_zero, List.set_cons_succ]
  refine wpAnyH_take (i := 7) (oi := ({ dst := some 13, op := Op.fieldAddr 59 (Operand.tmp 12) 2, type := 0, pos := "mem.go:144", after := #[{ on := 6, ground := Ground.data }], guard := none } : Oper)) (v := ?_) rfl (by kernel_rfl) (by kernel_rfl) (by kernel_rfl) (fun _ _ _ h => h) (Or.inl ⟨by rfl, ?_⟩) (by assumption) ?_
  rotate_left
  · (intro w hSw; (try dsimp only at hSw); go_simp; try with_reducible rfl)
  try simp only [Act.put, List.setIfInBounds_toArray, List.set_cons_zero, List.set_cons_succ]
  refine wpAnyH_take (i := 8) (oi := ({ dst := some 14, op := Op.load 3 (Operand.tmp 13), type := 3, pos := "mem.go:144", after := #[{ on := 7, ground := Ground.data }], guard := none } : Oper)) (v := ?_) rfl (by kernel_rfl) (by kernel_rfl) (by kernel_rfl) (fun _ _ _ h => h) (Or.inl ⟨by rfl, ?_⟩) (by assumption) ?_
  rotate_left
  · (intro w hSw; (try dsimp only at hSw); go_simp; try with_reducible rfl)
  try simp only [Act.put, List.setIfInBounds_toArray, List.set_cons_zero, List.set_cons_succ]
  refine wpAnyH_ready (rs := [4]) (by kernel_rfl) (by simp) ?_
  refine AllReadyH.cons rfl (fun K hK => ?_) AllReadyH.nil
  go_simp
  go_wp2_with (go_at_call 27; refine (HCN.out _ bX0).mono ?_; rintro e X1 ⟨v, rfl, hrow, b1⟩; have bX1 : Below s w X1 := bX0.trans (b1.mono (le_s HZ.out bX0)); obtain ⟨v1, cv, rfl⟩ := row_nodes hrow HN.out.1)
  refine hK.out _ _ (HS.out _ bX1) (fun hHeld => ?_)
  clear hK K
  refine wpAnyH_take (i := 9) (oi := ({ dst := some 15, op := Op.build 59 #[(1, Operand.tmp 10), (2, Operand.tmp 14)], type := 59, pos := "mem.go:144", after := #[{ on := 4, ground := Ground.data }, { on := 8, ground := Ground.data }], guard := none } : Oper)) (v := ?_) rfl (by kernel_rfl) (by kernel_rfl) (by kernel_rfl) (fun _ _ _ h => h) (Or.inl ⟨by rfl, ?_⟩) (by assumption) ?_
  rotate_left
  · (intro w hSw; (try dsimp only at hSw); go_simp; try with_reducible rfl)
  try simp only [Act.put, List.setIfInBounds_toArray, List.set_cons_zero, List.set_cons_succ]
  refine wpAnyH_ready (rs := [10]) (by kernel_rfl) (by simp) ?_
  refine AllReadyH.cons rfl (fun K hK => ?_) AllReadyH.nil
  go_simp
  refine hK.out _ _ (HS.out _ (bX1.alloc (le_s HZ.out bX1) _)) (fun hHeld => ?_)
  clear hK K
  refine wpAnyH_take (i := 11) (oi := ({ dst := some 3, op := Op.assign (Operand.tmp 16), type := 23, pos := "mem.go:144", after := #[{ on := 10, ground := Ground.data }, { on := 4, ground := Ground.chain }, { on := 0, ground := Ground.phase }, { on := 1, ground := Ground.phase }, { on := 2, ground := Ground.phase }, { on := 3, ground := Ground.phase }, { on := 4, ground := Ground.phase }, { on := 5, ground := Ground.phase }, { on := 6, ground := Ground.phase }, { on := 7, ground := Ground.phase }, { on := 8, ground := Ground.phase }, { on := 9, ground := Ground.phase }, { on := 10, ground := Ground.phase }], guard := none } : Oper)) (v := ?_) rfl (by kernel_rfl) (by kernel_rfl) (by kernel_rfl) (fun _ _ _ h => h) (Or.inl ⟨by rfl, ?_⟩) (by assumption) ?_
  rotate_left
  · (intro w hSw; (try dsimp only at hSw); go_simp; try with_reducible rfl)
  try simp only [Act.put, List.setIfInBounds_toArray, List.set_cons_zero, List.set_cons_succ]
  refine wpAnyH_done (by kernel_rfl) ?_ _
  obtain ⟨Y, hY⟩ : ∃ Y, X1.alloc (.cells #[.pointer none, .slice (some ⟨v1, 0, none⟩) N cv, .int .i64 ((sz : Nat) : Int)] 59) = Y := ⟨_, rfl⟩
  try rw [hY]
  have hz : s ≤ X1.heap.size := le_s HZ.out bX1
  have HBY : Hid (Below s w Y) := by rw [Hid, ← hY]; exact bX1.alloc hz _
  have hrY : Y.ownsRow X0.heap.size 68 16 (.slice (some ⟨v1, 0, none⟩) N cv) N (rowL t.n t.cell t.nx) := rowal hrow hY
  have hyb : Y.heap[X1.heap.size]? = some (.cells #[.pointer none, .slice (some ⟨v1, 0, none⟩) N cv, .int .i64 ((sz : Nat) : Int)] 59 (0, 0)) := by rw [← hY]; exact block_alloc_at _ _
  have hv1 : v1 < X1.heap.size := (World.ownsRow.lt hrow v1 rfl).2
  have hsb : s ≤ v1 := Nat.le_trans (le_s HZ.out bX0) (World.ownsRow.lt hrow v1 rfl).1
  obtain ⟨y, hy⟩ : ∃ y, X1.heap.size = y := ⟨_, rfl⟩
  rw [hy] at hyb hz hv1
  try rw [hy]
  have y0 : Y.cell? ⟨y, 0, none⟩ = some (.pointer none) := cell_of_block hyb rfl
  have y1 : Y.frozen? ⟨y, 0, none⟩ = false := free_of_block hyb _
  have HRY : Hid _ := hrY
  have HYB : Hid _ := hyb
  have hlb := le_s HZ.out bX0
  clear hrY hyb hy hY hHeld hrow
  go_wp2_with fail
  obtain ⟨Z, hZ⟩ : ∃ Z, Y.setCell ⟨y, 0, none⟩ (.pointer (some ⟨y, 0, none⟩)) = Z := ⟨_, rfl⟩
  try rw [hZ]
  have HFI : Hid (MA s Z y v1 cv t ∧ Below s w Z) := by
    obtain ⟨_, e1, e2, e3, e4⟩ := HN.out
    refine ⟨⟨?_, ?_, e3, by omega, by omega, e4⟩, by rw [← hZ]; exact HBY.out.setCell (p := ⟨y, 0, none⟩) (by show s ≤ y; omega) _⟩
    · rw [e1, e2, ← hZ]
      exact set_block HYB.out 0 (.pointer (some ⟨y, 0, none⟩))
    · rw [e1]
      have := HRY.out
      rw [e1] at this
      refine row_base (owns_same this (fun q hq => ?_)) hlb
      rw [← hZ]
      exact Below.heap_setCell _ _ _ _ (by simp only [Value.ownBlock, Option.some.injEq] at hq; show q ≠ y; omega)
  go_ret
  exact ⟨_, _, _, rfl, HFI.out⟩
end Go.Proofs.Ytdgmjmohfpjlnaa
