/-
  The twin's with: a list in order with one more cell.
-/
import Derived.Test.YtohamjoiohfoiaaCells
import Derived.Test.YtohamjoiohfoiaaClone
import Derived.Test.YtohamjoiohfoiaaCut2
import Derived.Test.YtohamjoiohfoiaaRVis
namespace Go.Proofs.Ytohamjoiohfoiaa
open Go.RowKit
/-- So many cells stand ahead. -/
def aheadN (l : List Cl) (c : Cl) : Nat := (l.takeWhile (fun x => lessC x c)).length
/-- A list with one more cell, if none is alike. -/
def insC (l : List Cl) (c : Cl) : List Cl := match l[aheadN l c]? with
  | some x => if lessC c x then l.take (aheadN l c) ++ (c :: l.drop (aheadN l c)) else l
  | none => l ++ [c]
theorem ahead_le (l : List Cl) (c : Cl) : aheadN l c ≤ l.length := (List.takeWhile_prefix _).length_le
theorem ins_len (l : List Cl) (c : Cl) : (insC l c).length ≤ l.length + 1 := by
  unfold insC
  split
  · split
    · have := ahead_le l c
      simp
      omega
    · omega
  · simp
theorem ahead_of {l : List Cl} {c : Cl} {k : Nat} (hk : k ≤ l.length) (h1 : ∀ j x, j < k → l[j]? = some x → lessC x c = true) (h2 : ∀ y, l[k]? = some y → lessC y c = false) : aheadN l c = k := tw_len l k hk h1 h2
theorem ins_here {l : List Cl} {c x : Cl} {k : Nat} (ha : aheadN l c = k) (hx : l[k]? = some x) (hl : lessC c x = true) : insC l c = l.take k ++ (c :: l.drop k) := by
  unfold insC
  rw [ha, hx]
  simp [hl]
theorem ins_there {l : List Cl} {c x : Cl} {k : Nat} (ha : aheadN l c = k) (hx : l[k]? = some x) (hl : lessC c x = false) : insC l c = l := by
  unfold insC
  rw [ha, hx]
  simp [hl]
theorem ins_end {l : List Cl} {c : Cl} {k : Nat} (ha : aheadN l c = k) (hx : l.length = k) : insC l c = l.take k ++ (c :: l.drop k) := by
  unfold insC
  rw [ha, List.getElem?_eq_none (by omega), ← hx, List.take_length, List.drop_length]
theorem new_cell (w : World) (c : Cl) : ∀ j u, (clL c)[j]? = some u → (w.alloc (.cells #[.string c.key, .int .u64 (c.seq : Nat), .string c.val, .bool c.gone] 24)).cell? ((⟨w.heap.size, 0, none⟩ : Addr).add j) = some u := fun j u h => by
  rw [addr_add, Nat.zero_add, cells_of_block (World.alloc_heap_new w _) j]
  simpa [clL] using h
/-- What with hands back. -/
def WithOut (w : World) (l : List Cl) (c : Cl) (r : Ending) (w' : World) : Prop := ∃ a' c', r = .returned (.slice a' (insC l c).length c') ∧ (insC l c).length ≤ c' ∧ CA w'.heap.size w' a' (insC l c) ∧ Below w.heap.size w w'
set_option maxRecDepth 100000 in
set_option maxHeartbeats 4000000 in
theorem with_some (b off n cp : Nat) (l : List Cl) (ck cv : ByteArray) (cs : Nat) (cg : Bool) (w : World) (hca : CA w.heap.size w (some ⟨b, off, none⟩) l) (hl : l.length = n) (hcp : n ≤ cp) (hn : n < 100000000) :
    Calls Try.prog 24 #[.slice (some ⟨b, off, none⟩) n cp, .agg #[.string ck, .int .u64 (cs : Nat), .string cv, .bool cg]] w (WithOut w l ⟨ck, cs, cv, cg⟩) := by
  obtain ⟨i0, hi, hz0, hz1, hz2⟩ := info_parts info24
  obtain ⟨W1, hW1⟩ : ∃ W1, W1 = w.alloc (.cells #[.string ck, .int .u64 (cs : Nat), .string cv, .bool cg] 24) := ⟨_, rfl⟩
  have HW1 : Hid (Below w.heap.size w W1) := by rw [hW1]; exact (Below.refl _ w).alloc (Nat.le_refl _) _
  have HZ1 : Hid (W1.heap.size = w.heap.size + 1) := by rw [hW1]; simp [Hid]
  have HC4 : Hid (∀ W, Below W1.heap.size W1 W → W.cell? ⟨w.heap.size, 0, none⟩ = some (.string ck) ∧ W.cell? ⟨w.heap.size, 1, none⟩ = some (.int .u64 (cs : Nat)) ∧ W.cell? ⟨w.heap.size, 2, none⟩ = some (.string cv) ∧ W.cell? ⟨w.heap.size, 3, none⟩ = some (.bool cg)) := fun W hW => by
    have hb : W.heap[w.heap.size]? = some (.cells #[.string ck, .int .u64 (cs : Nat), .string cv, .bool cg] 24 (0, 0)) := (hW.block _ (by rw [HZ1.out]; omega)).trans (by rw [hW1]; exact World.alloc_heap_new _ _)
    exact ⟨cells_of_block hb 0, cells_of_block hb 1, cells_of_block hb 2, cells_of_block hb 3⟩
  have HCA : Hid (∀ V, Below w.heap.size w V → CA V.heap.size V (some ⟨b, off, none⟩) l) := fun V hV => (hca.below (fun b hb => hV.block b hb)).up hV.size
  have HL : Hid (l.length = n) := hl
  have HCP : Hid (n ≤ cp) := hcp
  have HHW : Hid (W1 = w.alloc (.cells #[.string ck, .int .u64 (cs : Nat), .string cv, .bool cg] 24)) := hW1
  clear hca hl hW1 hcp
  go_enter Try.func24, Try.ntmps24
  go_wp2_with fail
  rw [← HHW.out]
  clear HHW
  go_loopw [5] (fun iv wr => ∃ k : Nat, k ≤ n ∧ iv = .int .i64 (k : Nat) ∧ Hid (∀ j x, j < k → l[j]? = some x → lessC x ⟨ck, cs, cv, cg⟩ = true) ∧ Hid (Below W1.heap.size W1 wr)) (fun iv _ => n - (intOf iv).toNat)
  case atStart => exact ⟨0, by omega, rfl, fun j x h => by omega, Below.refl _ _⟩
  case round =>
    obtain ⟨k, hk, rfl, HE, HB⟩ := hrel
    have HBW : Hid (Below w.heap.size w wr) := HW1.out.trans (HB.out.mono HW1.out.size)
    by_cases hkn : k < n
    · obtain ⟨x, hx⟩ : ∃ x, l[k]? = some x := ⟨l[k]'(by rw [HL.out]; exact hkn), List.getElem?_eq_getElem _⟩
      have HXI : Hid (l[k]? = some x) := hx
      obtain ⟨b', off', e, _, x0, x1, x2, x3⟩ := HCA.out wr HBW.out k x hx
      cases e
      have HSS : Hid (∀ W, Below wr.heap.size wr W → W.cell? ⟨b, off + k * 4, none⟩ = some (.string x.key) ∧ W.cell? ⟨b, off + k * 4 + 1, none⟩ = some (.int .u64 (x.seq : Nat)) ∧ W.cell? ⟨b, off + k * 4 + 2, none⟩ = some (.string x.val) ∧ W.cell? ⟨b, off + k * 4 + 3, none⟩ = some (.bool x.gone) ∧ W.cell? ⟨w.heap.size, 0, none⟩ = some (.string ck) ∧ W.cell? ⟨w.heap.size, 1, none⟩ = some (.int .u64 (cs : Nat)) ∧ W.cell? ⟨w.heap.size, 2, none⟩ = some (.string cv) ∧ W.cell? ⟨w.heap.size, 3, none⟩ = some (.bool cg)) := fun W hW => ⟨cellUp hW x0, cellUp hW x1, cellUp hW x2, cellUp hW x3, HC4.out W (HB.out.trans (hW.mono HB.out.size))⟩
      clear hx x0 x1 x2 x3
      obtain ⟨xk, xs, xv, xg⟩ := x
      simp only at HSS
      have HTR : Hid (∀ V, Below wr.drew.heap.size wr.drew V → Below wr.heap.size wr V) := fun V k' => (Below.refl _ wr).drew.trans k'
      have sd := HSS.out _ (Below.refl _ wr).drew
      have hdt : decide ((k : Int) < (n : Int)) = true := decide_eq_true (by omega)
      have hdt2 : decide (k < n) = true := decide_eq_true hkn
      cases hlx : lessC ⟨xk, xs, xv, xg⟩ ⟨ck, cs, cv, cg⟩ with
      | true =>
        have HT : Hid _ := hlx
        have A11 : Hid (∀ W : World, Calls Try.prog 11 #[.agg #[.string xk, .int .u64 (xs : Nat), .string xv, .bool xg], .agg #[.string ck, .int .u64 (cs : Nat), .string cv, .bool cg]] W fun r w' => r = .returned (.bool true) ∧ Below W.heap.size W w') := fun W => by have := rless_any ⟨xk, xs, xv, xg⟩ ⟨ck, cs, cv, cg⟩ W; rw [hlx] at this; exact this
        clear hlx
        go_wp2_with fail
        refine wp_region_held_drew (S := (fun W => W.cell? ⟨b, off + k * 4, none⟩ = some (.string xk) ∧ W.cell? ⟨b, off + k * 4 + 1, none⟩ = some (.int .u64 (xs : Nat)) ∧ W.cell? ⟨b, off + k * 4 + 2, none⟩ = some (.string xv) ∧ W.cell? ⟨b, off + k * 4 + 3, none⟩ = some (.bool xg) ∧ W.cell? ⟨w.heap.size, 0, none⟩ = some (.string ck) ∧ W.cell? ⟨w.heap.size, 1, none⟩ = some (.int .u64 (cs : Nat)) ∧ W.cell? ⟨w.heap.size, 2, none⟩ = some (.string cv) ∧ W.cell? ⟨w.heap.size, 3, none⟩ = some (.bool cg))) (by kernel_rfl) sd (fun hHeld => ?_)
        refine wpAnyH_take (i := 0) (oi := ({ dst := some 7, op := Op.move (Operand.tmp 5), type := 3, pos := "ref.go:22", after := #[], guard := none } : Oper)) (v := ?_) rfl (by kernel_rfl) (by kernel_rfl) (by kernel_rfl) (fun _ _ _ h => h) (Or.inl ⟨by rfl, ?_⟩) (by assumption) ?_
        rotate_left
        · (intro w hSw; (try dsimp only at hSw); go_simp; try with_reducible rfl)
        try simp only [Act.put, List.setIfInBounds_toArray, List.set_cons_zero, List.set_cons_succ]
        refine wpAnyH_take (i := 1) (oi := ({ dst := some 8, op := Op.move (Operand.tmp 0), type := 25, pos := "ref.go:22", after := #[], guard := none } : Oper)) (v := ?_) rfl (by kernel_rfl) (by kernel_rfl) (by kernel_rfl) (fun _ _ _ h => h) (Or.inl ⟨by rfl, ?_⟩) (by assumption) ?_
        rotate_left
        · (intro w hSw; (try dsimp only at hSw); go_simp; try with_reducible rfl)
        try simp only [Act.put, List.setIfInBounds_toArray, List.set_cons_zero, List.set_cons_succ]
        refine wpAnyH_take (i := 2) (oi := ({ dst := some 9, op := Op.call { callee := Callee.builtin Builtin.len, args := #[Operand.tmp 8], argTypes := #[25] }, type := 3, pos := "ref.go:22", after := #[{ on := 1, ground := Ground.data }], guard := none } : Oper)) (v := ?_) rfl (by kernel_rfl) (by kernel_rfl) (by kernel_rfl) (fun _ _ _ h => h) (Or.inl ⟨by rfl, ?_⟩) (by assumption) ?_
        rotate_left
        · (intro w hSw; (try dsimp only at hSw); go_simp; try with_reducible rfl)
        try simp only [Act.put, List.setIfInBounds_toArray, List.set_cons_zero, List.set_cons_succ]
        refine wpAnyH_take (i := 3) (oi := ({ dst := some 10, op := Op.binOp BinOp.lss 3 (Operand.tmp 7) (Operand.tmp 9) 3, type := 4, pos := "ref.go:22", after := #[{ on := 0, ground := Ground.data }, { on := 2, ground := Ground.data }], guard := none } : Oper)) (v := ?_) rfl (by kernel_rfl) (by kernel_rfl) (by kernel_rfl) (fun _ _ _ h => h) (Or.inl ⟨by rfl, ?_⟩) (by assumption) ?_
        rotate_left
        · (intro w hSw; (try dsimp only at hSw); go_simp; try with_reducible rfl)
        try simp only [Act.put, List.setIfInBounds_toArray, List.set_cons_zero, List.set_cons_succ]
        refine wpAnyH_take (i := 4) (oi := ({ dst := some 11, op := Op.move (Operand.tmp 10), type := 4, pos := "ref.go:22", after := #[{ on := 3, ground := Ground.data }], guard := none } : Oper)) (v := ?_) rfl (by kernel_rfl) (by kernel_rfl) (by kernel_rfl) (fun _ _ _ h => h) (Or.inl ⟨by rfl, ?_⟩) (by assumption) ?_
        rotate_left
        · (intro w hSw; (try dsimp only at hSw); go_simp; try with_reducible rfl)
        try simp only [Act.put, List.setIfInBounds_toArray, List.set_cons_zero, List.set_cons_succ]
        refine wpAnyH_take (i := 5) (oi := ({ dst := some 12, op := Op.move (Operand.tmp 0), type := 25, pos := "ref.go:22", after := #[{ on := 4, ground := Ground.guard }], guard := some (4, true) } : Oper)) (v := ?_) rfl (by kernel_rfl) (by kernel_rfl) (by kernel_rfl) (fun _ _ _ h => h) (Or.inl ⟨by rfl, ?_⟩) (by assumption) ?_
        rotate_left
        · (intro w hSw; (try dsimp only at hSw); go_simp; try with_reducible rfl)
        try simp only [Act.put, List.setIfInBounds_toArray, List.set_cons_zero, List.set_cons_succ]
        refine wpAnyH_take (i := 6) (oi := ({ dst := some 13, op := Op.move (Operand.tmp 5), type := 3, pos := "ref.go:22", after := #[{ on := 4, ground := Ground.guard }], guard := some (4, true) } : Oper)) (v := ?_) rfl (by kernel_rfl) (by kernel_rfl) (by kernel_rfl) (fun _ _ _ h => h) (Or.inl ⟨by rfl, ?_⟩) (by assumption) ?_
        rotate_left
        · (intro w hSw; (try dsimp only at hSw); go_simp; try with_reducible rfl)
        try simp only [Act.put, List.setIfInBounds_toArray, List.set_cons_zero, List.set_cons_succ]
        refine wpAnyH_take (i := 7) (oi := ({ dst := some 14, op := Op.indexAddr 25 (Operand.tmp 12) (Operand.tmp 13), type := 0, pos := "ref.go:22", after := #[{ on := 5, ground := Ground.data }, { on := 6, ground := Ground.data }, { on := 4, ground := Ground.guard }], guard := some (4, true) } : Oper)) (v := ?_) rfl (by kernel_rfl) (by kernel_rfl) (by kernel_rfl) (fun _ _ _ h => h) (Or.inl ⟨by rfl, ?_⟩) (by assumption) ?_
        rotate_left
        · (intro w hSw; (try dsimp only at hSw); go_simp; try with_reducible rfl)
        try simp only [Act.put, List.setIfInBounds_toArray, List.set_cons_zero, List.set_cons_succ]
        refine wpAnyH_take (i := 8) (oi := ({ dst := some 15, op := Op.load 24 (Operand.tmp 14), type := 24, pos := "ref.go:22", after := #[{ on := 7, ground := Ground.data }, { on := 4, ground := Ground.guard }], guard := some (4, true) } : Oper)) (v := ?_) rfl (by kernel_rfl) (by kernel_rfl) (by kernel_rfl) (fun _ _ _ h => h) (Or.inl ⟨by rfl, ?_⟩) (by assumption) ?_
        rotate_left
        · (intro w hSw; (try dsimp only at hSw); go_simp; try with_reducible rfl)
        try simp only [Act.put, List.setIfInBounds_toArray, List.set_cons_zero, List.set_cons_succ]
        refine wpAnyH_take (i := 9) (oi := ({ dst := some 16, op := Op.load 24 (Operand.tmp 3), type := 24, pos := "ref.go:22", after := #[{ on := 4, ground := Ground.guard }], guard := some (4, true) } : Oper)) (v := ?_) rfl (by kernel_rfl) (by kernel_rfl) (by kernel_rfl) (fun _ _ _ h => h) (Or.inl ⟨by rfl, ?_⟩) (by assumption) ?_
        rotate_left
        · (intro w hSw; (try dsimp only at hSw); go_simp; try with_reducible rfl)
        try simp only [Act.put, List.setIfInBounds_toArray, List.set_cons_zero, List.set_cons_succ]
        refine wpAnyH_ready (rs := [10]) (by kernel_rfl) (by simp) ?_
        refine AllReadyH.cons rfl (fun K hK => ?_) AllReadyH.nil
        go_simp
        go_wp2_with (go_at_call 11; refine Calls.mono (A11.out _) ?_; rintro e wa ⟨rfl, ka⟩; have ba := HTR.out _ ka; have sa := HSS.out _ ba)
        refine hK.out _ _ (by first | assumption | go_keep) (fun hHeld => ?_)
        clear hK K
        refine wpAnyH_take (i := 11) (oi := ({ dst := some 18, op := Op.pick (Operand.tmp 11) (Operand.tmp 17) (Operand.const (Value.bool false)), type := 4, pos := "ref.go:22", after := #[{ on := 4, ground := Ground.data }, { on := 10, ground := Ground.data }], guard := none } : Oper)) (v := ?_) rfl (by kernel_rfl) (by kernel_rfl) (by kernel_rfl) (fun _ _ _ h => h) (Or.inl ⟨by rfl, ?_⟩) (by assumption) ?_
        rotate_left
        · (intro w hSw; (try dsimp only at hSw); go_simp; try with_reducible rfl)
        try simp only [Act.put, List.setIfInBounds_toArray, List.set_cons_zero, List.set_cons_succ]
        refine wpAnyH_done (by kernel_rfl) ?_ _
        go_wp2_with fail
        go_roundw
        case rel =>
          refine ⟨k + 1, by omega, by go_num, fun j y hj hy => ?_, HB.out.trans (ba.mono HB.out.size)⟩
          by_cases e : j = k
          · subst e
            rw [HXI.out] at hy
            cases hy
            exact HT.out
          · exact HE.out j y (by omega) hy
        case measure => simp [intOf]; omega
      | false =>
        have HA : Hid (aheadN l ⟨ck, cs, cv, cg⟩ = k) := ahead_of (by rw [HL.out]; omega) HE.out (fun y hy => by rw [HXI.out] at hy; cases hy; exact hlx)
        have A11 : Hid (∀ W : World, Calls Try.prog 11 #[.agg #[.string xk, .int .u64 (xs : Nat), .string xv, .bool xg], .agg #[.string ck, .int .u64 (cs : Nat), .string cv, .bool cg]] W fun r w' => r = .returned (.bool false) ∧ Below W.heap.size W w') := fun W => by have := rless_any ⟨xk, xs, xv, xg⟩ ⟨ck, cs, cv, cg⟩ W; rw [hlx] at this; exact this
        clear hlx HE
        go_wp2_with fail
        refine wp_region_held_drew (S := (fun W => W.cell? ⟨b, off + k * 4, none⟩ = some (.string xk) ∧ W.cell? ⟨b, off + k * 4 + 1, none⟩ = some (.int .u64 (xs : Nat)) ∧ W.cell? ⟨b, off + k * 4 + 2, none⟩ = some (.string xv) ∧ W.cell? ⟨b, off + k * 4 + 3, none⟩ = some (.bool xg) ∧ W.cell? ⟨w.heap.size, 0, none⟩ = some (.string ck) ∧ W.cell? ⟨w.heap.size, 1, none⟩ = some (.int .u64 (cs : Nat)) ∧ W.cell? ⟨w.heap.size, 2, none⟩ = some (.string cv) ∧ W.cell? ⟨w.heap.size, 3, none⟩ = some (.bool cg))) (by kernel_rfl) sd (fun hHeld => ?_)
        refine wpAnyH_take (i := 0) (oi := ({ dst := some 7, op := Op.move (Operand.tmp 5), type := 3, pos := "ref.go:22", after := #[], guard := none } : Oper)) (v := ?_) rfl (by kernel_rfl) (by kernel_rfl) (by kernel_rfl) (fun _ _ _ h => h) (Or.inl ⟨by rfl, ?_⟩) (by assumption) ?_
        rotate_left
        · (intro w hSw; (try dsimp only at hSw); go_simp; try with_reducible rfl)
        try simp only [Act.put, List.setIfInBounds_toArray, List.set_cons_zero, List.set_cons_succ]
        refine wpAnyH_take (i := 1) (oi := ({ dst := some 8, op := Op.move (Operand.tmp 0), type := 25, pos := "ref.go:22", after := #[], guard := none } : Oper)) (v := ?_) rfl (by kernel_rfl) (by kernel_rfl) (by kernel_rfl) (fun _ _ _ h => h) (Or.inl ⟨by rfl, ?_⟩) (by assumption) ?_
        rotate_left
        · (intro w hSw; (try dsimp only at hSw); go_simp; try with_reducible rfl)
        try simp only [Act.put, List.setIfInBounds_toArray, List.set_cons_zero, List.set_cons_succ]
        refine wpAnyH_take (i := 2) (oi := ({ dst := some 9, op := Op.call { callee := Callee.builtin Builtin.len, args := #[Operand.tmp 8], argTypes := #[25] }, type := 3, pos := "ref.go:22", after := #[{ on := 1, ground := Ground.data }], guard := none } : Oper)) (v := ?_) rfl (by kernel_rfl) (by kernel_rfl) (by kernel_rfl) (fun _ _ _ h => h) (Or.inl ⟨by rfl, ?_⟩) (by assumption) ?_
        rotate_left
        · (intro w hSw; (try dsimp only at hSw); go_simp; try with_reducible rfl)
        try simp only [Act.put, List.setIfInBounds_toArray, List.set_cons_zero, List.set_cons_succ]
        refine wpAnyH_take (i := 3) (oi := ({ dst := some 10, op := Op.binOp BinOp.lss 3 (Operand.tmp 7) (Operand.tmp 9) 3, type := 4, pos := "ref.go:22", after := #[{ on := 0, ground := Ground.data }, { on := 2, ground := Ground.data }], guard := none } : Oper)) (v := ?_) rfl (by kernel_rfl) (by kernel_rfl) (by kernel_rfl) (fun _ _ _ h => h) (Or.inl ⟨by rfl, ?_⟩) (by assumption) ?_
        rotate_left
        · (intro w hSw; (try dsimp only at hSw); go_simp; try with_reducible rfl)
        try simp only [Act.put, List.setIfInBounds_toArray, List.set_cons_zero, List.set_cons_succ]
        refine wpAnyH_take (i := 4) (oi := ({ dst := some 11, op := Op.move (Operand.tmp 10), type := 4, pos := "ref.go:22", after := #[{ on := 3, ground := Ground.data }], guard := none } : Oper)) (v := ?_) rfl (by kernel_rfl) (by kernel_rfl) (by kernel_rfl) (fun _ _ _ h => h) (Or.inl ⟨by rfl, ?_⟩) (by assumption) ?_
        rotate_left
        · (intro w hSw; (try dsimp only at hSw); go_simp; try with_reducible rfl)
        try simp only [Act.put, List.setIfInBounds_toArray, List.set_cons_zero, List.set_cons_succ]
        refine wpAnyH_take (i := 5) (oi := ({ dst := some 12, op := Op.move (Operand.tmp 0), type := 25, pos := "ref.go:22", after := #[{ on := 4, ground := Ground.guard }], guard := some (4, true) } : Oper)) (v := ?_) rfl (by kernel_rfl) (by kernel_rfl) (by kernel_rfl) (fun _ _ _ h => h) (Or.inl ⟨by rfl, ?_⟩) (by assumption) ?_
        rotate_left
        · (intro w hSw; (try dsimp only at hSw); go_simp; try with_reducible rfl)
        try simp only [Act.put, List.setIfInBounds_toArray, List.set_cons_zero, List.set_cons_succ]
        refine wpAnyH_take (i := 6) (oi := ({ dst := some 13, op := Op.move (Operand.tmp 5), type := 3, pos := "ref.go:22", after := #[{ on := 4, ground := Ground.guard }], guard := some (4, true) } : Oper)) (v := ?_) rfl (by kernel_rfl) (by kernel_rfl) (by kernel_rfl) (fun _ _ _ h => h) (Or.inl ⟨by rfl, ?_⟩) (by assumption) ?_
        rotate_left
        · (intro w hSw; (try dsimp only at hSw); go_simp; try with_reducible rfl)
        try simp only [Act.put, List.setIfInBounds_toArray, List.set_cons_zero, List.set_cons_succ]
        refine wpAnyH_take (i := 7) (oi := ({ dst := some 14, op := Op.indexAddr 25 (Operand.tmp 12) (Operand.tmp 13), type := 0, pos := "ref.go:22", after := #[{ on := 5, ground := Ground.data }, { on := 6, ground := Ground.data }, { on := 4, ground := Ground.guard }], guard := some (4, true) } : Oper)) (v := ?_) rfl (by kernel_rfl) (by kernel_rfl) (by kernel_rfl) (fun _ _ _ h => h) (Or.inl ⟨by rfl, ?_⟩) (by assumption) ?_
        rotate_left
        · (intro w hSw; (try dsimp only at hSw); go_simp; try with_reducible rfl)
        try simp only [Act.put, List.setIfInBounds_toArray, List.set_cons_zero, List.set_cons_succ]
        refine wpAnyH_take (i := 8) (oi := ({ dst := some 15, op := Op.load 24 (Operand.tmp 14), type := 24, pos := "ref.go:22", after := #[{ on := 7, ground := Ground.data }, { on := 4, ground := Ground.guard }], guard := some (4, true) } : Oper)) (v := ?_) rfl (by kernel_rfl) (by kernel_rfl) (by kernel_rfl) (fun _ _ _ h => h) (Or.inl ⟨by rfl, ?_⟩) (by assumption) ?_
        rotate_left
        · (intro w hSw; (try dsimp only at hSw); go_simp; try with_reducible rfl)
        try simp only [Act.put, List.setIfInBounds_toArray, List.set_cons_zero, List.set_cons_succ]
        refine wpAnyH_take (i := 9) (oi := ({ dst := some 16, op := Op.load 24 (Operand.tmp 3), type := 24, pos := "ref.go:22", after := #[{ on := 4, ground := Ground.guard }], guard := some (4, true) } : Oper)) (v := ?_) rfl (by kernel_rfl) (by kernel_rfl) (by kernel_rfl) (fun _ _ _ h => h) (Or.inl ⟨by rfl, ?_⟩) (by assumption) ?_
        rotate_left
        · (intro w hSw; (try dsimp only at hSw); go_simp; try with_reducible rfl)
        try simp only [Act.put, List.setIfInBounds_toArray, List.set_cons_zero, List.set_cons_succ]
        refine wpAnyH_ready (rs := [10]) (by kernel_rfl) (by simp) ?_
        refine AllReadyH.cons rfl (fun K hK => ?_) AllReadyH.nil
        go_simp
        go_wp2_with (go_at_call 11; refine Calls.mono (A11.out _) ?_; rintro e wa ⟨rfl, ka⟩; have ba := HTR.out _ ka; have sa := HSS.out _ ba)
        refine hK.out _ _ (by first | assumption | go_keep) (fun hHeld => ?_)
        clear hK K
        refine wpAnyH_take (i := 11) (oi := ({ dst := some 18, op := Op.pick (Operand.tmp 11) (Operand.tmp 17) (Operand.const (Value.bool false)), type := 4, pos := "ref.go:22", after := #[{ on := 4, ground := Ground.data }, { on := 10, ground := Ground.data }], guard := none } : Oper)) (v := ?_) rfl (by kernel_rfl) (by kernel_rfl) (by kernel_rfl) (fun _ _ _ h => h) (Or.inl ⟨by rfl, ?_⟩) (by assumption) ?_
        rotate_left
        · (intro w hSw; (try dsimp only at hSw); go_simp; try with_reducible rfl)
        try simp only [Act.put, List.setIfInBounds_toArray, List.set_cons_zero, List.set_cons_succ]
        refine wpAnyH_done (by kernel_rfl) ?_ _
        go_wp2_with fail
        have HBQ : Hid (Below W1.heap.size W1 wa) := HB.out.trans (ba.mono HB.out.size)
        have HTR : Hid (∀ V, Below wa.drew.heap.size wa.drew V → Below wr.heap.size wr V) := fun V k' => ba.trans (((Below.refl _ wa).drew.trans k').mono ba.size)
        have sd := HSS.out _ (HTR.out _ (Below.refl _ _))
        clear sa hHeld
        cases hcx : lessC ⟨ck, cs, cv, cg⟩ ⟨xk, xs, xv, xg⟩ with
        | true =>
          have HIN : Hid (insC l ⟨ck, cs, cv, cg⟩ = l.take k ++ (⟨ck, cs, cv, cg⟩ :: l.drop k)) := ins_here HA.out HXI.out hcx
          have B11 : Hid (∀ W : World, Calls Try.prog 11 #[.agg #[.string ck, .int .u64 (cs : Nat), .string cv, .bool cg], .agg #[.string xk, .int .u64 (xs : Nat), .string xv, .bool xg]] W fun r w' => r = .returned (.bool true) ∧ Below W.heap.size W w') := fun W => by have := rless_any ⟨ck, cs, cv, cg⟩ ⟨xk, xs, xv, xg⟩ W; rw [hcx] at this; exact this
          clear hcx ka
          refine wp_region_held_drew (S := (fun W => W.cell? ⟨b, off + k * 4, none⟩ = some (.string xk) ∧ W.cell? ⟨b, off + k * 4 + 1, none⟩ = some (.int .u64 (xs : Nat)) ∧ W.cell? ⟨b, off + k * 4 + 2, none⟩ = some (.string xv) ∧ W.cell? ⟨b, off + k * 4 + 3, none⟩ = some (.bool xg) ∧ W.cell? ⟨w.heap.size, 0, none⟩ = some (.string ck) ∧ W.cell? ⟨w.heap.size, 1, none⟩ = some (.int .u64 (cs : Nat)) ∧ W.cell? ⟨w.heap.size, 2, none⟩ = some (.string cv) ∧ W.cell? ⟨w.heap.size, 3, none⟩ = some (.bool cg))) (by kernel_rfl) sd (fun hHeld => ?_)
          refine wpAnyH_take (i := 0) (oi := ({ dst := some 21, op := Op.move (Operand.tmp 5), type := 3, pos := "ref.go:25", after := #[], guard := none } : Oper)) (v := ?_) rfl (by kernel_rfl) (by kernel_rfl) (by kernel_rfl) (fun _ _ _ h => h) (Or.inl ⟨by rfl, ?_⟩) (by assumption) ?_
          rotate_left
          · (intro w hSw; (try dsimp only at hSw); go_simp; try with_reducible rfl)
          try simp only [Act.put, List.setIfInBounds_toArray, List.set_cons_zero, List.set_cons_succ]
          refine wpAnyH_take (i := 1) (oi := ({ dst := some 22, op := Op.move (Operand.tmp 0), type := 25, pos := "ref.go:25", after := #[], guard := none } : Oper)) (v := ?_) rfl (by kernel_rfl) (by kernel_rfl) (by kernel_rfl) (fun _ _ _ h => h) (Or.inl ⟨by rfl, ?_⟩) (by assumption) ?_
          rotate_left
          · (intro w hSw; (try dsimp only at hSw); go_simp; try with_reducible rfl)
          try simp only [Act.put, List.setIfInBounds_toArray, List.set_cons_zero, List.set_cons_succ]
          refine wpAnyH_take (i := 2) (oi := ({ dst := some 23, op := Op.call { callee := Callee.builtin Builtin.len, args := #[Operand.tmp 22], argTypes := #[25] }, type := 3, pos := "ref.go:25", after := #[{ on := 1, ground := Ground.data }], guard := none } : Oper)) (v := ?_) rfl (by kernel_rfl) (by kernel_rfl) (by kernel_rfl) (fun _ _ _ h => h) (Or.inl ⟨by rfl, ?_⟩) (by assumption) ?_
          rotate_left
          · (intro w hSw; (try dsimp only at hSw); go_simp; try with_reducible rfl)
          try simp only [Act.put, List.setIfInBounds_toArray, List.set_cons_zero, List.set_cons_succ]
          refine wpAnyH_take (i := 3) (oi := ({ dst := some 24, op := Op.binOp BinOp.lss 3 (Operand.tmp 21) (Operand.tmp 23) 3, type := 4, pos := "ref.go:25", after := #[{ on := 0, ground := Ground.data }, { on := 2, ground := Ground.data }], guard := none } : Oper)) (v := ?_) rfl (by kernel_rfl) (by kernel_rfl) (by kernel_rfl) (fun _ _ _ h => h) (Or.inl ⟨by rfl, ?_⟩) (by assumption) ?_
          rotate_left
          · (intro w hSw; (try dsimp only at hSw); go_simp; try with_reducible rfl)
          try simp only [Act.put, List.setIfInBounds_toArray, List.set_cons_zero, List.set_cons_succ]
          refine wpAnyH_take (i := 4) (oi := ({ dst := some 25, op := Op.move (Operand.tmp 24), type := 4, pos := "ref.go:25", after := #[{ on := 3, ground := Ground.data }], guard := none } : Oper)) (v := ?_) rfl (by kernel_rfl) (by kernel_rfl) (by kernel_rfl) (fun _ _ _ h => h) (Or.inl ⟨by rfl, ?_⟩) (by assumption) ?_
          rotate_left
          · (intro w hSw; (try dsimp only at hSw); go_simp; try with_reducible rfl)
          try simp only [Act.put, List.setIfInBounds_toArray, List.set_cons_zero, List.set_cons_succ]
          refine wpAnyH_take (i := 5) (oi := ({ dst := some 26, op := Op.load 24 (Operand.tmp 3), type := 24, pos := "ref.go:25", after := #[{ on := 4, ground := Ground.guard }], guard := some (4, true) } : Oper)) (v := ?_) rfl (by kernel_rfl) (by kernel_rfl) (by kernel_rfl) (fun _ _ _ h => h) (Or.inl ⟨by rfl, ?_⟩) (by assumption) ?_
          rotate_left
          · (intro w hSw; (try dsimp only at hSw); go_simp; try with_reducible rfl)
          try simp only [Act.put, List.setIfInBounds_toArray, List.set_cons_zero, List.set_cons_succ]
          refine wpAnyH_take (i := 6) (oi := ({ dst := some 27, op := Op.move (Operand.tmp 0), type := 25, pos := "ref.go:25", after := #[{ on := 4, ground := Ground.guard }], guard := some (4, true) } : Oper)) (v := ?_) rfl (by kernel_rfl) (by kernel_rfl) (by kernel_rfl) (fun _ _ _ h => h) (Or.inl ⟨by rfl, ?_⟩) (by assumption) ?_
          rotate_left
          · (intro w hSw; (try dsimp only at hSw); go_simp; try with_reducible rfl)
          try simp only [Act.put, List.setIfInBounds_toArray, List.set_cons_zero, List.set_cons_succ]
          refine wpAnyH_take (i := 7) (oi := ({ dst := some 28, op := Op.move (Operand.tmp 5), type := 3, pos := "ref.go:25", after := #[{ on := 4, ground := Ground.guard }], guard := some (4, true) } : Oper)) (v := ?_) rfl (by kernel_rfl) (by kernel_rfl) (by kernel_rfl) (fun _ _ _ h => h) (Or.inl ⟨by rfl, ?_⟩) (by assumption) ?_
          rotate_left
          · (intro w hSw; (try dsimp only at hSw); go_simp; try with_reducible rfl)
          try simp only [Act.put, List.setIfInBounds_toArray, List.set_cons_zero, List.set_cons_succ]
          refine wpAnyH_take (i := 8) (oi := ({ dst := some 29, op := Op.indexAddr 25 (Operand.tmp 27) (Operand.tmp 28), type := 0, pos := "ref.go:25", after := #[{ on := 6, ground := Ground.data }, { on := 7, ground := Ground.data }, { on := 4, ground := Ground.guard }], guard := some (4, true) } : Oper)) (v := ?_) rfl (by kernel_rfl) (by kernel_rfl) (by kernel_rfl) (fun _ _ _ h => h) (Or.inl ⟨by rfl, ?_⟩) (by assumption) ?_
          rotate_left
          · (intro w hSw; (try dsimp only at hSw); go_simp; try with_reducible rfl)
          try simp only [Act.put, List.setIfInBounds_toArray, List.set_cons_zero, List.set_cons_succ]
          refine wpAnyH_take (i := 9) (oi := ({ dst := some 30, op := Op.load 24 (Operand.tmp 29), type := 24, pos := "ref.go:25", after := #[{ on := 8, ground := Ground.data }, { on := 4, ground := Ground.guard }], guard := some (4, true) } : Oper)) (v := ?_) rfl (by kernel_rfl) (by kernel_rfl) (by kernel_rfl) (fun _ _ _ h => h) (Or.inl ⟨by rfl, ?_⟩) (by assumption) ?_
          rotate_left
          · (intro w hSw; (try dsimp only at hSw); go_simp; try with_reducible rfl)
          try simp only [Act.put, List.setIfInBounds_toArray, List.set_cons_zero, List.set_cons_succ]
          refine wpAnyH_ready (rs := [10]) (by kernel_rfl) (by simp) ?_
          refine AllReadyH.cons rfl (fun K hK => ?_) AllReadyH.nil
          go_simp
          go_wp2_with (go_at_call 11; refine Calls.mono (B11.out _) ?_; rintro e wb ⟨rfl, kb⟩; have bb := HTR.out _ kb; have sb := HSS.out _ bb)
          refine hK.out _ _ (by first | assumption | go_keep) (fun hHeld => ?_)
          clear hK K
          refine wpAnyH_take (i := 11) (oi := ({ dst := some 32, op := Op.unOp UnOp.not 4 (Operand.tmp 31), type := 4, pos := "ref.go:25", after := #[{ on := 10, ground := Ground.data }, { on := 4, ground := Ground.guard }], guard := some (4, true) } : Oper)) (v := ?_) rfl (by kernel_rfl) (by kernel_rfl) (by kernel_rfl) (fun _ _ _ h => h) (Or.inl ⟨by rfl, ?_⟩) (by assumption) ?_
          rotate_left
          · (intro w hSw; (try dsimp only at hSw); go_simp; try with_reducible rfl)
          try simp only [Act.put, List.setIfInBounds_toArray, List.set_cons_zero, List.set_cons_succ]
          refine wpAnyH_take (i := 12) (oi := ({ dst := some 33, op := Op.pick (Operand.tmp 25) (Operand.tmp 32) (Operand.const (Value.bool false)), type := 4, pos := "ref.go:25", after := #[{ on := 4, ground := Ground.data }, { on := 11, ground := Ground.data }], guard := none } : Oper)) (v := ?_) rfl (by kernel_rfl) (by kernel_rfl) (by kernel_rfl) (fun _ _ _ h => h) (Or.inl ⟨by rfl, ?_⟩) (by assumption) ?_
          rotate_left
          · (intro w hSw; (try dsimp only at hSw); go_simp; try with_reducible rfl)
          try simp only [Act.put, List.setIfInBounds_toArray, List.set_cons_zero, List.set_cons_succ]
          refine wpAnyH_done (by kernel_rfl) ?_ _
          have HBQ : Hid (Below W1.heap.size W1 wb) := HB.out.trans (bb.mono HB.out.size)
          have HRX : Hid (RowAt (wb.alloc (.cells #[] 24)) wb.heap.size 24 4 (.slice (some ⟨wb.heap.size, 0, none⟩) 0 0) 0 []) := ⟨rfl, Or.inr ⟨wb.heap.size, 0, #[], rfl, Nat.le_refl _, World.alloc_heap_new _ _, Nat.le_refl _, Nat.zero_le _, rfl, rfl⟩⟩
          have HBA : Hid (Below W1.heap.size W1 (wb.alloc (.cells #[] 24))) := HBQ.out.trans (((Below.refl _ wb).alloc (Nat.le_refl _) _).mono HBQ.out.size)
          have HT1 : Hid ((flC (l.take k)).length = k * 4) := by rw [Hid, flC_len, List.length_take, HL.out, Nat.min_eq_left hk]
          have HN1 : Hid (∀ j u, (flC (l.take k))[j]? = some u → (wb.alloc (.cells #[] 24)).cell? ((⟨b, off, none⟩ : Addr).add j) = some u) := ca_flat' ((HCA.out _ (HW1.out.trans (HBA.out.mono HW1.out.size))).take k)
          have HWQ : Hid (W1.heap.size ≤ wb.heap.size) := HBQ.out.size
          have HCD : Hid (∀ V, Below W1.heap.size W1 V → ∀ j u, (flC (l.drop k))[j]? = some u → V.cell? ((⟨b, off + k * 4, none⟩ : Addr).add j) = some u) := fun V hV => ca_flat' ((HCA.out _ (HW1.out.trans (hV.mono HW1.out.size))).drop k)
          have HT3 : Hid ((flC (l.drop k)).length = (n - k) * 4) := by rw [Hid, flC_len, List.length_drop, HL.out]
          have HFL : Hid (flC (l.take k) ++ clL ⟨ck, cs, cv, cg⟩ ++ flC (l.drop k) = flC (insC l ⟨ck, cs, cv, cg⟩)) := by rw [Hid, HIN.out, flC_app, flC_cons, List.append_assoc]
          have HLN : Hid (k + 1 + (n - k) = (insC l ⟨ck, cs, cv, cg⟩).length) := by rw [Hid, HIN.out]; simp only [List.length_append, List.length_take, List.length_cons, List.length_drop]; rw [HL.out]; omega
          have hkcp : k ≤ cp := by have := HCP.out; omega
          have HKC : Hid (n ≤ cp) := HCP.out
          clear HBQ HSS HTR sd
          have hkl : k < cp := by have := HCP.out; omega
          all_goals
            go_wp2_with (first
              | (at_builtin; refine wpList_append_own _ rfl _ _ 25 rfl wb.heap.size 24 i0 (.agg #[.string ByteArray.empty, .int .u64 0, .string ByteArray.empty, .bool false]) 4 48 Try.underlying25 hi hz0 hz1 hz2 rfl (by decide) _ _ _ rfl HR4.out ⟨b, off + k * 4, none⟩ (n - k) (cp - k) (flC (l.drop k)) rfl HT3.out (HCD.out _ HB5.out) (flC_one _) (by unfold maxLen; omega) (by omega) HS5.out ?_; intro v6 w7 hown6 hg6 _; have HR6 : Hid (w7.ownsRow wb.heap.size 24 4 v6 (insC l ⟨ck, cs, cv, cg⟩).length (flC (insC l ⟨ck, cs, cv, cg⟩))) := (by rw [← HLN.out, ← HFL.out]; exact hown6); have HB7 : Hid (Below W1.heap.size W1 w7) := HB5.out.grown hg6 HB5.out.size (fun k e => Nat.le_trans HWQ.out (World.ownsRow.lt HR4.out k e).1); clear hown6 hg6 HR4)
              | (at_builtin; refine wpList_append_own _ rfl _ _ 25 rfl wb.heap.size 24 i0 (.agg #[.string ByteArray.empty, .int .u64 0, .string ByteArray.empty, .bool false]) 4 48 Try.underlying25 hi hz0 hz1 hz2 rfl (by decide) _ _ _ rfl HR3.out ⟨w3.heap.size, 0, none⟩ 1 1 (clL ⟨ck, cs, cv, cg⟩) rfl rfl HN2.out (by intro u hu; simp [clL] at hu; rcases hu with rfl | rfl | rfl | rfl <;> rfl) (by unfold maxLen; omega) (by omega) HS4.out ?_; intro v4 w5 hown4 hg4 _; obtain ⟨va4, vc4, rfl⟩ := row_form4 hown4; have HR4 : Hid (w5.ownsRow wb.heap.size 24 4 (.slice va4 (k + 1) vc4) (k + 1) (flC (l.take k) ++ clL ⟨ck, cs, cv, cg⟩)) := hown4; have HB5 : Hid (Below W1.heap.size W1 w5) := HB4.out.grown hg4 HB4.out.size (fun k e => Nat.le_trans HWQ.out (World.ownsRow.lt HR3.out k e).1); have HS5 : Hid (wb.heap.size ≤ w5.heap.size) := Nat.le_trans HS4.out hg4.size; clear hown4 hg4 HR3)
              | (at_builtin; refine wpList_append_own _ rfl _ _ 25 rfl wb.heap.size 24 i0 (.agg #[.string ByteArray.empty, .int .u64 0, .string ByteArray.empty, .bool false]) 4 48 Try.underlying25 hi hz0 hz1 hz2 rfl (by decide) _ _ _ rfl HRX.out ⟨b, off, none⟩ k cp (flC (l.take k)) rfl HT1.out HN1.out (flC_one _) (by unfold maxLen; omega) (by omega) (by simp) ?_; intro v2 w3 hown2 hg2 _; have hr2 : w3.ownsRow wb.heap.size 24 4 v2 k (flC (l.take k)) := (by simpa using hown2); obtain ⟨va, vc, rfl⟩ := row_form4 hr2; have HB3 : Hid (Below W1.heap.size W1 w3) := HBA.out.grown hg2 HBA.out.size (fun k e => Nat.le_trans HWQ.out (World.ownsRow.lt HRX.out k e).1); obtain ⟨q0, q1, q2, q3⟩ := HC4.out w3 HB3.out; have HB4 : Hid (Below W1.heap.size W1 (w3.alloc (.cells #[.string ck, .int .u64 (cs : Nat), .string cv, .bool cg] 24))) := HB3.out.trans (((Below.refl _ w3).alloc (Nat.le_refl _) _).mono HB3.out.size); have HR3 : Hid ((w3.alloc (.cells #[.string ck, .int .u64 (cs : Nat), .string cv, .bool cg] 24)).ownsRow wb.heap.size 24 4 (.slice va k vc) k (flC (l.take k))) := World.ownsRow.alloc hr2 _; have HN2 : Hid (∀ j u, (clL ⟨ck, cs, cv, cg⟩)[j]? = some u → (w3.alloc (.cells #[.string ck, .int .u64 (cs : Nat), .string cv, .bool cg] 24)).cell? ((⟨w3.heap.size, 0, none⟩ : Addr).add j) = some u) := new_cell w3 ⟨ck, cs, cv, cg⟩; have HS4 : Hid (wb.heap.size ≤ (w3.alloc (.cells #[.string ck, .int .u64 (cs : Nat), .string cv, .bool cg] 24)).heap.size) := (by have := hg2.size; simp only [World.size_alloc] at *; rw [Hid]; omega); clear hown2 hg2 hr2 HRX))
            go_ret
            obtain ⟨ra, rc, rfl, hrc, hca⟩ := ca_row HR6.out
            exact ⟨ra, rc, rfl, hrc, hca, HW1.out.trans (HB7.out.mono HW1.out.size)⟩
        | false =>
          have HIN : Hid (insC l ⟨ck, cs, cv, cg⟩ = l) := ins_there HA.out HXI.out hcx
          have B11 : Hid (∀ W : World, Calls Try.prog 11 #[.agg #[.string ck, .int .u64 (cs : Nat), .string cv, .bool cg], .agg #[.string xk, .int .u64 (xs : Nat), .string xv, .bool xg]] W fun r w' => r = .returned (.bool false) ∧ Below W.heap.size W w') := fun W => by have := rless_any ⟨ck, cs, cv, cg⟩ ⟨xk, xs, xv, xg⟩ W; rw [hcx] at this; exact this
          clear hcx ka
          refine wp_region_held_drew (S := (fun W => W.cell? ⟨b, off + k * 4, none⟩ = some (.string xk) ∧ W.cell? ⟨b, off + k * 4 + 1, none⟩ = some (.int .u64 (xs : Nat)) ∧ W.cell? ⟨b, off + k * 4 + 2, none⟩ = some (.string xv) ∧ W.cell? ⟨b, off + k * 4 + 3, none⟩ = some (.bool xg) ∧ W.cell? ⟨w.heap.size, 0, none⟩ = some (.string ck) ∧ W.cell? ⟨w.heap.size, 1, none⟩ = some (.int .u64 (cs : Nat)) ∧ W.cell? ⟨w.heap.size, 2, none⟩ = some (.string cv) ∧ W.cell? ⟨w.heap.size, 3, none⟩ = some (.bool cg))) (by kernel_rfl) sd (fun hHeld => ?_)
          refine wpAnyH_take (i := 0) (oi := ({ dst := some 21, op := Op.move (Operand.tmp 5), type := 3, pos := "ref.go:25", after := #[], guard := none } : Oper)) (v := ?_) rfl (by kernel_rfl) (by kernel_rfl) (by kernel_rfl) (fun _ _ _ h => h) (Or.inl ⟨by rfl, ?_⟩) (by assumption) ?_
          rotate_left
          · (intro w hSw; (try dsimp only at hSw); go_simp; try with_reducible rfl)
          try simp only [Act.put, List.setIfInBounds_toArray, List.set_cons_zero, List.set_cons_succ]
          refine wpAnyH_take (i := 1) (oi := ({ dst := some 22, op := Op.move (Operand.tmp 0), type := 25, pos := "ref.go:25", after := #[], guard := none } : Oper)) (v := ?_) rfl (by kernel_rfl) (by kernel_rfl) (by kernel_rfl) (fun _ _ _ h => h) (Or.inl ⟨by rfl, ?_⟩) (by assumption) ?_
          rotate_left
          · (intro w hSw; (try dsimp only at hSw); go_simp; try with_reducible rfl)
          try simp only [Act.put, List.setIfInBounds_toArray, List.set_cons_zero, List.set_cons_succ]
          refine wpAnyH_take (i := 2) (oi := ({ dst := some 23, op := Op.call { callee := Callee.builtin Builtin.len, args := #[Operand.tmp 22], argTypes := #[25] }, type := 3, pos := "ref.go:25", after := #[{ on := 1, ground := Ground.data }], guard := none } : Oper)) (v := ?_) rfl (by kernel_rfl) (by kernel_rfl) (by kernel_rfl) (fun _ _ _ h => h) (Or.inl ⟨by rfl, ?_⟩) (by assumption) ?_
          rotate_left
          · (intro w hSw; (try dsimp only at hSw); go_simp; try with_reducible rfl)
          try simp only [Act.put, List.setIfInBounds_toArray, List.set_cons_zero, List.set_cons_succ]
          refine wpAnyH_take (i := 3) (oi := ({ dst := some 24, op := Op.binOp BinOp.lss 3 (Operand.tmp 21) (Operand.tmp 23) 3, type := 4, pos := "ref.go:25", after := #[{ on := 0, ground := Ground.data }, { on := 2, ground := Ground.data }], guard := none } : Oper)) (v := ?_) rfl (by kernel_rfl) (by kernel_rfl) (by kernel_rfl) (fun _ _ _ h => h) (Or.inl ⟨by rfl, ?_⟩) (by assumption) ?_
          rotate_left
          · (intro w hSw; (try dsimp only at hSw); go_simp; try with_reducible rfl)
          try simp only [Act.put, List.setIfInBounds_toArray, List.set_cons_zero, List.set_cons_succ]
          refine wpAnyH_take (i := 4) (oi := ({ dst := some 25, op := Op.move (Operand.tmp 24), type := 4, pos := "ref.go:25", after := #[{ on := 3, ground := Ground.data }], guard := none } : Oper)) (v := ?_) rfl (by kernel_rfl) (by kernel_rfl) (by kernel_rfl) (fun _ _ _ h => h) (Or.inl ⟨by rfl, ?_⟩) (by assumption) ?_
          rotate_left
          · (intro w hSw; (try dsimp only at hSw); go_simp; try with_reducible rfl)
          try simp only [Act.put, List.setIfInBounds_toArray, List.set_cons_zero, List.set_cons_succ]
          refine wpAnyH_take (i := 5) (oi := ({ dst := some 26, op := Op.load 24 (Operand.tmp 3), type := 24, pos := "ref.go:25", after := #[{ on := 4, ground := Ground.guard }], guard := some (4, true) } : Oper)) (v := ?_) rfl (by kernel_rfl) (by kernel_rfl) (by kernel_rfl) (fun _ _ _ h => h) (Or.inl ⟨by rfl, ?_⟩) (by assumption) ?_
          rotate_left
          · (intro w hSw; (try dsimp only at hSw); go_simp; try with_reducible rfl)
          try simp only [Act.put, List.setIfInBounds_toArray, List.set_cons_zero, List.set_cons_succ]
          refine wpAnyH_take (i := 6) (oi := ({ dst := some 27, op := Op.move (Operand.tmp 0), type := 25, pos := "ref.go:25", after := #[{ on := 4, ground := Ground.guard }], guard := some (4, true) } : Oper)) (v := ?_) rfl (by kernel_rfl) (by kernel_rfl) (by kernel_rfl) (fun _ _ _ h => h) (Or.inl ⟨by rfl, ?_⟩) (by assumption) ?_
          rotate_left
          · (intro w hSw; (try dsimp only at hSw); go_simp; try with_reducible rfl)
          try simp only [Act.put, List.setIfInBounds_toArray, List.set_cons_zero, List.set_cons_succ]
          refine wpAnyH_take (i := 7) (oi := ({ dst := some 28, op := Op.move (Operand.tmp 5), type := 3, pos := "ref.go:25", after := #[{ on := 4, ground := Ground.guard }], guard := some (4, true) } : Oper)) (v := ?_) rfl (by kernel_rfl) (by kernel_rfl) (by kernel_rfl) (fun _ _ _ h => h) (Or.inl ⟨by rfl, ?_⟩) (by assumption) ?_
          rotate_left
          · (intro w hSw; (try dsimp only at hSw); go_simp; try with_reducible rfl)
          try simp only [Act.put, List.setIfInBounds_toArray, List.set_cons_zero, List.set_cons_succ]
          refine wpAnyH_take (i := 8) (oi := ({ dst := some 29, op := Op.indexAddr 25 (Operand.tmp 27) (Operand.tmp 28), type := 0, pos := "ref.go:25", after := #[{ on := 6, ground := Ground.data }, { on := 7, ground := Ground.data }, { on := 4, ground := Ground.guard }], guard := some (4, true) } : Oper)) (v := ?_) rfl (by kernel_rfl) (by kernel_rfl) (by kernel_rfl) (fun _ _ _ h => h) (Or.inl ⟨by rfl, ?_⟩) (by assumption) ?_
          rotate_left
          · (intro w hSw; (try dsimp only at hSw); go_simp; try with_reducible rfl)
          try simp only [Act.put, List.setIfInBounds_toArray, List.set_cons_zero, List.set_cons_succ]
          refine wpAnyH_take (i := 9) (oi := ({ dst := some 30, op := Op.load 24 (Operand.tmp 29), type := 24, pos := "ref.go:25", after := #[{ on := 8, ground := Ground.data }, { on := 4, ground := Ground.guard }], guard := some (4, true) } : Oper)) (v := ?_) rfl (by kernel_rfl) (by kernel_rfl) (by kernel_rfl) (fun _ _ _ h => h) (Or.inl ⟨by rfl, ?_⟩) (by assumption) ?_
          rotate_left
          · (intro w hSw; (try dsimp only at hSw); go_simp; try with_reducible rfl)
          try simp only [Act.put, List.setIfInBounds_toArray, List.set_cons_zero, List.set_cons_succ]
          refine wpAnyH_ready (rs := [10]) (by kernel_rfl) (by simp) ?_
          refine AllReadyH.cons rfl (fun K hK => ?_) AllReadyH.nil
          go_simp
          go_wp2_with (go_at_call 11; refine Calls.mono (B11.out _) ?_; rintro e wb ⟨rfl, kb⟩; have bb := HTR.out _ kb; have sb := HSS.out _ bb)
          refine hK.out _ _ (by first | assumption | go_keep) (fun hHeld => ?_)
          clear hK K
          refine wpAnyH_take (i := 11) (oi := ({ dst := some 32, op := Op.unOp UnOp.not 4 (Operand.tmp 31), type := 4, pos := "ref.go:25", after := #[{ on := 10, ground := Ground.data }, { on := 4, ground := Ground.guard }], guard := some (4, true) } : Oper)) (v := ?_) rfl (by kernel_rfl) (by kernel_rfl) (by kernel_rfl) (fun _ _ _ h => h) (Or.inl ⟨by rfl, ?_⟩) (by assumption) ?_
          rotate_left
          · (intro w hSw; (try dsimp only at hSw); go_simp; try with_reducible rfl)
          try simp only [Act.put, List.setIfInBounds_toArray, List.set_cons_zero, List.set_cons_succ]
          refine wpAnyH_take (i := 12) (oi := ({ dst := some 33, op := Op.pick (Operand.tmp 25) (Operand.tmp 32) (Operand.const (Value.bool false)), type := 4, pos := "ref.go:25", after := #[{ on := 4, ground := Ground.data }, { on := 11, ground := Ground.data }], guard := none } : Oper)) (v := ?_) rfl (by kernel_rfl) (by kernel_rfl) (by kernel_rfl) (fun _ _ _ h => h) (Or.inl ⟨by rfl, ?_⟩) (by assumption) ?_
          rotate_left
          · (intro w hSw; (try dsimp only at hSw); go_simp; try with_reducible rfl)
          try simp only [Act.put, List.setIfInBounds_toArray, List.set_cons_zero, List.set_cons_succ]
          refine wpAnyH_done (by kernel_rfl) ?_ _
          go_wp2_with fail
          go_ret
          have hb := HW1.out.trans ((HB.out.trans (bb.mono HB.out.size)).mono HW1.out.size)
          refine ⟨some ⟨b, off, none⟩, cp, ?_, ?_, ?_, hb⟩
          · rw [HIN.out, HL.out]; rfl
          · rw [HIN.out, HL.out]; exact HCP.out
          · rw [HIN.out]; exact HCA.out _ hb
    · obtain rfl : k = n := by omega
      have HA : Hid (aheadN l ⟨ck, cs, cv, cg⟩ = k) := ahead_of (by rw [HL.out]; omega) HE.out (fun y hy => by rw [List.getElem?_eq_none (by rw [HL.out]; omega)] at hy; cases hy)
      have HIN : Hid (insC l ⟨ck, cs, cv, cg⟩ = l.take k ++ (⟨ck, cs, cv, cg⟩ :: l.drop k)) := ins_end HA.out HL.out
      have hdf : decide ((k : Int) < (k : Int)) = false := by simp
      have HSS : Hid True := trivial
      have HTR : Hid True := trivial
      have sd : True := trivial
      go_wp2_with fail
      refine wp_region_held_drew (S := (fun _ => True)) (by kernel_rfl) trivial (fun hHeld => ?_)
      refine wpAnyH_take (i := 0) (oi := ({ dst := some 7, op := Op.move (Operand.tmp 5), type := 3, pos := "ref.go:22", after := #[], guard := none } : Oper)) (v := ?_) rfl (by kernel_rfl) (by kernel_rfl) (by kernel_rfl) (fun _ _ _ h => h) (Or.inl ⟨by rfl, ?_⟩) (by assumption) ?_
      rotate_left
      · (intro w hSw; (try dsimp only at hSw); go_simp; try with_reducible rfl)
      try simp only [Act.put, List.setIfInBounds_toArray, List.set_cons_zero, List.set_cons_succ]
      refine wpAnyH_take (i := 1) (oi := ({ dst := some 8, op := Op.move (Operand.tmp 0), type := 25, pos := "ref.go:22", after := #[], guard := none } : Oper)) (v := ?_) rfl (by kernel_rfl) (by kernel_rfl) (by kernel_rfl) (fun _ _ _ h => h) (Or.inl ⟨by rfl, ?_⟩) (by assumption) ?_
      rotate_left
      · (intro w hSw; (try dsimp only at hSw); go_simp; try with_reducible rfl)
      try simp only [Act.put, List.setIfInBounds_toArray, List.set_cons_zero, List.set_cons_succ]
      refine wpAnyH_take (i := 2) (oi := ({ dst := some 9, op := Op.call { callee := Callee.builtin Builtin.len, args := #[Operand.tmp 8], argTypes := #[25] }, type := 3, pos := "ref.go:22", after := #[{ on := 1, ground := Ground.data }], guard := none } : Oper)) (v := ?_) rfl (by kernel_rfl) (by kernel_rfl) (by kernel_rfl) (fun _ _ _ h => h) (Or.inl ⟨by rfl, ?_⟩) (by assumption) ?_
      rotate_left
      · (intro w hSw; (try dsimp only at hSw); go_simp; try with_reducible rfl)
      try simp only [Act.put, List.setIfInBounds_toArray, List.set_cons_zero, List.set_cons_succ]
      refine wpAnyH_take (i := 3) (oi := ({ dst := some 10, op := Op.binOp BinOp.lss 3 (Operand.tmp 7) (Operand.tmp 9) 3, type := 4, pos := "ref.go:22", after := #[{ on := 0, ground := Ground.data }, { on := 2, ground := Ground.data }], guard := none } : Oper)) (v := ?_) rfl (by kernel_rfl) (by kernel_rfl) (by kernel_rfl) (fun _ _ _ h => h) (Or.inl ⟨by rfl, ?_⟩) (by assumption) ?_
      rotate_left
      · (intro w hSw; (try dsimp only at hSw); go_simp; try with_reducible rfl)
      try simp only [Act.put, List.setIfInBounds_toArray, List.set_cons_zero, List.set_cons_succ]
      refine wpAnyH_take (i := 4) (oi := ({ dst := some 11, op := Op.move (Operand.tmp 10), type := 4, pos := "ref.go:22", after := #[{ on := 3, ground := Ground.data }], guard := none } : Oper)) (v := ?_) rfl (by kernel_rfl) (by kernel_rfl) (by kernel_rfl) (fun _ _ _ h => h) (Or.inl ⟨by rfl, ?_⟩) (by assumption) ?_
      rotate_left
      · (intro w hSw; (try dsimp only at hSw); go_simp; try with_reducible rfl)
      try simp only [Act.put, List.setIfInBounds_toArray, List.set_cons_zero, List.set_cons_succ]
      refine wpAnyH_take (i := 5) (oi := ({ dst := some 12, op := Op.move (Operand.tmp 0), type := 25, pos := "ref.go:22", after := #[{ on := 4, ground := Ground.guard }], guard := some (4, true) } : Oper)) (v := undef) rfl (by kernel_rfl) (by kernel_rfl) (by kernel_rfl) (fun _ _ _ h => h) (Or.inr ⟨by rfl, rfl⟩) (by assumption) ?_
      try simp only [Act.put, List.setIfInBounds_toArray, List.set_cons_zero, List.set_cons_succ]
      refine wpAnyH_take (i := 6) (oi := ({ dst := some 13, op := Op.move (Operand.tmp 5), type := 3, pos := "ref.go:22", after := #[{ on := 4, ground := Ground.guard }], guard := some (4, true) } : Oper)) (v := undef) rfl (by kernel_rfl) (by kernel_rfl) (by kernel_rfl) (fun _ _ _ h => h) (Or.inr ⟨by rfl, rfl⟩) (by assumption) ?_
      try simp only [Act.put, List.setIfInBounds_toArray, List.set_cons_zero, List.set_cons_succ]
      refine wpAnyH_take (i := 7) (oi := ({ dst := some 14, op := Op.indexAddr 25 (Operand.tmp 12) (Operand.tmp 13), type := 0, pos := "ref.go:22", after := #[{ on := 5, ground := Ground.data }, { on := 6, ground := Ground.data }, { on := 4, ground := Ground.guard }], guard := some (4, true) } : Oper)) (v := undef) rfl (by kernel_rfl) (by kernel_rfl) (by kernel_rfl) (fun _ _ _ h => h) (Or.inr ⟨by rfl, rfl⟩) (by assumption) ?_
      try simp only [Act.put, List.setIfInBounds_toArray, List.set_cons_zero, List.set_cons_succ]
      refine wpAnyH_take (i := 8) (oi := ({ dst := some 15, op := Op.load 24 (Operand.tmp 14), type := 24, pos := "ref.go:22", after := #[{ on := 7, ground := Ground.data }, { on := 4, ground := Ground.guard }], guard := some (4, true) } : Oper)) (v := undef) rfl (by kernel_rfl) (by kernel_rfl) (by kernel_rfl) (fun _ _ _ h => h) (Or.inr ⟨by rfl, rfl⟩) (by assumption) ?_
      try simp only [Act.put, List.setIfInBounds_toArray, List.set_cons_zero, List.set_cons_succ]
      refine wpAnyH_take (i := 9) (oi := ({ dst := some 16, op := Op.load 24 (Operand.tmp 3), type := 24, pos := "ref.go:22", after := #[{ on := 4, ground := Ground.guard }], guard := some (4, true) } : Oper)) (v := undef) rfl (by kernel_rfl) (by kernel_rfl) (by kernel_rfl) (fun _ _ _ h => h) (Or.inr ⟨by rfl, rfl⟩) (by assumption) ?_
      try simp only [Act.put, List.setIfInBounds_toArray, List.set_cons_zero, List.set_cons_succ]
      refine wpAnyH_take (i := 10) (oi := ({ dst := some 17, op := Op.call { callee := Callee.value (Operand.func 11), args := #[Operand.tmp 15, Operand.tmp 16], argTypes := #[24, 24] }, type := 4, pos := "ref.go:22", after := #[{ on := 8, ground := Ground.data }, { on := 9, ground := Ground.data }, { on := 4, ground := Ground.chain }, { on := 4, ground := Ground.guard }], guard := some (4, true) } : Oper)) (v := undef) rfl (by kernel_rfl) (by kernel_rfl) (by kernel_rfl) (fun _ _ _ h => h) (Or.inr ⟨by rfl, rfl⟩) (by assumption) ?_
      try simp only [Act.put, List.setIfInBounds_toArray, List.set_cons_zero, List.set_cons_succ]
      refine wpAnyH_take (i := 11) (oi := ({ dst := some 18, op := Op.pick (Operand.tmp 11) (Operand.tmp 17) (Operand.const (Value.bool false)), type := 4, pos := "ref.go:22", after := #[{ on := 4, ground := Ground.data }, { on := 10, ground := Ground.data }], guard := none } : Oper)) (v := ?_) rfl (by kernel_rfl) (by kernel_rfl) (by kernel_rfl) (fun _ _ _ h => h) (Or.inl ⟨by rfl, ?_⟩) (by assumption) ?_
      rotate_left
      · (intro w hSw; (try dsimp only at hSw); go_simp; try with_reducible rfl)
      try simp only [Act.put, List.setIfInBounds_toArray, List.set_cons_zero, List.set_cons_succ]
      refine wpAnyH_done (by kernel_rfl) ?_ _
      go_wp2_with fail
      refine wp_region_held_drew (S := (fun _ => True)) (by kernel_rfl) trivial (fun hHeld => ?_)
      refine wpAnyH_take (i := 0) (oi := ({ dst := some 21, op := Op.move (Operand.tmp 5), type := 3, pos := "ref.go:25", after := #[], guard := none } : Oper)) (v := ?_) rfl (by kernel_rfl) (by kernel_rfl) (by kernel_rfl) (fun _ _ _ h => h) (Or.inl ⟨by rfl, ?_⟩) (by assumption) ?_
      rotate_left
      · (intro w hSw; (try dsimp only at hSw); go_simp; try with_reducible rfl)
      try simp only [Act.put, List.setIfInBounds_toArray, List.set_cons_zero, List.set_cons_succ]
      refine wpAnyH_take (i := 1) (oi := ({ dst := some 22, op := Op.move (Operand.tmp 0), type := 25, pos := "ref.go:25", after := #[], guard := none } : Oper)) (v := ?_) rfl (by kernel_rfl) (by kernel_rfl) (by kernel_rfl) (fun _ _ _ h => h) (Or.inl ⟨by rfl, ?_⟩) (by assumption) ?_
      rotate_left
      · (intro w hSw; (try dsimp only at hSw); go_simp; try with_reducible rfl)
      try simp only [Act.put, List.setIfInBounds_toArray, List.set_cons_zero, List.set_cons_succ]
      refine wpAnyH_take (i := 2) (oi := ({ dst := some 23, op := Op.call { callee := Callee.builtin Builtin.len, args := #[Operand.tmp 22], argTypes := #[25] }, type := 3, pos := "ref.go:25", after := #[{ on := 1, ground := Ground.data }], guard := none } : Oper)) (v := ?_) rfl (by kernel_rfl) (by kernel_rfl) (by kernel_rfl) (fun _ _ _ h => h) (Or.inl ⟨by rfl, ?_⟩) (by assumption) ?_
      rotate_left
      · (intro w hSw; (try dsimp only at hSw); go_simp; try with_reducible rfl)
      try simp only [Act.put, List.setIfInBounds_toArray, List.set_cons_zero, List.set_cons_succ]
      refine wpAnyH_take (i := 3) (oi := ({ dst := some 24, op := Op.binOp BinOp.lss 3 (Operand.tmp 21) (Operand.tmp 23) 3, type := 4, pos := "ref.go:25", after := #[{ on := 0, ground := Ground.data }, { on := 2, ground := Ground.data }], guard := none } : Oper)) (v := ?_) rfl (by kernel_rfl) (by kernel_rfl) (by kernel_rfl) (fun _ _ _ h => h) (Or.inl ⟨by rfl, ?_⟩) (by assumption) ?_
      rotate_left
      · (intro w hSw; (try dsimp only at hSw); go_simp; try with_reducible rfl)
      try simp only [Act.put, List.setIfInBounds_toArray, List.set_cons_zero, List.set_cons_succ]
      refine wpAnyH_take (i := 4) (oi := ({ dst := some 25, op := Op.move (Operand.tmp 24), type := 4, pos := "ref.go:25", after := #[{ on := 3, ground := Ground.data }], guard := none } : Oper)) (v := ?_) rfl (by kernel_rfl) (by kernel_rfl) (by kernel_rfl) (fun _ _ _ h => h) (Or.inl ⟨by rfl, ?_⟩) (by assumption) ?_
      rotate_left
      · (intro w hSw; (try dsimp only at hSw); go_simp; try with_reducible rfl)
      try simp only [Act.put, List.setIfInBounds_toArray, List.set_cons_zero, List.set_cons_succ]
      refine wpAnyH_take (i := 5) (oi := ({ dst := some 26, op := Op.load 24 (Operand.tmp 3), type := 24, pos := "ref.go:25", after := #[{ on := 4, ground := Ground.guard }], guard := some (4, true) } : Oper)) (v := undef) rfl (by kernel_rfl) (by kernel_rfl) (by kernel_rfl) (fun _ _ _ h => h) (Or.inr ⟨by rfl, rfl⟩) (by assumption) ?_
      try simp only [Act.put, List.setIfInBounds_toArray, List.set_cons_zero, List.set_cons_succ]
      refine wpAnyH_take (i := 6) (oi := ({ dst := some 27, op := Op.move (Operand.tmp 0), type := 25, pos := "ref.go:25", after := #[{ on := 4, ground := Ground.guard }], guard := some (4, true) } : Oper)) (v := undef) rfl (by kernel_rfl) (by kernel_rfl) (by kernel_rfl) (fun _ _ _ h => h) (Or.inr ⟨by rfl, rfl⟩) (by assumption) ?_
      try simp only [Act.put, List.setIfInBounds_toArray, List.set_cons_zero, List.set_cons_succ]
      refine wpAnyH_take (i := 7) (oi := ({ dst := some 28, op := Op.move (Operand.tmp 5), type := 3, pos := "ref.go:25", after := #[{ on := 4, ground := Ground.guard }], guard := some (4, true) } : Oper)) (v := undef) rfl (by kernel_rfl) (by kernel_rfl) (by kernel_rfl) (fun _ _ _ h => h) (Or.inr ⟨by rfl, rfl⟩) (by assumption) ?_
      try simp only [Act.put, List.setIfInBounds_toArray, List.set_cons_zero, List.set_cons_succ]
      refine wpAnyH_take (i := 8) (oi := ({ dst := some 29, op := Op.indexAddr 25 (Operand.tmp 27) (Operand.tmp 28), type := 0, pos := "ref.go:25", after := #[{ on := 6, ground := Ground.data }, { on := 7, ground := Ground.data }, { on := 4, ground := Ground.guard }], guard := some (4, true) } : Oper)) (v := undef) rfl (by kernel_rfl) (by kernel_rfl) (by kernel_rfl) (fun _ _ _ h => h) (Or.inr ⟨by rfl, rfl⟩) (by assumption) ?_
      try simp only [Act.put, List.setIfInBounds_toArray, List.set_cons_zero, List.set_cons_succ]
      refine wpAnyH_take (i := 9) (oi := ({ dst := some 30, op := Op.load 24 (Operand.tmp 29), type := 24, pos := "ref.go:25", after := #[{ on := 8, ground := Ground.data }, { on := 4, ground := Ground.guard }], guard := some (4, true) } : Oper)) (v := undef) rfl (by kernel_rfl) (by kernel_rfl) (by kernel_rfl) (fun _ _ _ h => h) (Or.inr ⟨by rfl, rfl⟩) (by assumption) ?_
      try simp only [Act.put, List.setIfInBounds_toArray, List.set_cons_zero, List.set_cons_succ]
      refine wpAnyH_take (i := 10) (oi := ({ dst := some 31, op := Op.call { callee := Callee.value (Operand.func 11), args := #[Operand.tmp 26, Operand.tmp 30], argTypes := #[24, 24] }, type := 4, pos := "ref.go:25", after := #[{ on := 5, ground := Ground.data }, { on := 9, ground := Ground.data }, { on := 4, ground := Ground.chain }, { on := 4, ground := Ground.guard }], guard := some (4, true) } : Oper)) (v := undef) rfl (by kernel_rfl) (by kernel_rfl) (by kernel_rfl) (fun _ _ _ h => h) (Or.inr ⟨by rfl, rfl⟩) (by assumption) ?_
      try simp only [Act.put, List.setIfInBounds_toArray, List.set_cons_zero, List.set_cons_succ]
      refine wpAnyH_take (i := 11) (oi := ({ dst := some 32, op := Op.unOp UnOp.not 4 (Operand.tmp 31), type := 4, pos := "ref.go:25", after := #[{ on := 10, ground := Ground.data }, { on := 4, ground := Ground.guard }], guard := some (4, true) } : Oper)) (v := undef) rfl (by kernel_rfl) (by kernel_rfl) (by kernel_rfl) (fun _ _ _ h => h) (Or.inr ⟨by rfl, rfl⟩) (by assumption) ?_
      try simp only [Act.put, List.setIfInBounds_toArray, List.set_cons_zero, List.set_cons_succ]
      refine wpAnyH_take (i := 12) (oi := ({ dst := some 33, op := Op.pick (Operand.tmp 25) (Operand.tmp 32) (Operand.const (Value.bool false)), type := 4, pos := "ref.go:25", after := #[{ on := 4, ground := Ground.data }, { on := 11, ground := Ground.data }], guard := none } : Oper)) (v := ?_) rfl (by kernel_rfl) (by kernel_rfl) (by kernel_rfl) (fun _ _ _ h => h) (Or.inl ⟨by rfl, ?_⟩) (by assumption) ?_
      rotate_left
      · (intro w hSw; (try dsimp only at hSw); go_simp; try with_reducible rfl)
      try simp only [Act.put, List.setIfInBounds_toArray, List.set_cons_zero, List.set_cons_succ]
      refine wpAnyH_done (by kernel_rfl) ?_ _
      have hbq0 := HB.out.drew.drew
      generalize wr.drew.drew = wq at hbq0 ⊢
      have HBQ : Hid (Below W1.heap.size W1 wq) := hbq0
      clear hbq0 HB HBW HE
      have HRX : Hid (RowAt (wq.alloc (.cells #[] 24)) wq.heap.size 24 4 (.slice (some ⟨wq.heap.size, 0, none⟩) 0 0) 0 []) := ⟨rfl, Or.inr ⟨wq.heap.size, 0, #[], rfl, Nat.le_refl _, World.alloc_heap_new _ _, Nat.le_refl _, Nat.zero_le _, rfl, rfl⟩⟩
      have HBA : Hid (Below W1.heap.size W1 (wq.alloc (.cells #[] 24))) := HBQ.out.trans (((Below.refl _ wq).alloc (Nat.le_refl _) _).mono HBQ.out.size)
      have HT1 : Hid ((flC (l.take k)).length = k * 4) := by rw [Hid, flC_len, List.length_take, HL.out, Nat.min_eq_left hk]
      have HN1 : Hid (∀ j u, (flC (l.take k))[j]? = some u → (wq.alloc (.cells #[] 24)).cell? ((⟨b, off, none⟩ : Addr).add j) = some u) := ca_flat' ((HCA.out _ (HW1.out.trans (HBA.out.mono HW1.out.size))).take k)
      have HWQ : Hid (W1.heap.size ≤ wq.heap.size) := HBQ.out.size
      have HCD : Hid (∀ V, Below W1.heap.size W1 V → ∀ j u, (flC (l.drop k))[j]? = some u → V.cell? ((⟨b, off + k * 4, none⟩ : Addr).add j) = some u) := fun V hV => ca_flat' ((HCA.out _ (HW1.out.trans (hV.mono HW1.out.size))).drop k)
      have HT3 : Hid ((flC (l.drop k)).length = (k - k) * 4) := by rw [Hid, flC_len, List.length_drop, HL.out]
      have HFL : Hid (flC (l.take k) ++ clL ⟨ck, cs, cv, cg⟩ ++ flC (l.drop k) = flC (insC l ⟨ck, cs, cv, cg⟩)) := by rw [Hid, HIN.out, flC_app, flC_cons, List.append_assoc]
      have HLN : Hid (k + 1 + (k - k) = (insC l ⟨ck, cs, cv, cg⟩).length) := by rw [Hid, HIN.out]; simp only [List.length_append, List.length_take, List.length_cons, List.length_drop]; rw [HL.out]; omega
      have hkcp : k ≤ cp := by have := HCP.out; omega
      have HKC : Hid (k ≤ cp) := HCP.out
      clear HBQ HSS HTR sd
      have HDR : Hid (flC (l.drop k) = []) := by rw [Hid, List.drop_eq_nil_of_le (by rw [HL.out]; omega)]; rfl
      have HL0 : Hid (k + 1 + 0 = (insC l ⟨ck, cs, cv, cg⟩).length) := by have := HLN.out; rw [Hid]; omega
      by_cases hkl : k < cp
      case' neg => have hkz : cp - k = 0 := by omega
      all_goals
        go_wp2_with (first
          | (at_builtin; refine wpList_append_own _ rfl _ _ 25 rfl wq.heap.size 24 i0 (.agg #[.string ByteArray.empty, .int .u64 0, .string ByteArray.empty, .bool false]) 4 48 Try.underlying25 hi hz0 hz1 hz2 rfl (by decide) _ _ _ rfl HR4.out ⟨b, off + k * 4, none⟩ 0 (cp - k) [] rfl rfl (fun j u h => by simp at h) (fun u h => by simp at h) (by unfold maxLen; omega) (by omega) HS5.out ?_; intro v6 w7 hown6 hg6 _; have HR6 : Hid (w7.ownsRow wq.heap.size 24 4 v6 (insC l ⟨ck, cs, cv, cg⟩).length (flC (insC l ⟨ck, cs, cv, cg⟩))) := (by rw [← HL0.out, ← HFL.out, HDR.out]; exact hown6); have HB7 : Hid (Below W1.heap.size W1 w7) := HB5.out.grown hg6 HB5.out.size (fun k e => Nat.le_trans HWQ.out (World.ownsRow.lt HR4.out k e).1); clear hown6 hg6 HR4)
          | (at_builtin; refine wpList_append_own _ rfl _ _ 25 rfl wq.heap.size 24 i0 (.agg #[.string ByteArray.empty, .int .u64 0, .string ByteArray.empty, .bool false]) 4 48 Try.underlying25 hi hz0 hz1 hz2 rfl (by decide) _ _ _ rfl HR4.out ⟨b, off, none⟩ 0 0 [] rfl rfl (fun j u h => by simp at h) (fun u h => by simp at h) (by unfold maxLen; omega) (by omega) HS5.out ?_; intro v6 w7 hown6 hg6 _; have HR6 : Hid (w7.ownsRow wq.heap.size 24 4 v6 (insC l ⟨ck, cs, cv, cg⟩).length (flC (insC l ⟨ck, cs, cv, cg⟩))) := (by rw [← HL0.out, ← HFL.out, HDR.out]; exact hown6); have HB7 : Hid (Below W1.heap.size W1 w7) := HB5.out.grown hg6 HB5.out.size (fun k e => Nat.le_trans HWQ.out (World.ownsRow.lt HR4.out k e).1); clear hown6 hg6 HR4)
          | (at_builtin; refine wpList_append_own _ rfl _ _ 25 rfl wq.heap.size 24 i0 (.agg #[.string ByteArray.empty, .int .u64 0, .string ByteArray.empty, .bool false]) 4 48 Try.underlying25 hi hz0 hz1 hz2 rfl (by decide) _ _ _ rfl HR4.out ⟨b, off, none⟩ 0 (cp - k) [] rfl rfl (fun j u h => by simp at h) (fun u h => by simp at h) (by unfold maxLen; omega) (by omega) HS5.out ?_; intro v6 w7 hown6 hg6 _; have HR6 : Hid (w7.ownsRow wq.heap.size 24 4 v6 (insC l ⟨ck, cs, cv, cg⟩).length (flC (insC l ⟨ck, cs, cv, cg⟩))) := (by rw [← HL0.out, ← HFL.out, HDR.out]; exact hown6); have HB7 : Hid (Below W1.heap.size W1 w7) := HB5.out.grown hg6 HB5.out.size (fun k e => Nat.le_trans HWQ.out (World.ownsRow.lt HR4.out k e).1); clear hown6 hg6 HR4)
          | (at_builtin; refine wpList_append_own _ rfl _ _ 25 rfl wq.heap.size 24 i0 (.agg #[.string ByteArray.empty, .int .u64 0, .string ByteArray.empty, .bool false]) 4 48 Try.underlying25 hi hz0 hz1 hz2 rfl (by decide) _ _ _ rfl HR3.out ⟨w3.heap.size, 0, none⟩ 1 1 (clL ⟨ck, cs, cv, cg⟩) rfl rfl HN2.out (by intro u hu; simp [clL] at hu; rcases hu with rfl | rfl | rfl | rfl <;> rfl) (by unfold maxLen; omega) (by omega) HS4.out ?_; intro v4 w5 hown4 hg4 _; obtain ⟨va4, vc4, rfl⟩ := row_form4 hown4; have HR4 : Hid (w5.ownsRow wq.heap.size 24 4 (.slice va4 (k + 1) vc4) (k + 1) (flC (l.take k) ++ clL ⟨ck, cs, cv, cg⟩)) := hown4; have HB5 : Hid (Below W1.heap.size W1 w5) := HB4.out.grown hg4 HB4.out.size (fun k e => Nat.le_trans HWQ.out (World.ownsRow.lt HR3.out k e).1); have HS5 : Hid (wq.heap.size ≤ w5.heap.size) := Nat.le_trans HS4.out hg4.size; clear hown4 hg4 HR3)
          | (at_builtin; refine wpList_append_own _ rfl _ _ 25 rfl wq.heap.size 24 i0 (.agg #[.string ByteArray.empty, .int .u64 0, .string ByteArray.empty, .bool false]) 4 48 Try.underlying25 hi hz0 hz1 hz2 rfl (by decide) _ _ _ rfl HRX.out ⟨b, off, none⟩ k cp (flC (l.take k)) rfl HT1.out HN1.out (flC_one _) (by unfold maxLen; omega) (by omega) (by simp) ?_; intro v2 w3 hown2 hg2 _; have hr2 : w3.ownsRow wq.heap.size 24 4 v2 k (flC (l.take k)) := (by simpa using hown2); obtain ⟨va, vc, rfl⟩ := row_form4 hr2; have HB3 : Hid (Below W1.heap.size W1 w3) := HBA.out.grown hg2 HBA.out.size (fun k e => Nat.le_trans HWQ.out (World.ownsRow.lt HRX.out k e).1); obtain ⟨q0, q1, q2, q3⟩ := HC4.out w3 HB3.out; have HB4 : Hid (Below W1.heap.size W1 (w3.alloc (.cells #[.string ck, .int .u64 (cs : Nat), .string cv, .bool cg] 24))) := HB3.out.trans (((Below.refl _ w3).alloc (Nat.le_refl _) _).mono HB3.out.size); have HR3 : Hid ((w3.alloc (.cells #[.string ck, .int .u64 (cs : Nat), .string cv, .bool cg] 24)).ownsRow wq.heap.size 24 4 (.slice va k vc) k (flC (l.take k))) := World.ownsRow.alloc hr2 _; have HN2 : Hid (∀ j u, (clL ⟨ck, cs, cv, cg⟩)[j]? = some u → (w3.alloc (.cells #[.string ck, .int .u64 (cs : Nat), .string cv, .bool cg] 24)).cell? ((⟨w3.heap.size, 0, none⟩ : Addr).add j) = some u) := new_cell w3 ⟨ck, cs, cv, cg⟩; have HS4 : Hid (wq.heap.size ≤ (w3.alloc (.cells #[.string ck, .int .u64 (cs : Nat), .string cv, .bool cg] 24)).heap.size) := (by have := hg2.size; simp only [World.size_alloc] at *; rw [Hid]; omega); clear hown2 hg2 hr2 HRX))
        go_ret
        obtain ⟨ra, rc, rfl, hrc, hca⟩ := ca_row HR6.out
        exact ⟨ra, rc, rfl, hrc, hca, HW1.out.trans (HB7.out.mono HW1.out.size)⟩
set_option maxRecDepth 100000 in
set_option maxHeartbeats 4000000 in
theorem with_none (ck cv : ByteArray) (cs : Nat) (cg : Bool) (w : World) : Calls Try.prog 24 #[.slice none 0 0, .agg #[.string ck, .int .u64 (cs : Nat), .string cv, .bool cg]] w (WithOut w [] ⟨ck, cs, cv, cg⟩) := by
  obtain ⟨i0, hi, hz0, hz1, hz2⟩ := info_parts info24
  obtain ⟨W1, hW1⟩ : ∃ W1, W1 = w.alloc (.cells #[.string ck, .int .u64 (cs : Nat), .string cv, .bool cg] 24) := ⟨_, rfl⟩
  have HW1 : Hid (Below w.heap.size w W1) := by rw [hW1]; exact (Below.refl _ w).alloc (Nat.le_refl _) _
  have HZ1 : Hid (W1.heap.size = w.heap.size + 1) := by rw [hW1]; simp [Hid]
  have HC4 : Hid (∀ W, Below W1.heap.size W1 W → W.cell? ⟨w.heap.size, 0, none⟩ = some (.string ck) ∧ W.cell? ⟨w.heap.size, 1, none⟩ = some (.int .u64 (cs : Nat)) ∧ W.cell? ⟨w.heap.size, 2, none⟩ = some (.string cv) ∧ W.cell? ⟨w.heap.size, 3, none⟩ = some (.bool cg)) := fun W hW => by
    have hb : W.heap[w.heap.size]? = some (.cells #[.string ck, .int .u64 (cs : Nat), .string cv, .bool cg] 24 (0, 0)) := (hW.block _ (by rw [HZ1.out]; omega)).trans (by rw [hW1]; exact World.alloc_heap_new _ _)
    exact ⟨cells_of_block hb 0, cells_of_block hb 1, cells_of_block hb 2, cells_of_block hb 3⟩
  have HHW : Hid (W1 = w.alloc (.cells #[.string ck, .int .u64 (cs : Nat), .string cv, .bool cg] 24)) := hW1
  clear hW1
  go_enter Try.func24, Try.ntmps24
  go_wp2_with fail
  rw [← HHW.out]
  clear HHW
  refine wp_loop_rounds 1 ?_
  rw [rounds_succ]
  go_wp2_with fail
  refine wp_region_held_drew (S := (fun _ => True)) (by kernel_rfl) trivial (fun hHeld => ?_)
  refine wpAnyH_take (i := 0) (oi := ({ dst := some 7, op := Op.move (Operand.tmp 5), type := 3, pos := "ref.go:22", after := #[], guard := none } : Oper)) (v := ?_) rfl (by kernel_rfl) (by kernel_rfl) (by kernel_rfl) (fun _ _ _ h => h) (Or.inl ⟨by rfl, ?_⟩) (by assumption) ?_
  rotate_left
  · (intro w hSw; (try dsimp only at hSw); go_simp; try with_reducible rfl)
  try simp only [Act.put, List.setIfInBounds_toArray, List.set_cons_zero, List.set_cons_succ]
  refine wpAnyH_take (i := 1) (oi := ({ dst := some 8, op := Op.move (Operand.tmp 0), type := 25, pos := "ref.go:22", after := #[], guard := none } : Oper)) (v := ?_) rfl (by kernel_rfl) (by kernel_rfl) (by kernel_rfl) (fun _ _ _ h => h) (Or.inl ⟨by rfl, ?_⟩) (by assumption) ?_
  rotate_left
  · (intro w hSw; (try dsimp only at hSw); go_simp; try with_reducible rfl)
  try simp only [Act.put, List.setIfInBounds_toArray, List.set_cons_zero, List.set_cons_succ]
  refine wpAnyH_take (i := 2) (oi := ({ dst := some 9, op := Op.call { callee := Callee.builtin Builtin.len, args := #[Operand.tmp 8], argTypes := #[25] }, type := 3, pos := "ref.go:22", after := #[{ on := 1, ground := Ground.data }], guard := none } : Oper)) (v := ?_) rfl (by kernel_rfl) (by kernel_rfl) (by kernel_rfl) (fun _ _ _ h => h) (Or.inl ⟨by rfl, ?_⟩) (by assumption) ?_
  rotate_left
  · (intro w hSw; (try dsimp only at hSw); go_simp; try with_reducible rfl)
  try simp only [Act.put, List.setIfInBounds_toArray, List.set_cons_zero, List.set_cons_succ]
  refine wpAnyH_take (i := 3) (oi := ({ dst := some 10, op := Op.binOp BinOp.lss 3 (Operand.tmp 7) (Operand.tmp 9) 3, type := 4, pos := "ref.go:22", after := #[{ on := 0, ground := Ground.data }, { on := 2, ground := Ground.data }], guard := none } : Oper)) (v := ?_) rfl (by kernel_rfl) (by kernel_rfl) (by kernel_rfl) (fun _ _ _ h => h) (Or.inl ⟨by rfl, ?_⟩) (by assumption) ?_
  rotate_left
  · (intro w hSw; (try dsimp only at hSw); go_simp; try with_reducible rfl)
  try simp only [Act.put, List.setIfInBounds_toArray, List.set_cons_zero, List.set_cons_succ]
  refine wpAnyH_take (i := 4) (oi := ({ dst := some 11, op := Op.move (Operand.tmp 10), type := 4, pos := "ref.go:22", after := #[{ on := 3, ground := Ground.data }], guard := none } : Oper)) (v := ?_) rfl (by kernel_rfl) (by kernel_rfl) (by kernel_rfl) (fun _ _ _ h => h) (Or.inl ⟨by rfl, ?_⟩) (by assumption) ?_
  rotate_left
  · (intro w hSw; (try dsimp only at hSw); go_simp; try with_reducible rfl)
  try simp only [Act.put, List.setIfInBounds_toArray, List.set_cons_zero, List.set_cons_succ]
  refine wpAnyH_take (i := 5) (oi := ({ dst := some 12, op := Op.move (Operand.tmp 0), type := 25, pos := "ref.go:22", after := #[{ on := 4, ground := Ground.guard }], guard := some (4, true) } : Oper)) (v := undef) rfl (by kernel_rfl) (by kernel_rfl) (by kernel_rfl) (fun _ _ _ h => h) (Or.inr ⟨by rfl, rfl⟩) (by assumption) ?_
  try simp only [Act.put, List.setIfInBounds_toArray, List.set_cons_zero, List.set_cons_succ]
  refine wpAnyH_take (i := 6) (oi := ({ dst := some 13, op := Op.move (Operand.tmp 5), type := 3, pos := "ref.go:22", after := #[{ on := 4, ground := Ground.guard }], guard := some (4, true) } : Oper)) (v := undef) rfl (by kernel_rfl) (by kernel_rfl) (by kernel_rfl) (fun _ _ _ h => h) (Or.inr ⟨by rfl, rfl⟩) (by assumption) ?_
  try simp only [Act.put, List.setIfInBounds_toArray, List.set_cons_zero, List.set_cons_succ]
  refine wpAnyH_take (i := 7) (oi := ({ dst := some 14, op := Op.indexAddr 25 (Operand.tmp 12) (Operand.tmp 13), type := 0, pos := "ref.go:22", after := #[{ on := 5, ground := Ground.data }, { on := 6, ground := Ground.data }, { on := 4, ground := Ground.guard }], guard := some (4, true) } : Oper)) (v := undef) rfl (by kernel_rfl) (by kernel_rfl) (by kernel_rfl) (fun _ _ _ h => h) (Or.inr ⟨by rfl, rfl⟩) (by assumption) ?_
  try simp only [Act.put, List.setIfInBounds_toArray, List.set_cons_zero, List.set_cons_succ]
  refine wpAnyH_take (i := 8) (oi := ({ dst := some 15, op := Op.load 24 (Operand.tmp 14), type := 24, pos := "ref.go:22", after := #[{ on := 7, ground := Ground.data }, { on := 4, ground := Ground.guard }], guard := some (4, true) } : Oper)) (v := undef) rfl (by kernel_rfl) (by kernel_rfl) (by kernel_rfl) (fun _ _ _ h => h) (Or.inr ⟨by rfl, rfl⟩) (by assumption) ?_
  try simp only [Act.put, List.setIfInBounds_toArray, List.set_cons_zero, List.set_cons_succ]
  refine wpAnyH_take (i := 9) (oi := ({ dst := some 16, op := Op.load 24 (Operand.tmp 3), type := 24, pos := "ref.go:22", after := #[{ on := 4, ground := Ground.guard }], guard := some (4, true) } : Oper)) (v := undef) rfl (by kernel_rfl) (by kernel_rfl) (by kernel_rfl) (fun _ _ _ h => h) (Or.inr ⟨by rfl, rfl⟩) (by assumption) ?_
  try simp only [Act.put, List.setIfInBounds_toArray, List.set_cons_zero, List.set_cons_succ]
  refine wpAnyH_take (i := 10) (oi := ({ dst := some 17, op := Op.call { callee := Callee.value (Operand.func 11), args := #[Operand.tmp 15, Operand.tmp 16], argTypes := #[24, 24] }, type := 4, pos := "ref.go:22", after := #[{ on := 8, ground := Ground.data }, { on := 9, ground := Ground.data }, { on := 4, ground := Ground.chain }, { on := 4, ground := Ground.guard }], guard := some (4, true) } : Oper)) (v := undef) rfl (by kernel_rfl) (by kernel_rfl) (by kernel_rfl) (fun _ _ _ h => h) (Or.inr ⟨by rfl, rfl⟩) (by assumption) ?_
  try simp only [Act.put, List.setIfInBounds_toArray, List.set_cons_zero, List.set_cons_succ]
  refine wpAnyH_take (i := 11) (oi := ({ dst := some 18, op := Op.pick (Operand.tmp 11) (Operand.tmp 17) (Operand.const (Value.bool false)), type := 4, pos := "ref.go:22", after := #[{ on := 4, ground := Ground.data }, { on := 10, ground := Ground.data }], guard := none } : Oper)) (v := ?_) rfl (by kernel_rfl) (by kernel_rfl) (by kernel_rfl) (fun _ _ _ h => h) (Or.inl ⟨by rfl, ?_⟩) (by assumption) ?_
  rotate_left
  · (intro w hSw; (try dsimp only at hSw); go_simp; try with_reducible rfl)
  try simp only [Act.put, List.setIfInBounds_toArray, List.set_cons_zero, List.set_cons_succ]
  refine wpAnyH_done (by kernel_rfl) ?_ _
  go_wp2_with fail
  refine wp_region_held_drew (S := (fun _ => True)) (by kernel_rfl) trivial (fun hHeld => ?_)
  refine wpAnyH_take (i := 0) (oi := ({ dst := some 21, op := Op.move (Operand.tmp 5), type := 3, pos := "ref.go:25", after := #[], guard := none } : Oper)) (v := ?_) rfl (by kernel_rfl) (by kernel_rfl) (by kernel_rfl) (fun _ _ _ h => h) (Or.inl ⟨by rfl, ?_⟩) (by assumption) ?_
  rotate_left
  · (intro w hSw; (try dsimp only at hSw); go_simp; try with_reducible rfl)
  try simp only [Act.put, List.setIfInBounds_toArray, List.set_cons_zero, List.set_cons_succ]
  refine wpAnyH_take (i := 1) (oi := ({ dst := some 22, op := Op.move (Operand.tmp 0), type := 25, pos := "ref.go:25", after := #[], guard := none } : Oper)) (v := ?_) rfl (by kernel_rfl) (by kernel_rfl) (by kernel_rfl) (fun _ _ _ h => h) (Or.inl ⟨by rfl, ?_⟩) (by assumption) ?_
  rotate_left
  · (intro w hSw; (try dsimp only at hSw); go_simp; try with_reducible rfl)
  try simp only [Act.put, List.setIfInBounds_toArray, List.set_cons_zero, List.set_cons_succ]
  refine wpAnyH_take (i := 2) (oi := ({ dst := some 23, op := Op.call { callee := Callee.builtin Builtin.len, args := #[Operand.tmp 22], argTypes := #[25] }, type := 3, pos := "ref.go:25", after := #[{ on := 1, ground := Ground.data }], guard := none } : Oper)) (v := ?_) rfl (by kernel_rfl) (by kernel_rfl) (by kernel_rfl) (fun _ _ _ h => h) (Or.inl ⟨by rfl, ?_⟩) (by assumption) ?_
  rotate_left
  · (intro w hSw; (try dsimp only at hSw); go_simp; try with_reducible rfl)
  try simp only [Act.put, List.setIfInBounds_toArray, List.set_cons_zero, List.set_cons_succ]
  refine wpAnyH_take (i := 3) (oi := ({ dst := some 24, op := Op.binOp BinOp.lss 3 (Operand.tmp 21) (Operand.tmp 23) 3, type := 4, pos := "ref.go:25", after := #[{ on := 0, ground := Ground.data }, { on := 2, ground := Ground.data }], guard := none } : Oper)) (v := ?_) rfl (by kernel_rfl) (by kernel_rfl) (by kernel_rfl) (fun _ _ _ h => h) (Or.inl ⟨by rfl, ?_⟩) (by assumption) ?_
  rotate_left
  · (intro w hSw; (try dsimp only at hSw); go_simp; try with_reducible rfl)
  try simp only [Act.put, List.setIfInBounds_toArray, List.set_cons_zero, List.set_cons_succ]
  refine wpAnyH_take (i := 4) (oi := ({ dst := some 25, op := Op.move (Operand.tmp 24), type := 4, pos := "ref.go:25", after := #[{ on := 3, ground := Ground.data }], guard := none } : Oper)) (v := ?_) rfl (by kernel_rfl) (by kernel_rfl) (by kernel_rfl) (fun _ _ _ h => h) (Or.inl ⟨by rfl, ?_⟩) (by assumption) ?_
  rotate_left
  · (intro w hSw; (try dsimp only at hSw); go_simp; try with_reducible rfl)
  try simp only [Act.put, List.setIfInBounds_toArray, List.set_cons_zero, List.set_cons_succ]
  refine wpAnyH_take (i := 5) (oi := ({ dst := some 26, op := Op.load 24 (Operand.tmp 3), type := 24, pos := "ref.go:25", after := #[{ on := 4, ground := Ground.guard }], guard := some (4, true) } : Oper)) (v := undef) rfl (by kernel_rfl) (by kernel_rfl) (by kernel_rfl) (fun _ _ _ h => h) (Or.inr ⟨by rfl, rfl⟩) (by assumption) ?_
  try simp only [Act.put, List.setIfInBounds_toArray, List.set_cons_zero, List.set_cons_succ]
  refine wpAnyH_take (i := 6) (oi := ({ dst := some 27, op := Op.move (Operand.tmp 0), type := 25, pos := "ref.go:25", after := #[{ on := 4, ground := Ground.guard }], guard := some (4, true) } : Oper)) (v := undef) rfl (by kernel_rfl) (by kernel_rfl) (by kernel_rfl) (fun _ _ _ h => h) (Or.inr ⟨by rfl, rfl⟩) (by assumption) ?_
  try simp only [Act.put, List.setIfInBounds_toArray, List.set_cons_zero, List.set_cons_succ]
  refine wpAnyH_take (i := 7) (oi := ({ dst := some 28, op := Op.move (Operand.tmp 5), type := 3, pos := "ref.go:25", after := #[{ on := 4, ground := Ground.guard }], guard := some (4, true) } : Oper)) (v := undef) rfl (by kernel_rfl) (by kernel_rfl) (by kernel_rfl) (fun _ _ _ h => h) (Or.inr ⟨by rfl, rfl⟩) (by assumption) ?_
  try simp only [Act.put, List.setIfInBounds_toArray, List.set_cons_zero, List.set_cons_succ]
  refine wpAnyH_take (i := 8) (oi := ({ dst := some 29, op := Op.indexAddr 25 (Operand.tmp 27) (Operand.tmp 28), type := 0, pos := "ref.go:25", after := #[{ on := 6, ground := Ground.data }, { on := 7, ground := Ground.data }, { on := 4, ground := Ground.guard }], guard := some (4, true) } : Oper)) (v := undef) rfl (by kernel_rfl) (by kernel_rfl) (by kernel_rfl) (fun _ _ _ h => h) (Or.inr ⟨by rfl, rfl⟩) (by assumption) ?_
  try simp only [Act.put, List.setIfInBounds_toArray, List.set_cons_zero, List.set_cons_succ]
  refine wpAnyH_take (i := 9) (oi := ({ dst := some 30, op := Op.load 24 (Operand.tmp 29), type := 24, pos := "ref.go:25", after := #[{ on := 8, ground := Ground.data }, { on := 4, ground := Ground.guard }], guard := some (4, true) } : Oper)) (v := undef) rfl (by kernel_rfl) (by kernel_rfl) (by kernel_rfl) (fun _ _ _ h => h) (Or.inr ⟨by rfl, rfl⟩) (by assumption) ?_
  try simp only [Act.put, List.setIfInBounds_toArray, List.set_cons_zero, List.set_cons_succ]
  refine wpAnyH_take (i := 10) (oi := ({ dst := some 31, op := Op.call { callee := Callee.value (Operand.func 11), args := #[Operand.tmp 26, Operand.tmp 30], argTypes := #[24, 24] }, type := 4, pos := "ref.go:25", after := #[{ on := 5, ground := Ground.data }, { on := 9, ground := Ground.data }, { on := 4, ground := Ground.chain }, { on := 4, ground := Ground.guard }], guard := some (4, true) } : Oper)) (v := undef) rfl (by kernel_rfl) (by kernel_rfl) (by kernel_rfl) (fun _ _ _ h => h) (Or.inr ⟨by rfl, rfl⟩) (by assumption) ?_
  try simp only [Act.put, List.setIfInBounds_toArray, List.set_cons_zero, List.set_cons_succ]
  refine wpAnyH_take (i := 11) (oi := ({ dst := some 32, op := Op.unOp UnOp.not 4 (Operand.tmp 31), type := 4, pos := "ref.go:25", after := #[{ on := 10, ground := Ground.data }, { on := 4, ground := Ground.guard }], guard := some (4, true) } : Oper)) (v := undef) rfl (by kernel_rfl) (by kernel_rfl) (by kernel_rfl) (fun _ _ _ h => h) (Or.inr ⟨by rfl, rfl⟩) (by assumption) ?_
  try simp only [Act.put, List.setIfInBounds_toArray, List.set_cons_zero, List.set_cons_succ]
  refine wpAnyH_take (i := 12) (oi := ({ dst := some 33, op := Op.pick (Operand.tmp 25) (Operand.tmp 32) (Operand.const (Value.bool false)), type := 4, pos := "ref.go:25", after := #[{ on := 4, ground := Ground.data }, { on := 11, ground := Ground.data }], guard := none } : Oper)) (v := ?_) rfl (by kernel_rfl) (by kernel_rfl) (by kernel_rfl) (fun _ _ _ h => h) (Or.inl ⟨by rfl, ?_⟩) (by assumption) ?_
  rotate_left
  · (intro w hSw; (try dsimp only at hSw); go_simp; try with_reducible rfl)
  try simp only [Act.put, List.setIfInBounds_toArray, List.set_cons_zero, List.set_cons_succ]
  refine wpAnyH_done (by kernel_rfl) ?_ _
  have hbq0 := ((Below.refl W1.heap.size W1).drew).drew
  generalize W1.drew.drew = wq at hbq0 ⊢
  have HBQ : Hid (Below W1.heap.size W1 wq) := hbq0
  have HRX : Hid (RowAt (wq.alloc (.cells #[] 24)) wq.heap.size 24 4 (.slice (some ⟨wq.heap.size, 0, none⟩) 0 0) 0 []) := ⟨rfl, Or.inr ⟨wq.heap.size, 0, #[], rfl, Nat.le_refl _, World.alloc_heap_new _ _, Nat.le_refl _, Nat.zero_le _, rfl, rfl⟩⟩
  have HBA : Hid (Below W1.heap.size W1 (wq.alloc (.cells #[] 24))) := HBQ.out.trans (((Below.refl _ wq).alloc (Nat.le_refl _) _).mono HBQ.out.size)
  obtain ⟨q0, q1, q2, q3⟩ := HC4.out (wq.alloc (.cells #[] 24)) HBA.out
  have HR3 : Hid (RowAt ((wq.alloc (.cells #[] 24)).alloc (.cells #[.string ck, .int .u64 (cs : Nat), .string cv, .bool cg] 24)) wq.heap.size 24 4 (.slice (some ⟨wq.heap.size, 0, none⟩) 0 0) 0 []) := World.ownsRow.alloc HRX.out _
  have HB4 : Hid (Below W1.heap.size W1 ((wq.alloc (.cells #[] 24)).alloc (.cells #[.string ck, .int .u64 (cs : Nat), .string cv, .bool cg] 24))) := HBA.out.trans (((Below.refl _ (wq.alloc (.cells #[] 24))).alloc (Nat.le_refl _) _).mono HBA.out.size)
  have HN2 : Hid (∀ j u, (clL ⟨ck, cs, cv, cg⟩)[j]? = some u → ((wq.alloc (.cells #[] 24)).alloc (.cells #[.string ck, .int .u64 (cs : Nat), .string cv, .bool cg] 24)).cell? ((⟨wq.heap.size + 1, 0, none⟩ : Addr).add j) = some u) := by have := new_cell (wq.alloc (.cells #[] 24)) ⟨ck, cs, cv, cg⟩; rw [World.size_alloc] at this; exact this
  have HWQ : Hid (W1.heap.size ≤ wq.heap.size) := HBQ.out.size
  clear HBQ hbq0
  go_wp2_with (first
    | (at_builtin; refine wpList_append_own_none rfl _ _ 25 rfl wq.heap.size 24 i0 4 Try.underlying25 hi _ _ _ rfl HR4.out rfl ?_)
    | (at_builtin; refine wpList_append_own _ rfl _ _ 25 rfl wq.heap.size 24 i0 (.agg #[.string ByteArray.empty, .int .u64 0, .string ByteArray.empty, .bool false]) 4 48 Try.underlying25 hi hz0 hz1 hz2 rfl (by decide) _ _ _ rfl HR3.out ⟨wq.heap.size + 1, 0, none⟩ 1 1 (clL ⟨ck, cs, cv, cg⟩) rfl rfl HN2.out (by intro u hu; simp [clL] at hu; rcases hu with rfl | rfl | rfl | rfl <;> rfl) (by unfold maxLen; omega) (by omega) (by simp only [World.size_alloc]; omega) ?_; intro v4 w5 hown4 hg4 _; obtain ⟨va4, vc4, rfl⟩ := row_form4 hown4; have HR4 : Hid (w5.ownsRow wq.heap.size 24 4 (.slice va4 1 vc4) 1 (clL ⟨ck, cs, cv, cg⟩)) := hown4; have HB5 : Hid (Below W1.heap.size W1 w5) := HB4.out.grown hg4 HB4.out.size (fun k e => Nat.le_trans HWQ.out (World.ownsRow.lt HR3.out k e).1); clear hown4 hg4 HR3)
    | (at_builtin; refine wpList_append_own_none rfl _ _ 25 rfl wq.heap.size 24 i0 4 Try.underlying25 hi _ _ _ rfl HRX.out rfl ?_; clear HRX))
  go_ret
  have hr : w5.ownsRow wq.heap.size 24 4 (.slice va4 1 vc4) (insC [] ⟨ck, cs, cv, cg⟩).length (flC (insC [] ⟨ck, cs, cv, cg⟩)) := by
    rw [show insC [] ⟨ck, cs, cv, cg⟩ = [⟨ck, cs, cv, cg⟩] from rfl]
    exact HR4.out
  obtain ⟨ra, rc, e, hrc, hca⟩ := ca_row hr
  exact ⟨ra, rc, by rw [← e]; rfl, hrc, hca, HW1.out.trans (HB5.out.mono HW1.out.size)⟩
theorem with_any (a : Option Addr) (n cp : Nat) (l : List Cl) (c : Cl) (w : World) (hca : CA w.heap.size w a l) (hl : l.length = n) (hcp : n ≤ cp) (hn : n < 100000000) (ha : l = [] → a = none ∧ cp = 0) :
    Calls Try.prog 24 #[.slice a n cp, .agg #[.string c.key, .int .u64 (c.seq : Nat), .string c.val, .bool c.gone]] w (WithOut w l c) := by
  cases l with
  | nil =>
    obtain ⟨rfl, rfl⟩ := ha rfl
    obtain rfl : 0 = n := hl
    exact with_none c.key c.val c.seq c.gone w
  | cons x l =>
    obtain ⟨b, off, rfl, _⟩ := hca 0 x rfl
    exact with_some b off n cp (x :: l) c.key c.val c.seq c.gone w hca hl hcp hn
theorem ins_ne (l : List Cl) (c : Cl) : insC l c ≠ [] := by
  unfold insC
  split
  · rename_i x hx
    split
    · simp
    · rintro rfl
      simp at hx
  · simp
end Go.Proofs.Ytohamjoiohfoiaa
