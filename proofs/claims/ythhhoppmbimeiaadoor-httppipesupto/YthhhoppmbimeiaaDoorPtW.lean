/-
  The walk of HttpPrints.
-/
import Derived.Test.YthhhoppmbimeiaaDoorPrC
import Derived.Test.YthhhoppmbimeiaaDoorLiv
namespace Go.Proofs.YthhhoppmbimeiaaDoor
open Go.RowKit
/-- A row that owns nothing yet. -/
def RowAt (W : World) (B e z : Nat) (v : Value) (n : Nat) (xs : List Value) : Prop := W.ownsRow B e z v n xs
set_option maxRecDepth 20000 in
set_option maxHeartbeats 8000000 in
theorem prints_walk (r : Rq) (B : Nat) (behind : ByteArray) (m : Int) (w : World) (h : FA B w r.a r.fs) (hB : B ≤ w.heap.size) (hr : rqOk r) (h1 : r.met.size ≤ 140737488355328) (h2 : r.tar.size ≤ 140737488355328) (h3 : r.body.size ≤ 100000000) (hz : (hdB r.met r.tar r.fs).size ≤ 100000000) (hn : r.fs.length ≤ 100000000) (hnil : r.a = none → r.c = 0) (hbe : behind.size ≤ 140737488355328) (hm : w.cell? ⟨0, 0, none⟩ = some (.int .i64 m)) :
    Calls Tryd.prog 4 #[rqV r, .string behind] w fun e w' => e = .returned (.bool true) ∧ Below w.heap.size w w' := by
  have HM : Hid (∀ W, Below w.heap.size w W → W.cell? ⟨0, 0, none⟩ = some (.int .i64 m)) := fun W b => mx_below hm b
  obtain ⟨met, tar, a, c, fs, body, shut⟩ := r
  simp only at h hr h1 h2 h3 hz hn hnil
  have HRO : Hid (∀ va vc, rqOk ⟨met, tar, va, vc, fs, body, shut⟩) := fun va vc => hr
  have H1 : Hid (∀ va vc W B, FA B W va fs → B ≤ W.heap.size → _) := fun va vc W B h4 h5 => print_any ⟨met, tar, va, vc, fs, body, shut⟩ B W h4 h5 (HRO.out va vc) h1 h2 (by show body.size ≤ _; omega) hz hn
  have H2 : Hid (∀ W B, FA B W a fs → B ≤ W.heap.size → _) := fun W B h4 h5 => qprint_any ⟨met, tar, a, c, fs, body, shut⟩ B W h4 h5 (HRO.out a c) h1 h2 (by show body.size ≤ _; omega) hz hn
  have H3 : Hid (∀ va vc W B, FA B W va fs → B ≤ W.heap.size → _) := fun va vc W B h4 h5 => check_any ⟨met, tar, va, vc, fs, body, shut⟩ B W h4 h5 (HRO.out va vc) h1 h2 (by show body.size ≤ _; omega) hz hn
  have H4 : Hid (∀ W B, FA B W a fs → B ≤ W.heap.size → _) := fun W B h4 h5 => qcheck_any ⟨met, tar, a, c, fs, body, shut⟩ B W h4 h5 (HRO.out a c) h1 h2 (by show body.size ≤ _; omega) hz hn
  have H5 : Hid (∀ W, Below w.heap.size w W → _) := fun W b => lives_any m W (HM.out W b)
  have H6 : Hid (∀ a b ca cb B W, FA B W a fs → FA B W b fs → B ≤ W.heap.size → _) := fun a b ca cb B W h1 h2 h3 => same_eq met tar body shut fs a b ca cb B W h1 h2 h3 (by omega)
  have hPZ : (printR met tar fs body shut).size ≤ 200000000 := by
    unfold printR
    split
    · rw [size_app]; omega
    · exact Nat.zero_le _
  have H7 : Hid (∀ W, Below w.heap.size w W → checkR met tar fs body shut = 0 → Calls Tryd.prog 8 #[.string (printR met tar fs body shut ++ behind)] W fun e w' => ∃ a c, e = .returned (.tuple #[.agg #[.string met, .string tar, .slice a fs.length c, .string body, .bool shut], .int .i64 ((printR met tar fs body shut).size : Nat), .int .i64 0]) ∧ FA w'.heap.size w' a fs ∧ Below W.heap.size W w') := fun W b hT => by
    refine (parse_any (printR met tar fs body shut ++ behind) m W (by rw [size_app]; omega) (HM.out W b)).mono ?_
    have e : parseR (printR met tar fs body shut ++ behind) = ⟨met, tar, fs, body, shut, (printR met tar fs body shut).size, 0⟩ := by
      have := parse_print hT behind
      unfold printR
      rw [if_pos hT, this, size_app]
    rw [e]
    rintro e w' ⟨xa, xc, rfl, hf, hb⟩
    exact ⟨xa, xc, rfl, hf, hb⟩
  have HPR : Hid (checkR met tar fs body shut = 0 → printR met tar fs body shut = hdB met tar fs ++ body ∧ (printR met tar fs body shut).size = (hdB met tar fs).size + body.size) := fun h => by unfold printR; rw [if_pos h]; exact ⟨rfl, size_app _ _⟩
  have HFA : Hid _ := h
  simp only [rqV] at H1 H2 H3 H4 H6 ⊢
  have hal := hr.1
  simp only at hal
  clear h hr hm h1 h2 hz
  obtain ⟨T, hT⟩ : ∃ T, checkR met tar fs body shut = T := ⟨_, rfl⟩
  obtain ⟨P, hP⟩ : ∃ P, printR met tar fs body shut = P := ⟨_, rfl⟩
  rw [hT] at H1 H2 H3 H4 H7 HPR
  rw [hP] at H1 H2 H7 HPR hPZ
  have HLF : Hid ((flF fs).length = fs.length * 2) := flF_len fs
  obtain ⟨n, hn2⟩ : ∃ n, fs.length = n := ⟨_, rfl⟩
  have HLN : Hid _ := hn2
  rw [hn2] at H1 H2 H3 H4 H6 H7 HLF hn ⊢
  clear hT hP hn2
  have e1 : (P.toList == P.toList) = true := by simp
  have e2 : (T != T) = false := by simp
  obtain ⟨i0, hi, hzz⟩ := Option.map_eq_some_iff.1 info53
  simp only [Prod.mk.injEq] at hzz
  obtain ⟨hz0, hz1, hz2⟩ := hzz
  obtain ⟨W1, hW1⟩ : ∃ W1, (w.alloc (.cells #[.string met, .string tar, .slice a n c, .string body, .bool shut] 24)).alloc (.cells #[.string met, .string tar, .slice a n c, .string body, .bool shut] 24) = W1 := ⟨_, rfl⟩
  have HB1 : Hid (Below w.heap.size w W1) := by rw [Hid, ← hW1]; exact ((Below.refl _ _).alloc (Nat.le_refl _) _).alloc (by simp) _
  have HZ1 : Hid (W1.heap.size = w.heap.size + 2) := by rw [Hid, ← hW1]; simp
  have HX1 : Hid (RB W1 w.heap.size met tar (.slice a n c) body shut) := by rw [Hid, ← hW1]; exact RB.below (V := w.alloc (.cells #[.string met, .string tar, .slice a n c, .string body, .bool shut] 24)) (block_alloc_at _ _) ((Below.refl _ _).alloc (Nat.le_refl _) _)
  have HY1 : Hid (RB W1 (w.heap.size + 1) met tar (.slice a n c) body shut) := by
    rw [Hid, ← hW1]
    have := block_alloc_at (w.alloc (.cells #[.string met, .string tar, .slice a n c, .string body, .bool shut] 24)) (.cells #[.string met, .string tar, .slice a n c, .string body, .bool shut] 24)
    simpa [RB] using this
  have HF1 : Hid (FA W1.heap.size W1 a fs) := (FA.below HFA.out (fun b hb => HB1.out.block b (by omega))).up (by have := HB1.out.size; omega)
  obtain ⟨W2, hW2⟩ : ∃ W2, W1.alloc (.cells #[] 53) = W2 := ⟨_, rfl⟩
  have HA2 : Hid (Below W1.heap.size W1 W2) := by rw [Hid, ← hW2]; exact (Below.refl _ _).alloc (Nat.le_refl _) _
  have HX2 : Hid (RB W2 w.heap.size met tar (.slice a n c) body shut) := HX1.out.below HA2.out
  have HY2 : Hid (RB W2 (w.heap.size + 1) met tar (.slice a n c) body shut) := HY1.out.below HA2.out
  have HF2 : Hid (FA W2.heap.size W2 a fs) := (FA.below HF1.out (fun b hb => HA2.out.block b hb)).up HA2.out.size
  have HB2 : Hid (Below w.heap.size w W2) := HB1.out.trans (HA2.out.mono HB1.out.size)
  have HRX : Hid (RowAt W2 W1.heap.size 53 2 (.slice (some ⟨W1.heap.size, 0, none⟩) 0 0) 0 []) := by
    rw [Hid, ← hW2]
    exact ⟨rfl, Or.inr ⟨W1.heap.size, 0, #[], rfl, Nat.le_refl _, block_alloc_at _ _, Nat.le_refl _, Nat.zero_le _, rfl, rfl⟩⟩
  have hz2' : W1.heap.size ≤ W2.heap.size := HA2.out.size
  obtain ⟨k0, k1, k2, k3, k4⟩ := HX2.out.box
  obtain ⟨f0, f1, f2, f3, f4⟩ := HY2.out.free
  obtain ⟨j0, j1, j2, j3, j4⟩ := HY2.out.box
  cases a with
  | none =>
    obtain rfl : fs = [] := by
      cases fs with
      | nil => rfl
      | cons x l => obtain ⟨b, off, e, _⟩ := HFA.out 0 x rfl; cases e
    obtain rfl : c = 0 := hnil rfl
    obtain rfl : n = 0 := HLN.out.symm
    go_enter Tryd.func4, Tryd.ntmps4
    go_wp2_with fail
    obtain ⟨W4, hW4⟩ : ∃ W4, W2.setCell ⟨w.heap.size + 1, 2, none⟩ (.slice (some ⟨W1.heap.size, 0, none⟩) 0 0) = W4 := ⟨_, rfl⟩
    have HY4 : Hid (RB W4 (w.heap.size + 1) met tar (.slice (some ⟨W1.heap.size, 0, none⟩) 0 0) body shut) := by
      have := set_block HY2.out 2 (.slice (some ⟨W1.heap.size, 0, none⟩) 0 0)
      rw [hW4] at this
      rw [Hid]; simpa [RB] using this
    have HX4 : Hid (RB W4 w.heap.size met tar (.slice none 0 0) body shut) := by
      rw [Hid, RB, ← hW4, Below.heap_setCell _ _ _ _ (by simp)]
      exact HX2.out
    have HB4 : Hid (Below w.heap.size w W4) := by rw [Hid, ← hW4]; exact HB2.out.setCell (p := ⟨w.heap.size + 1, 2, none⟩) (by simp) _
    rw [hW4]
    clear k0 k1 k2 k3 k4 j0 j1 j2 j3 j4 f0 f1 f2 f3 f4
    refine (H1.out (some ⟨W1.heap.size, 0, none⟩) 0 W4 W4.heap.size (FA.nil _ _ _) (Nat.le_refl _)).mono ?_
    rintro e w5 ⟨rfl, b5⟩
    have HX5 : Hid (RB w5 w.heap.size met tar (.slice none 0 0) body shut) := HX4.out.below b5
    have HY5 : Hid (RB w5 (w.heap.size + 1) met tar (.slice (some ⟨W1.heap.size, 0, none⟩) 0 0) body shut) := HY4.out.below b5
    have HB5 : Hid (Below w.heap.size w w5) := HB4.out.trans (b5.mono HB4.out.size)
    clear b5
    obtain ⟨k0, k1, k2, k3, k4⟩ := HX5.out.box
    go_wp2_with fail
    refine (H2.out w5 w5.heap.size (FA.nil _ _ _) (Nat.le_refl _)).mono ?_
    rintro e w6 ⟨rfl, b6⟩
    have HX6 : Hid (RB w6 w.heap.size met tar (.slice none 0 0) body shut) := HX5.out.below b6
    have HY6 : Hid (RB w6 (w.heap.size + 1) met tar (.slice (some ⟨W1.heap.size, 0, none⟩) 0 0) body shut) := HY5.out.below b6
    have HB6 : Hid (Below w.heap.size w w6) := HB5.out.trans (b6.mono HB5.out.size)
    clear b6 k0 k1 k2 k3 k4
    have HTR : Hid (∀ A B, Below w6.heap.size w6 A → Below A.heap.size A B → Below w6.heap.size w6 B) := fun A B h1 h2 => h1.trans (h2.mono h1.size)
    have HSS : Hid (∀ V, Below w6.heap.size w6 V → V.cell? ⟨w.heap.size, 0, none⟩ = some (.string met) ∧ V.cell? ⟨w.heap.size, 1, none⟩ = some (.string tar) ∧ V.cell? ⟨w.heap.size, 2, none⟩ = some (.slice none 0 0) ∧ V.cell? ⟨w.heap.size, 3, none⟩ = some (.string body) ∧ V.cell? ⟨w.heap.size, 4, none⟩ = some (.bool shut) ∧ V.cell? ⟨w.heap.size + 1, 0, none⟩ = some (.string met) ∧ V.cell? ⟨w.heap.size + 1, 1, none⟩ = some (.string tar) ∧ V.cell? ⟨w.heap.size + 1, 2, none⟩ = some (.slice (some ⟨W1.heap.size, 0, none⟩) 0 0) ∧ V.cell? ⟨w.heap.size + 1, 3, none⟩ = some (.string body) ∧ V.cell? ⟨w.heap.size + 1, 4, none⟩ = some (.bool shut)) := fun V hV => ⟨(HX6.out.below hV).box.1, (HX6.out.below hV).box.2.1, (HX6.out.below hV).box.2.2.1, (HX6.out.below hV).box.2.2.2.1, (HX6.out.below hV).box.2.2.2.2, (HY6.out.below hV).box.1, (HY6.out.below hV).box.2.1, (HY6.out.below hV).box.2.2.1, (HY6.out.below hV).box.2.2.2.1, (HY6.out.below hV).box.2.2.2.2⟩
    have HZZ : Hid (∀ V, Below w6.heap.size w6 V → w6.heap.size ≤ V.heap.size) := fun V hV => hV.size
    have HBW : Hid (∀ V, Below w6.heap.size w6 V → Below w.heap.size w V) := fun V hV => HB6.out.trans (hV.mono HB6.out.size)
    have bd : Below w6.heap.size w6 w6.drew := below_drew (Below.refl _ _)
    have sd := HSS.out _ bd
    go_wp2_with fail
    refine wp_region_held_drew (S := (fun W => W.cell? ⟨w.heap.size, 0, none⟩ = some (.string met) ∧ W.cell? ⟨w.heap.size, 1, none⟩ = some (.string tar) ∧ W.cell? ⟨w.heap.size, 2, none⟩ = some (.slice none 0 0) ∧ W.cell? ⟨w.heap.size, 3, none⟩ = some (.string body) ∧ W.cell? ⟨w.heap.size, 4, none⟩ = some (.bool shut) ∧ W.cell? ⟨w.heap.size + 1, 0, none⟩ = some (.string met) ∧ W.cell? ⟨w.heap.size + 1, 1, none⟩ = some (.string tar) ∧ W.cell? ⟨w.heap.size + 1, 2, none⟩ = some (.slice (some ⟨W1.heap.size, 0, none⟩) 0 0) ∧ W.cell? ⟨w.heap.size + 1, 3, none⟩ = some (.string body) ∧ W.cell? ⟨w.heap.size + 1, 4, none⟩ = some (.bool shut))) (by kernel_rfl) sd (fun hHeld => ?_)
    refine wpAnyH_ready (rs := [0]) (by kernel_rfl) (by simp) ?_
    refine AllReadyH.cons rfl (fun K hK => ?_) AllReadyH.nil
    go_simp
    go_wp2_with (go_at_call 10; refine Calls.mono (H5.out _ (HBW.out _ (by assumption))) ?_; rintro e wa ⟨rfl, ka⟩; have ba := HTR.out _ _ (by assumption) ka; have sa := HSS.out _ ba; clear ka)
    refine hK.out _ _ (by first | assumption | go_keep) (fun hHeld => ?_)
    clear hK K
    refine wpAnyH_take (i := 1) (oi := ({ dst := some 29, op := Op.unOp UnOp.not 4 (Operand.tmp 28), type := 4, pos := "law.go:63", after := #[{ on := 0, ground := Ground.data }], guard := none } : Oper)) (v := ?_) rfl (by kernel_rfl) (by kernel_rfl) (by kernel_rfl) (fun _ _ _ h => h) (Or.inl ⟨by rfl, ?_⟩) (by assumption) ?_
    rotate_left
    · (intro w hSw; (try dsimp only at hSw); go_simp; try with_reducible rfl)
    try simp only [Act.put, List.setIfInBounds_toArray, List.set_cons_zero, List.set_cons_succ]
    refine wpAnyH_take (i := 2) (oi := ({ dst := some 30, op := Op.move (Operand.tmp 29), type := 4, pos := "law.go:63", after := #[{ on := 1, ground := Ground.data }, { on := 0, ground := Ground.chain }], guard := none } : Oper)) (v := ?_) rfl (by kernel_rfl) (by kernel_rfl) (by kernel_rfl) (fun _ _ _ h => h) (Or.inl ⟨by rfl, ?_⟩) (by assumption) ?_
    rotate_left
    · (intro w hSw; (try dsimp only at hSw); go_simp; try with_reducible rfl)
    try simp only [Act.put, List.setIfInBounds_toArray, List.set_cons_zero, List.set_cons_succ]
    refine wpAnyH_take (i := 3) (oi := ({ dst := some 31, op := Op.move (Operand.tmp 6), type := 9, pos := "law.go:63", after := #[{ on := 2, ground := Ground.guard }], guard := some (2, false) } : Oper)) (v := ?_) rfl (by kernel_rfl) (by kernel_rfl) (by kernel_rfl) (fun _ _ _ h => h) (Or.inl ⟨by rfl, ?_⟩) (by assumption) ?_
    rotate_left
    · (intro w hSw; (try dsimp only at hSw); go_simp; try with_reducible rfl)
    try simp only [Act.put, List.setIfInBounds_toArray, List.set_cons_zero, List.set_cons_succ]
    refine wpAnyH_take (i := 4) (oi := ({ dst := some 32, op := Op.move (Operand.tmp 8), type := 9, pos := "law.go:63", after := #[{ on := 2, ground := Ground.guard }], guard := some (2, false) } : Oper)) (v := ?_) rfl (by kernel_rfl) (by kernel_rfl) (by kernel_rfl) (fun _ _ _ h => h) (Or.inl ⟨by rfl, ?_⟩) (by assumption) ?_
    rotate_left
    · (intro w hSw; (try dsimp only at hSw); go_simp; try with_reducible rfl)
    try simp only [Act.put, List.setIfInBounds_toArray, List.set_cons_zero, List.set_cons_succ]
    refine wpAnyH_take (i := 5) (oi := ({ dst := some 33, op := Op.binOp BinOp.neq 9 (Operand.tmp 31) (Operand.tmp 32) 9, type := 4, pos := "law.go:63", after := #[{ on := 3, ground := Ground.data }, { on := 4, ground := Ground.data }, { on := 2, ground := Ground.guard }], guard := some (2, false) } : Oper)) (v := ?_) rfl (by kernel_rfl) (by kernel_rfl) (by kernel_rfl) (fun _ _ _ h => h) (Or.inl ⟨by rfl, ?_⟩) (by assumption) ?_
    rotate_left
    · (intro w hSw; (try dsimp only at hSw); go_simp; try with_reducible rfl)
    try simp only [Act.put, List.setIfInBounds_toArray, List.set_cons_zero, List.set_cons_succ]
    refine wpAnyH_take (i := 6) (oi := ({ dst := some 34, op := Op.pick (Operand.tmp 30) (Operand.const (Value.bool true)) (Operand.tmp 33), type := 4, pos := "law.go:63", after := #[{ on := 2, ground := Ground.data }, { on := 5, ground := Ground.data }], guard := none } : Oper)) (v := ?_) rfl (by kernel_rfl) (by kernel_rfl) (by kernel_rfl) (fun _ _ _ h => h) (Or.inl ⟨by rfl, ?_⟩) (by assumption) ?_
    rotate_left
    · (intro w hSw; (try dsimp only at hSw); go_simp; try with_reducible rfl)
    try simp only [Act.put, List.setIfInBounds_toArray, List.set_cons_zero, List.set_cons_succ]
    refine wpAnyH_take (i := 7) (oi := ({ dst := some 35, op := Op.move (Operand.tmp 34), type := 4, pos := "law.go:63", after := #[{ on := 6, ground := Ground.data }, { on := 2, ground := Ground.chain }], guard := none } : Oper)) (v := ?_) rfl (by kernel_rfl) (by kernel_rfl) (by kernel_rfl) (fun _ _ _ h => h) (Or.inl ⟨by rfl, ?_⟩) (by assumption) ?_
    rotate_left
    · (intro w hSw; (try dsimp only at hSw); go_simp; try with_reducible rfl)
    try simp only [Act.put, List.setIfInBounds_toArray, List.set_cons_zero, List.set_cons_succ]
    refine wpAnyH_take (i := 8) (oi := ({ dst := some 36, op := Op.move (Operand.tmp 7), type := 25, pos := "law.go:63", after := #[{ on := 7, ground := Ground.guard }], guard := some (7, false) } : Oper)) (v := ?_) rfl (by kernel_rfl) (by kernel_rfl) (by kernel_rfl) (fun _ _ _ h => h) (Or.inl ⟨by rfl, ?_⟩) (by assumption) ?_
    rotate_left
    · (intro w hSw; (try dsimp only at hSw); go_simp; try with_reducible rfl)
    try simp only [Act.put, List.setIfInBounds_toArray, List.set_cons_zero, List.set_cons_succ]
    refine wpAnyH_take (i := 9) (oi := ({ dst := some 37, op := Op.move (Operand.tmp 9), type := 25, pos := "law.go:63", after := #[{ on := 7, ground := Ground.guard }], guard := some (7, false) } : Oper)) (v := ?_) rfl (by kernel_rfl) (by kernel_rfl) (by kernel_rfl) (fun _ _ _ h => h) (Or.inl ⟨by rfl, ?_⟩) (by assumption) ?_
    rotate_left
    · (intro w hSw; (try dsimp only at hSw); go_simp; try with_reducible rfl)
    try simp only [Act.put, List.setIfInBounds_toArray, List.set_cons_zero, List.set_cons_succ]
    refine wpAnyH_take (i := 10) (oi := ({ dst := some 38, op := Op.binOp BinOp.neq 25 (Operand.tmp 36) (Operand.tmp 37) 25, type := 4, pos := "law.go:63", after := #[{ on := 8, ground := Ground.data }, { on := 9, ground := Ground.data }, { on := 7, ground := Ground.guard }], guard := some (7, false) } : Oper)) (v := ?_) rfl (by kernel_rfl) (by kernel_rfl) (by kernel_rfl) (fun _ _ _ h => h) (Or.inl ⟨by rfl, ?_⟩) (by assumption) ?_
    rotate_left
    · (intro w hSw; (try dsimp only at hSw); go_simp; try with_reducible rfl)
    try simp only [Act.put, List.setIfInBounds_toArray, List.set_cons_zero, List.set_cons_succ]
    refine wpAnyH_take (i := 11) (oi := ({ dst := some 39, op := Op.pick (Operand.tmp 35) (Operand.const (Value.bool true)) (Operand.tmp 38), type := 4, pos := "law.go:63", after := #[{ on := 7, ground := Ground.data }, { on := 10, ground := Ground.data }], guard := none } : Oper)) (v := ?_) rfl (by kernel_rfl) (by kernel_rfl) (by kernel_rfl) (fun _ _ _ h => h) (Or.inl ⟨by rfl, ?_⟩) (by assumption) ?_
    rotate_left
    · (intro w hSw; (try dsimp only at hSw); go_simp; try with_reducible rfl)
    try simp only [Act.put, List.setIfInBounds_toArray, List.set_cons_zero, List.set_cons_succ]
    refine wpAnyH_take (i := 12) (oi := ({ dst := some 40, op := Op.move (Operand.tmp 39), type := 4, pos := "law.go:63", after := #[{ on := 11, ground := Ground.data }, { on := 7, ground := Ground.chain }], guard := none } : Oper)) (v := ?_) rfl (by kernel_rfl) (by kernel_rfl) (by kernel_rfl) (fun _ _ _ h => h) (Or.inl ⟨by rfl, ?_⟩) (by assumption) ?_
    rotate_left
    · (intro w hSw; (try dsimp only at hSw); go_simp; try with_reducible rfl)
    try simp only [Act.put, List.setIfInBounds_toArray, List.set_cons_zero, List.set_cons_succ]
    refine wpAnyH_take (i := 13) (oi := ({ dst := some 41, op := Op.load 24 (Operand.tmp 5), type := 24, pos := "law.go:63", after := #[{ on := 12, ground := Ground.guard }], guard := some (12, false) } : Oper)) (v := ?_) rfl (by kernel_rfl) (by kernel_rfl) (by kernel_rfl) (fun _ _ _ h => h) (Or.inl ⟨by rfl, ?_⟩) (by assumption) ?_
    rotate_left
    · (intro w hSw; (try dsimp only at hSw); go_simp; try with_reducible rfl)
    try simp only [Act.put, List.setIfInBounds_toArray, List.set_cons_zero, List.set_cons_succ]
    refine wpAnyH_take (i := 15) (oi := ({ dst := some 43, op := Op.load 24 (Operand.tmp 2), type := 24, pos := "law.go:63", after := #[{ on := 12, ground := Ground.guard }], guard := some (12, false) } : Oper)) (v := ?_) rfl (by kernel_rfl) (by kernel_rfl) (by kernel_rfl) (fun _ _ _ h => h) (Or.inl ⟨by rfl, ?_⟩) (by assumption) ?_
    rotate_left
    · (intro w hSw; (try dsimp only at hSw); go_simp; try with_reducible rfl)
    try simp only [Act.put, List.setIfInBounds_toArray, List.set_cons_zero, List.set_cons_succ]
    refine wpAnyH_ready (rs := [14]) (by kernel_rfl) (by simp) ?_
    refine AllReadyH.cons rfl (fun K hK => ?_) AllReadyH.nil
    go_simp
    go_wp2_with (go_at_call 19; refine Calls.mono (H3.out (some ⟨W1.heap.size, 0, none⟩) 0 _ w6.heap.size (FA.nil _ _ _) (HZZ.out _ (by assumption))) ?_; rintro e wa ⟨rfl, ka⟩; have ba := HTR.out _ _ (by assumption) ka; have sa := HSS.out _ ba; clear ka)
    refine hK.out _ _ (by first | assumption | go_keep) (fun hHeld => ?_)
    clear hK K
    refine wpAnyH_ready (rs := [16]) (by kernel_rfl) (by simp) ?_
    refine AllReadyH.cons rfl (fun K hK => ?_) AllReadyH.nil
    go_simp
    go_wp2_with (go_at_call 20; refine Calls.mono (H4.out _ w6.heap.size (FA.nil _ _ _) (HZZ.out _ (by assumption))) ?_; rintro e wa ⟨rfl, ka⟩; have ba := HTR.out _ _ (by assumption) ka; have sa := HSS.out _ ba; clear ka)
    refine hK.out _ _ (by first | assumption | go_keep) (fun hHeld => ?_)
    clear hK K
    refine wpAnyH_take (i := 17) (oi := ({ dst := some 45, op := Op.binOp BinOp.neq 25 (Operand.tmp 42) (Operand.tmp 44) 25, type := 4, pos := "law.go:63", after := #[{ on := 14, ground := Ground.data }, { on := 16, ground := Ground.data }, { on := 12, ground := Ground.guard }], guard := some (12, false) } : Oper)) (v := ?_) rfl (by kernel_rfl) (by kernel_rfl) (by kernel_rfl) (fun _ _ _ h => h) (Or.inl ⟨by rfl, ?_⟩) (by assumption) ?_
    rotate_left
    · (intro w hSw; (try dsimp only at hSw); go_simp; try with_reducible rfl)
    try simp only [Act.put, List.setIfInBounds_toArray, List.set_cons_zero, List.set_cons_succ]
    refine wpAnyH_take (i := 18) (oi := ({ dst := some 46, op := Op.pick (Operand.tmp 40) (Operand.const (Value.bool true)) (Operand.tmp 45), type := 4, pos := "law.go:63", after := #[{ on := 12, ground := Ground.data }, { on := 17, ground := Ground.data }], guard := none } : Oper)) (v := ?_) rfl (by kernel_rfl) (by kernel_rfl) (by kernel_rfl) (fun _ _ _ h => h) (Or.inl ⟨by rfl, ?_⟩) (by assumption) ?_
    rotate_left
    · (intro w hSw; (try dsimp only at hSw); go_simp; try with_reducible rfl)
    try simp only [Act.put, List.setIfInBounds_toArray, List.set_cons_zero, List.set_cons_succ]
    refine wpAnyH_take (i := 19) (oi := ({ dst := some 47, op := Op.move (Operand.tmp 46), type := 4, pos := "law.go:63", after := #[{ on := 18, ground := Ground.data }, { on := 16, ground := Ground.chain }], guard := none } : Oper)) (v := ?_) rfl (by kernel_rfl) (by kernel_rfl) (by kernel_rfl) (fun _ _ _ h => h) (Or.inl ⟨by rfl, ?_⟩) (by assumption) ?_
    rotate_left
    · (intro w hSw; (try dsimp only at hSw); go_simp; try with_reducible rfl)
    try simp only [Act.put, List.setIfInBounds_toArray, List.set_cons_zero, List.set_cons_succ]
    refine wpAnyH_take (i := 20) (oi := ({ dst := some 48, op := Op.load 24 (Operand.tmp 5), type := 24, pos := "law.go:63", after := #[{ on := 19, ground := Ground.guard }], guard := some (19, false) } : Oper)) (v := ?_) rfl (by kernel_rfl) (by kernel_rfl) (by kernel_rfl) (fun _ _ _ h => h) (Or.inl ⟨by rfl, ?_⟩) (by assumption) ?_
    rotate_left
    · (intro w hSw; (try dsimp only at hSw); go_simp; try with_reducible rfl)
    try simp only [Act.put, List.setIfInBounds_toArray, List.set_cons_zero, List.set_cons_succ]
    refine wpAnyH_take (i := 21) (oi := ({ dst := some 49, op := Op.load 24 (Operand.tmp 2), type := 24, pos := "law.go:63", after := #[{ on := 19, ground := Ground.guard }], guard := some (19, false) } : Oper)) (v := ?_) rfl (by kernel_rfl) (by kernel_rfl) (by kernel_rfl) (fun _ _ _ h => h) (Or.inl ⟨by rfl, ?_⟩) (by assumption) ?_
    rotate_left
    · (intro w hSw; (try dsimp only at hSw); go_simp; try with_reducible rfl)
    try simp only [Act.put, List.setIfInBounds_toArray, List.set_cons_zero, List.set_cons_succ]
    refine wpAnyH_ready (rs := [22]) (by kernel_rfl) (by simp) ?_
    refine AllReadyH.cons rfl (fun K hK => ?_) AllReadyH.nil
    go_simp
    go_wp2_with (go_at_call 11; refine Calls.mono (H6.out (some ⟨W1.heap.size, 0, none⟩) none 0 0 w6.heap.size _ (FA.nil _ _ _) (FA.nil _ _ _) (HZZ.out _ (by assumption))) ?_; rintro e wa ⟨rfl, ka⟩; have ba := HTR.out _ _ (by assumption) ka; have sa := HSS.out _ ba; clear ka)
    refine hK.out _ _ (by first | assumption | go_keep) (fun hHeld => ?_)
    clear hK K
    refine wpAnyH_take (i := 23) (oi := ({ dst := some 51, op := Op.unOp UnOp.not 4 (Operand.tmp 50), type := 4, pos := "law.go:63", after := #[{ on := 22, ground := Ground.data }, { on := 19, ground := Ground.guard }], guard := some (19, false) } : Oper)) (v := ?_) rfl (by kernel_rfl) (by kernel_rfl) (by kernel_rfl) (fun _ _ _ h => h) (Or.inl ⟨by rfl, ?_⟩) (by assumption) ?_
    rotate_left
    · (intro w hSw; (try dsimp only at hSw); go_simp; try with_reducible rfl)
    try simp only [Act.put, List.setIfInBounds_toArray, List.set_cons_zero, List.set_cons_succ]
    refine wpAnyH_take (i := 24) (oi := ({ dst := some 52, op := Op.pick (Operand.tmp 47) (Operand.const (Value.bool true)) (Operand.tmp 51), type := 4, pos := "law.go:63", after := #[{ on := 19, ground := Ground.data }, { on := 23, ground := Ground.data }], guard := none } : Oper)) (v := ?_) rfl (by kernel_rfl) (by kernel_rfl) (by kernel_rfl) (fun _ _ _ h => h) (Or.inl ⟨by rfl, ?_⟩) (by assumption) ?_
    rotate_left
    · (intro w hSw; (try dsimp only at hSw); go_simp; try with_reducible rfl)
    try simp only [Act.put, List.setIfInBounds_toArray, List.set_cons_zero, List.set_cons_succ]
    refine wpAnyH_done (by kernel_rfl) ?_ _
    have HBa : Hid (Below w6.heap.size w6 wa) := (by assumption)
    by_cases hT0 : T = 0
    · subst hT0
      obtain ⟨hPE, hPS⟩ := HPR.out rfl
      have HPE : Hid _ := hPE
      have HPS : Hid _ := hPS
      have H7' : Hid (∀ W, Below w.heap.size w W → _) := fun W b => H7.out W b rfl
      have z3 : ¬ 9223372036854775807 < P.size + behind.size := by have := hPZ; omega
      have e5 : ((P.size : Int) == (P.size : Int)) = true := by simp
      clear hPE hPS
      go_wp2_with fail
      refine (H7'.out _ (HBW.out _ HBa.out)).mono ?_
      rintro e w9 ⟨xa, xc, rfl, _, b9⟩
      obtain ⟨W9, hW9⟩ : ∃ W9, w9.alloc (.cells #[.string met, .string tar, .slice xa 0 xc, .string body, .bool shut] 24) = W9 := ⟨_, rfl⟩
      have HA9 : Hid (Below w9.heap.size w9 W9) := by rw [Hid, ← hW9]; exact (Below.refl _ _).alloc (Nat.le_refl _) _
      have b99 : Below w6.heap.size w6 W9 := HTR.out _ _ (HTR.out _ _ HBa.out b9) HA9.out
      have HZ9 : Hid (RB W9 w9.heap.size met tar (.slice xa 0 xc) body shut) := by rw [Hid, ← hW9]; exact block_alloc_at _ _
      have HB9 : Hid (Below w.heap.size w W9) := HBW.out _ b99
      obtain ⟨k0, k1, k2, k3, k4⟩ := HZ9.out.box
      obtain ⟨j0, j1, j2, j3, j4, _⟩ := HSS.out _ b99
      clear b9 b99
      go_wp2_with fail
      try rw [hW9]
      refine (H6.out xa none xc 0 W9.heap.size W9 (FA.nil _ _ _) (FA.nil _ _ _) (Nat.le_refl _)).mono ?_
      rintro e wz ⟨rfl, bz⟩
      go_wp2_with fail
      go_ret
      exact ⟨rfl, HB9.out.trans (bz.mono HB9.out.size)⟩
    · have y1 : (T != 0) = true := by simp [hT0]
      go_wp2_with fail
      go_ret
      exact ⟨rfl, HBW.out _ HBa.out⟩
  | some ad =>
    have HNC : Hid (∀ j u, (flF fs)[j]? = some u → W2.cell? (ad.add j) = some u) := fun j u hj => by
      have hj2 : j < n * 2 := by have := (List.getElem?_eq_some_iff.1 hj).1; rw [HLF.out] at this; exact this
      obtain ⟨x, hx⟩ : ∃ x, fs[j / 2]? = some x := ⟨fs[j / 2]'(by rw [HLN.out]; omega), List.getElem?_eq_getElem _⟩
      obtain ⟨b, off, e, _, x0, x1⟩ := HF2.out (j / 2) x hx
      cases e
      have hg := flF_get hx (j % 2) (by omega)
      rw [show j / 2 * 2 + j % 2 = j by omega, hj] at hg
      rw [add_off]
      rcases (by omega : j % 2 = 0 ∨ j % 2 = 1) with q | q
      · rw [q] at hg
        rw [show off + j = off + j / 2 * 2 by omega, x0]
        simpa [fdL] using hg.symm
      · rw [q] at hg
        rw [show off + j = off + j / 2 * 2 + 1 by omega, x1]
        simpa [fdL] using hg.symm
    go_enter Tryd.func4, Tryd.ntmps4
    go_wp2_with (at_builtin; refine wpList_append_own _ rfl _ _ 22 rfl W1.heap.size 53 i0 (.agg #[.string ByteArray.empty, .string ByteArray.empty]) 2 32 Tryd.underlying22 hi hz0 hz1 hz2 rfl (by decide) _ _ _ rfl HRX.out ad n c (flF fs) rfl HLF.out HNC.out (flF_one fs) (by unfold maxLen; omega) (by omega) hz2' ?_)
    intro v1 w3 hown1 hgrow _
    try rw [Nat.zero_add] at hown1
    try rw [List.nil_append] at hown1
    obtain ⟨va, vc, rfl⟩ := row_form hown1
    have hrow : ∀ g, g < W1.heap.size → some g ≠ (Value.slice (some (⟨W1.heap.size, 0, none⟩ : Addr)) 0 0).ownBlock := fun g hg e => by
      have : g = W1.heap.size := by simpa [Value.ownBlock] using e
      omega
    have HX3 : Hid (RB w3 w.heap.size met tar (.slice (some ad) n c) body shut) := by
      rw [Hid, RB, hgrow.block w.heap.size (by have := HX2.out.lt; omega) (hrow _ (by have := HZ1.out; omega))]
      exact HX2.out
    have HY3 : Hid (RB w3 (w.heap.size + 1) met tar (.slice (some ad) n c) body shut) := by
      rw [Hid, RB, hgrow.block (w.heap.size + 1) (by have := HY2.out.lt; omega) (hrow _ (by have := HZ1.out; omega))]
      exact HY2.out
    have HB13 : Hid (Below W1.heap.size W1 w3) := HA2.out.grown hgrow HA2.out.size (fun i hi => by have e : i = W1.heap.size := (by simpa [Value.ownBlock] using hi.symm); omega)
    have HF3 : Hid (FA W1.heap.size w3 (some ad) fs) := FA.below HF1.out (fun b hb => HB13.out.block b hb)
    have HB3 : Hid (Below w.heap.size w w3) := HB1.out.trans (HB13.out.mono HB1.out.size)
    obtain ⟨W4, hW4⟩ : ∃ W4, w3.setCell ⟨w.heap.size + 1, 2, none⟩ (.slice va n vc) = W4 := ⟨_, rfl⟩
    have HY4 : Hid (RB W4 (w.heap.size + 1) met tar (.slice va n vc) body shut) := by
      have := set_block HY3.out 2 (.slice va n vc)
      rw [hW4] at this
      rw [Hid]; simpa [RB] using this
    have HX4 : Hid (RB W4 w.heap.size met tar (.slice (some ad) n c) body shut) := by
      rw [Hid, RB, ← hW4, Below.heap_setCell _ _ _ _ (by simp)]
      exact HX3.out
    have HB4 : Hid (Below w.heap.size w W4) := by rw [Hid, ← hW4]; exact HB3.out.setCell (p := ⟨w.heap.size + 1, 2, none⟩) (by simp) _
    have HV4 : Hid (FA W4.heap.size W4 va fs) := by
      have hq := ownsRow_setCell_below (a := ⟨w.heap.size + 1, 2, none⟩) hown1 (by have := HZ1.out; show w.heap.size + 1 < _; omega) (.slice va n vc)
      rw [hW4, ← HLN.out] at hq
      exact fa_row hq
    have HF4 : Hid (FA W4.heap.size W4 (some ad) fs) := by
      have hsz : w3.heap.size ≤ W4.heap.size := by rw [← hW4]; simp [World.setCell]
      refine fun j d hj => ?_
      obtain ⟨b, off, q1, q2, q3, q4⟩ := HFA.out j d hj
      have hb : W4.heap[b]? = w.heap[b]? := HB4.out.block b (by omega)
      exact ⟨b, off, q1, by have := HB4.out.size; omega, (World.cell?_of_block hb).trans q3, (World.cell?_of_block hb).trans q4⟩
    clear hown1 hgrow hrow f0 f1 f2 f3 f4
    obtain ⟨f0, f1, f2, f3, f4⟩ := HY3.out.free
    clear k0 k1 k2 k3 k4 j0 j1 j2 j3 j4
    obtain ⟨k0, k1, k2, k3, k4⟩ := HX3.out.box
    obtain ⟨j0, j1, j2, j3, j4⟩ := HY3.out.box
    obtain ⟨l0, l1, l2, l3, l4⟩ := HX4.out.box
    obtain ⟨m0, m1, m2, m3, m4⟩ := HY4.out.box
    go_wp2_with fail
    try rw [hW4]
    refine (H1.out va vc W4 W4.heap.size HV4.out (Nat.le_refl _)).mono ?_
    rintro e w5 ⟨rfl, b5⟩
    have HX5 : Hid (RB w5 w.heap.size met tar (.slice (some ad) n c) body shut) := HX4.out.below b5
    have HY5 : Hid (RB w5 (w.heap.size + 1) met tar (.slice va n vc) body shut) := HY4.out.below b5
    have HF5 : Hid (FA w5.heap.size w5 (some ad) fs) := (FA.below HF4.out (fun b hb => b5.block b hb)).up b5.size
    have HV5 : Hid (FA w5.heap.size w5 va fs) := (FA.below HV4.out (fun b hb => b5.block b hb)).up b5.size
    have HB5 : Hid (Below w.heap.size w w5) := HB4.out.trans (b5.mono HB4.out.size)
    clear b5 k0 k1 k2 k3 k4 j0 j1 j2 j3 j4 l0 l1 l2 l3 l4 m0 m1 m2 m3 m4 f0 f1 f2 f3 f4
    obtain ⟨k0, k1, k2, k3, k4⟩ := HX5.out.box
    go_wp2_with fail
    refine (H2.out w5 w5.heap.size HF5.out (Nat.le_refl _)).mono ?_
    rintro e w6 ⟨rfl, b6⟩
    have HX6 : Hid (RB w6 w.heap.size met tar (.slice (some ad) n c) body shut) := HX5.out.below b6
    have HY6 : Hid (RB w6 (w.heap.size + 1) met tar (.slice va n vc) body shut) := HY5.out.below b6
    have HF6 : Hid (FA w6.heap.size w6 (some ad) fs) := (FA.below HF5.out (fun b hb => b6.block b hb)).up b6.size
    have HV6 : Hid (FA w6.heap.size w6 va fs) := (FA.below HV5.out (fun b hb => b6.block b hb)).up b6.size
    have HB6 : Hid (Below w.heap.size w w6) := HB5.out.trans (b6.mono HB5.out.size)
    clear b6 k0 k1 k2 k3 k4
    have HTR : Hid (∀ A B, Below w6.heap.size w6 A → Below A.heap.size A B → Below w6.heap.size w6 B) := fun A B h1 h2 => h1.trans (h2.mono h1.size)
    have HSS : Hid (∀ V, Below w6.heap.size w6 V → V.cell? ⟨w.heap.size, 0, none⟩ = some (.string met) ∧ V.cell? ⟨w.heap.size, 1, none⟩ = some (.string tar) ∧ V.cell? ⟨w.heap.size, 2, none⟩ = some (.slice (some ad) n c) ∧ V.cell? ⟨w.heap.size, 3, none⟩ = some (.string body) ∧ V.cell? ⟨w.heap.size, 4, none⟩ = some (.bool shut) ∧ V.cell? ⟨w.heap.size + 1, 0, none⟩ = some (.string met) ∧ V.cell? ⟨w.heap.size + 1, 1, none⟩ = some (.string tar) ∧ V.cell? ⟨w.heap.size + 1, 2, none⟩ = some (.slice va n vc) ∧ V.cell? ⟨w.heap.size + 1, 3, none⟩ = some (.string body) ∧ V.cell? ⟨w.heap.size + 1, 4, none⟩ = some (.bool shut)) := fun V hV => ⟨(HX6.out.below hV).box.1, (HX6.out.below hV).box.2.1, (HX6.out.below hV).box.2.2.1, (HX6.out.below hV).box.2.2.2.1, (HX6.out.below hV).box.2.2.2.2, (HY6.out.below hV).box.1, (HY6.out.below hV).box.2.1, (HY6.out.below hV).box.2.2.1, (HY6.out.below hV).box.2.2.2.1, (HY6.out.below hV).box.2.2.2.2⟩
    have HFF : Hid (∀ V, Below w6.heap.size w6 V → FA w6.heap.size V (some ad) fs) := fun V hV => FA.below HF6.out (fun b hb => hV.block b hb)
    have HFV : Hid (∀ V, Below w6.heap.size w6 V → FA w6.heap.size V va fs) := fun V hV => FA.below HV6.out (fun b hb => hV.block b hb)
    have HZZ : Hid (∀ V, Below w6.heap.size w6 V → w6.heap.size ≤ V.heap.size) := fun V hV => hV.size
    have HBW : Hid (∀ V, Below w6.heap.size w6 V → Below w.heap.size w V) := fun V hV => HB6.out.trans (hV.mono HB6.out.size)
    have bd : Below w6.heap.size w6 w6.drew := below_drew (Below.refl _ _)
    have sd := HSS.out _ bd
    go_wp2_with fail
    refine wp_region_held_drew (S := (fun W => W.cell? ⟨w.heap.size, 0, none⟩ = some (.string met) ∧ W.cell? ⟨w.heap.size, 1, none⟩ = some (.string tar) ∧ W.cell? ⟨w.heap.size, 2, none⟩ = some (.slice (some ad) n c) ∧ W.cell? ⟨w.heap.size, 3, none⟩ = some (.string body) ∧ W.cell? ⟨w.heap.size, 4, none⟩ = some (.bool shut) ∧ W.cell? ⟨w.heap.size + 1, 0, none⟩ = some (.string met) ∧ W.cell? ⟨w.heap.size + 1, 1, none⟩ = some (.string tar) ∧ W.cell? ⟨w.heap.size + 1, 2, none⟩ = some (.slice va n vc) ∧ W.cell? ⟨w.heap.size + 1, 3, none⟩ = some (.string body) ∧ W.cell? ⟨w.heap.size + 1, 4, none⟩ = some (.bool shut))) (by kernel_rfl) sd (fun hHeld => ?_)
    refine wpAnyH_ready (rs := [0]) (by kernel_rfl) (by simp) ?_
    refine AllReadyH.cons rfl (fun K hK => ?_) AllReadyH.nil
    go_simp
    go_wp2_with (go_at_call 10; refine Calls.mono (H5.out _ (HBW.out _ (by assumption))) ?_; rintro e wa ⟨rfl, ka⟩; have ba := HTR.out _ _ (by assumption) ka; have sa := HSS.out _ ba; clear ka)
    refine hK.out _ _ (by first | assumption | go_keep) (fun hHeld => ?_)
    clear hK K
    refine wpAnyH_take (i := 1) (oi := ({ dst := some 29, op := Op.unOp UnOp.not 4 (Operand.tmp 28), type := 4, pos := "law.go:63", after := #[{ on := 0, ground := Ground.data }], guard := none } : Oper)) (v := ?_) rfl (by kernel_rfl) (by kernel_rfl) (by kernel_rfl) (fun _ _ _ h => h) (Or.inl ⟨by rfl, ?_⟩) (by assumption) ?_
    rotate_left
    · (intro w hSw; (try dsimp only at hSw); go_simp; try with_reducible rfl)
    try simp only [Act.put, List.setIfInBounds_toArray, List.set_cons_zero, List.set_cons_succ]
    refine wpAnyH_take (i := 2) (oi := ({ dst := some 30, op := Op.move (Operand.tmp 29), type := 4, pos := "law.go:63", after := #[{ on := 1, ground := Ground.data }, { on := 0, ground := Ground.chain }], guard := none } : Oper)) (v := ?_) rfl (by kernel_rfl) (by kernel_rfl) (by kernel_rfl) (fun _ _ _ h => h) (Or.inl ⟨by rfl, ?_⟩) (by assumption) ?_
    rotate_left
    · (intro w hSw; (try dsimp only at hSw); go_simp; try with_reducible rfl)
    try simp only [Act.put, List.setIfInBounds_toArray, List.set_cons_zero, List.set_cons_succ]
    refine wpAnyH_take (i := 3) (oi := ({ dst := some 31, op := Op.move (Operand.tmp 6), type := 9, pos := "law.go:63", after := #[{ on := 2, ground := Ground.guard }], guard := some (2, false) } : Oper)) (v := ?_) rfl (by kernel_rfl) (by kernel_rfl) (by kernel_rfl) (fun _ _ _ h => h) (Or.inl ⟨by rfl, ?_⟩) (by assumption) ?_
    rotate_left
    · (intro w hSw; (try dsimp only at hSw); go_simp; try with_reducible rfl)
    try simp only [Act.put, List.setIfInBounds_toArray, List.set_cons_zero, List.set_cons_succ]
    refine wpAnyH_take (i := 4) (oi := ({ dst := some 32, op := Op.move (Operand.tmp 8), type := 9, pos := "law.go:63", after := #[{ on := 2, ground := Ground.guard }], guard := some (2, false) } : Oper)) (v := ?_) rfl (by kernel_rfl) (by kernel_rfl) (by kernel_rfl) (fun _ _ _ h => h) (Or.inl ⟨by rfl, ?_⟩) (by assumption) ?_
    rotate_left
    · (intro w hSw; (try dsimp only at hSw); go_simp; try with_reducible rfl)
    try simp only [Act.put, List.setIfInBounds_toArray, List.set_cons_zero, List.set_cons_succ]
    refine wpAnyH_take (i := 5) (oi := ({ dst := some 33, op := Op.binOp BinOp.neq 9 (Operand.tmp 31) (Operand.tmp 32) 9, type := 4, pos := "law.go:63", after := #[{ on := 3, ground := Ground.data }, { on := 4, ground := Ground.data }, { on := 2, ground := Ground.guard }], guard := some (2, false) } : Oper)) (v := ?_) rfl (by kernel_rfl) (by kernel_rfl) (by kernel_rfl) (fun _ _ _ h => h) (Or.inl ⟨by rfl, ?_⟩) (by assumption) ?_
    rotate_left
    · (intro w hSw; (try dsimp only at hSw); go_simp; try with_reducible rfl)
    try simp only [Act.put, List.setIfInBounds_toArray, List.set_cons_zero, List.set_cons_succ]
    refine wpAnyH_take (i := 6) (oi := ({ dst := some 34, op := Op.pick (Operand.tmp 30) (Operand.const (Value.bool true)) (Operand.tmp 33), type := 4, pos := "law.go:63", after := #[{ on := 2, ground := Ground.data }, { on := 5, ground := Ground.data }], guard := none } : Oper)) (v := ?_) rfl (by kernel_rfl) (by kernel_rfl) (by kernel_rfl) (fun _ _ _ h => h) (Or.inl ⟨by rfl, ?_⟩) (by assumption) ?_
    rotate_left
    · (intro w hSw; (try dsimp only at hSw); go_simp; try with_reducible rfl)
    try simp only [Act.put, List.setIfInBounds_toArray, List.set_cons_zero, List.set_cons_succ]
    refine wpAnyH_take (i := 7) (oi := ({ dst := some 35, op := Op.move (Operand.tmp 34), type := 4, pos := "law.go:63", after := #[{ on := 6, ground := Ground.data }, { on := 2, ground := Ground.chain }], guard := none } : Oper)) (v := ?_) rfl (by kernel_rfl) (by kernel_rfl) (by kernel_rfl) (fun _ _ _ h => h) (Or.inl ⟨by rfl, ?_⟩) (by assumption) ?_
    rotate_left
    · (intro w hSw; (try dsimp only at hSw); go_simp; try with_reducible rfl)
    try simp only [Act.put, List.setIfInBounds_toArray, List.set_cons_zero, List.set_cons_succ]
    refine wpAnyH_take (i := 8) (oi := ({ dst := some 36, op := Op.move (Operand.tmp 7), type := 25, pos := "law.go:63", after := #[{ on := 7, ground := Ground.guard }], guard := some (7, false) } : Oper)) (v := ?_) rfl (by kernel_rfl) (by kernel_rfl) (by kernel_rfl) (fun _ _ _ h => h) (Or.inl ⟨by rfl, ?_⟩) (by assumption) ?_
    rotate_left
    · (intro w hSw; (try dsimp only at hSw); go_simp; try with_reducible rfl)
    try simp only [Act.put, List.setIfInBounds_toArray, List.set_cons_zero, List.set_cons_succ]
    refine wpAnyH_take (i := 9) (oi := ({ dst := some 37, op := Op.move (Operand.tmp 9), type := 25, pos := "law.go:63", after := #[{ on := 7, ground := Ground.guard }], guard := some (7, false) } : Oper)) (v := ?_) rfl (by kernel_rfl) (by kernel_rfl) (by kernel_rfl) (fun _ _ _ h => h) (Or.inl ⟨by rfl, ?_⟩) (by assumption) ?_
    rotate_left
    · (intro w hSw; (try dsimp only at hSw); go_simp; try with_reducible rfl)
    try simp only [Act.put, List.setIfInBounds_toArray, List.set_cons_zero, List.set_cons_succ]
    refine wpAnyH_take (i := 10) (oi := ({ dst := some 38, op := Op.binOp BinOp.neq 25 (Operand.tmp 36) (Operand.tmp 37) 25, type := 4, pos := "law.go:63", after := #[{ on := 8, ground := Ground.data }, { on := 9, ground := Ground.data }, { on := 7, ground := Ground.guard }], guard := some (7, false) } : Oper)) (v := ?_) rfl (by kernel_rfl) (by kernel_rfl) (by kernel_rfl) (fun _ _ _ h => h) (Or.inl ⟨by rfl, ?_⟩) (by assumption) ?_
    rotate_left
    · (intro w hSw; (try dsimp only at hSw); go_simp; try with_reducible rfl)
    try simp only [Act.put, List.setIfInBounds_toArray, List.set_cons_zero, List.set_cons_succ]
    refine wpAnyH_take (i := 11) (oi := ({ dst := some 39, op := Op.pick (Operand.tmp 35) (Operand.const (Value.bool true)) (Operand.tmp 38), type := 4, pos := "law.go:63", after := #[{ on := 7, ground := Ground.data }, { on := 10, ground := Ground.data }], guard := none } : Oper)) (v := ?_) rfl (by kernel_rfl) (by kernel_rfl) (by kernel_rfl) (fun _ _ _ h => h) (Or.inl ⟨by rfl, ?_⟩) (by assumption) ?_
    rotate_left
    · (intro w hSw; (try dsimp only at hSw); go_simp; try with_reducible rfl)
    try simp only [Act.put, List.setIfInBounds_toArray, List.set_cons_zero, List.set_cons_succ]
    refine wpAnyH_take (i := 12) (oi := ({ dst := some 40, op := Op.move (Operand.tmp 39), type := 4, pos := "law.go:63", after := #[{ on := 11, ground := Ground.data }, { on := 7, ground := Ground.chain }], guard := none } : Oper)) (v := ?_) rfl (by kernel_rfl) (by kernel_rfl) (by kernel_rfl) (fun _ _ _ h => h) (Or.inl ⟨by rfl, ?_⟩) (by assumption) ?_
    rotate_left
    · (intro w hSw; (try dsimp only at hSw); go_simp; try with_reducible rfl)
    try simp only [Act.put, List.setIfInBounds_toArray, List.set_cons_zero, List.set_cons_succ]
    refine wpAnyH_take (i := 13) (oi := ({ dst := some 41, op := Op.load 24 (Operand.tmp 5), type := 24, pos := "law.go:63", after := #[{ on := 12, ground := Ground.guard }], guard := some (12, false) } : Oper)) (v := ?_) rfl (by kernel_rfl) (by kernel_rfl) (by kernel_rfl) (fun _ _ _ h => h) (Or.inl ⟨by rfl, ?_⟩) (by assumption) ?_
    rotate_left
    · (intro w hSw; (try dsimp only at hSw); go_simp; try with_reducible rfl)
    try simp only [Act.put, List.setIfInBounds_toArray, List.set_cons_zero, List.set_cons_succ]
    refine wpAnyH_take (i := 15) (oi := ({ dst := some 43, op := Op.load 24 (Operand.tmp 2), type := 24, pos := "law.go:63", after := #[{ on := 12, ground := Ground.guard }], guard := some (12, false) } : Oper)) (v := ?_) rfl (by kernel_rfl) (by kernel_rfl) (by kernel_rfl) (fun _ _ _ h => h) (Or.inl ⟨by rfl, ?_⟩) (by assumption) ?_
    rotate_left
    · (intro w hSw; (try dsimp only at hSw); go_simp; try with_reducible rfl)
    try simp only [Act.put, List.setIfInBounds_toArray, List.set_cons_zero, List.set_cons_succ]
    refine wpAnyH_ready (rs := [14]) (by kernel_rfl) (by simp) ?_
    refine AllReadyH.cons rfl (fun K hK => ?_) AllReadyH.nil
    go_simp
    go_wp2_with (go_at_call 19; refine Calls.mono (H3.out va vc _ w6.heap.size (HFV.out _ (by assumption)) (HZZ.out _ (by assumption))) ?_; rintro e wa ⟨rfl, ka⟩; have ba := HTR.out _ _ (by assumption) ka; have sa := HSS.out _ ba; clear ka)
    refine hK.out _ _ (by first | assumption | go_keep) (fun hHeld => ?_)
    clear hK K
    refine wpAnyH_ready (rs := [16]) (by kernel_rfl) (by simp) ?_
    refine AllReadyH.cons rfl (fun K hK => ?_) AllReadyH.nil
    go_simp
    go_wp2_with (go_at_call 20; refine Calls.mono (H4.out _ w6.heap.size (HFF.out _ (by assumption)) (HZZ.out _ (by assumption))) ?_; rintro e wa ⟨rfl, ka⟩; have ba := HTR.out _ _ (by assumption) ka; have sa := HSS.out _ ba; clear ka)
    refine hK.out _ _ (by first | assumption | go_keep) (fun hHeld => ?_)
    clear hK K
    refine wpAnyH_take (i := 17) (oi := ({ dst := some 45, op := Op.binOp BinOp.neq 25 (Operand.tmp 42) (Operand.tmp 44) 25, type := 4, pos := "law.go:63", after := #[{ on := 14, ground := Ground.data }, { on := 16, ground := Ground.data }, { on := 12, ground := Ground.guard }], guard := some (12, false) } : Oper)) (v := ?_) rfl (by kernel_rfl) (by kernel_rfl) (by kernel_rfl) (fun _ _ _ h => h) (Or.inl ⟨by rfl, ?_⟩) (by assumption) ?_
    rotate_left
    · (intro w hSw; (try dsimp only at hSw); go_simp; try with_reducible rfl)
    try simp only [Act.put, List.setIfInBounds_toArray, List.set_cons_zero, List.set_cons_succ]
    refine wpAnyH_take (i := 18) (oi := ({ dst := some 46, op := Op.pick (Operand.tmp 40) (Operand.const (Value.bool true)) (Operand.tmp 45), type := 4, pos := "law.go:63", after := #[{ on := 12, ground := Ground.data }, { on := 17, ground := Ground.data }], guard := none } : Oper)) (v := ?_) rfl (by kernel_rfl) (by kernel_rfl) (by kernel_rfl) (fun _ _ _ h => h) (Or.inl ⟨by rfl, ?_⟩) (by assumption) ?_
    rotate_left
    · (intro w hSw; (try dsimp only at hSw); go_simp; try with_reducible rfl)
    try simp only [Act.put, List.setIfInBounds_toArray, List.set_cons_zero, List.set_cons_succ]
    refine wpAnyH_take (i := 19) (oi := ({ dst := some 47, op := Op.move (Operand.tmp 46), type := 4, pos := "law.go:63", after := #[{ on := 18, ground := Ground.data }, { on := 16, ground := Ground.chain }], guard := none } : Oper)) (v := ?_) rfl (by kernel_rfl) (by kernel_rfl) (by kernel_rfl) (fun _ _ _ h => h) (Or.inl ⟨by rfl, ?_⟩) (by assumption) ?_
    rotate_left
    · (intro w hSw; (try dsimp only at hSw); go_simp; try with_reducible rfl)
    try simp only [Act.put, List.setIfInBounds_toArray, List.set_cons_zero, List.set_cons_succ]
    refine wpAnyH_take (i := 20) (oi := ({ dst := some 48, op := Op.load 24 (Operand.tmp 5), type := 24, pos := "law.go:63", after := #[{ on := 19, ground := Ground.guard }], guard := some (19, false) } : Oper)) (v := ?_) rfl (by kernel_rfl) (by kernel_rfl) (by kernel_rfl) (fun _ _ _ h => h) (Or.inl ⟨by rfl, ?_⟩) (by assumption) ?_
    rotate_left
    · (intro w hSw; (try dsimp only at hSw); go_simp; try with_reducible rfl)
    try simp only [Act.put, List.setIfInBounds_toArray, List.set_cons_zero, List.set_cons_succ]
    refine wpAnyH_take (i := 21) (oi := ({ dst := some 49, op := Op.load 24 (Operand.tmp 2), type := 24, pos := "law.go:63", after := #[{ on := 19, ground := Ground.guard }], guard := some (19, false) } : Oper)) (v := ?_) rfl (by kernel_rfl) (by kernel_rfl) (by kernel_rfl) (fun _ _ _ h => h) (Or.inl ⟨by rfl, ?_⟩) (by assumption) ?_
    rotate_left
    · (intro w hSw; (try dsimp only at hSw); go_simp; try with_reducible rfl)
    try simp only [Act.put, List.setIfInBounds_toArray, List.set_cons_zero, List.set_cons_succ]
    refine wpAnyH_ready (rs := [22]) (by kernel_rfl) (by simp) ?_
    refine AllReadyH.cons rfl (fun K hK => ?_) AllReadyH.nil
    go_simp
    go_wp2_with (go_at_call 11; refine Calls.mono (H6.out va (some ad) vc c w6.heap.size _ (HFV.out _ (by assumption)) (HFF.out _ (by assumption)) (HZZ.out _ (by assumption))) ?_; rintro e wa ⟨rfl, ka⟩; have ba := HTR.out _ _ (by assumption) ka; have sa := HSS.out _ ba; clear ka)
    refine hK.out _ _ (by first | assumption | go_keep) (fun hHeld => ?_)
    clear hK K
    refine wpAnyH_take (i := 23) (oi := ({ dst := some 51, op := Op.unOp UnOp.not 4 (Operand.tmp 50), type := 4, pos := "law.go:63", after := #[{ on := 22, ground := Ground.data }, { on := 19, ground := Ground.guard }], guard := some (19, false) } : Oper)) (v := ?_) rfl (by kernel_rfl) (by kernel_rfl) (by kernel_rfl) (fun _ _ _ h => h) (Or.inl ⟨by rfl, ?_⟩) (by assumption) ?_
    rotate_left
    · (intro w hSw; (try dsimp only at hSw); go_simp; try with_reducible rfl)
    try simp only [Act.put, List.setIfInBounds_toArray, List.set_cons_zero, List.set_cons_succ]
    refine wpAnyH_take (i := 24) (oi := ({ dst := some 52, op := Op.pick (Operand.tmp 47) (Operand.const (Value.bool true)) (Operand.tmp 51), type := 4, pos := "law.go:63", after := #[{ on := 19, ground := Ground.data }, { on := 23, ground := Ground.data }], guard := none } : Oper)) (v := ?_) rfl (by kernel_rfl) (by kernel_rfl) (by kernel_rfl) (fun _ _ _ h => h) (Or.inl ⟨by rfl, ?_⟩) (by assumption) ?_
    rotate_left
    · (intro w hSw; (try dsimp only at hSw); go_simp; try with_reducible rfl)
    try simp only [Act.put, List.setIfInBounds_toArray, List.set_cons_zero, List.set_cons_succ]
    refine wpAnyH_done (by kernel_rfl) ?_ _
    have HBa : Hid (Below w6.heap.size w6 wa) := (by assumption)
    by_cases hT0 : T = 0
    · subst hT0
      obtain ⟨hPE, hPS⟩ := HPR.out rfl
      have HPE : Hid _ := hPE
      have HPS : Hid _ := hPS
      have H7' : Hid (∀ W, Below w.heap.size w W → _) := fun W b => H7.out W b rfl
      have z3 : ¬ 9223372036854775807 < P.size + behind.size := by have := hPZ; omega
      have e5 : ((P.size : Int) == (P.size : Int)) = true := by simp
      clear hPE hPS
      go_wp2_with fail
      refine (H7'.out _ (HBW.out _ HBa.out)).mono ?_
      rintro e w9 ⟨xa, xc, rfl, hf9, b9⟩
      obtain ⟨W9, hW9⟩ : ∃ W9, w9.alloc (.cells #[.string met, .string tar, .slice xa n xc, .string body, .bool shut] 24) = W9 := ⟨_, rfl⟩
      have HA9 : Hid (Below w9.heap.size w9 W9) := by rw [Hid, ← hW9]; exact (Below.refl _ _).alloc (Nat.le_refl _) _
      have b99 : Below w6.heap.size w6 W9 := HTR.out _ _ (HTR.out _ _ HBa.out b9) HA9.out
      have HZ9 : Hid (RB W9 w9.heap.size met tar (.slice xa n xc) body shut) := by rw [Hid, ← hW9]; exact block_alloc_at _ _
      have HXX : Hid (FA W9.heap.size W9 xa fs) := (FA.below hf9 (fun b hb => HA9.out.block b hb)).up HA9.out.size
      have HAA : Hid (FA W9.heap.size W9 (some ad) fs) := (HFF.out _ b99).up b99.size
      have HB9 : Hid (Below w.heap.size w W9) := HBW.out _ b99
      obtain ⟨k0, k1, k2, k3, k4⟩ := HZ9.out.box
      obtain ⟨j0, j1, j2, j3, j4, _⟩ := HSS.out _ b99
      clear hf9 b9 b99
      go_wp2_with fail
      try rw [hW9]
      refine (H6.out xa (some ad) xc c W9.heap.size W9 HXX.out HAA.out (Nat.le_refl _)).mono ?_
      rintro e wz ⟨rfl, bz⟩
      go_wp2_with fail
      go_ret
      exact ⟨rfl, HB9.out.trans (bz.mono HB9.out.size)⟩
    · have y1 : (T != 0) = true := by simp [hT0]
      go_wp2_with fail
      go_ret
      exact ⟨rfl, HBW.out _ HBa.out⟩
end Go.Proofs.YthhhoppmbimeiaaDoor
