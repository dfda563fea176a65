/-
  The contracts of both Prints.
-/
import Derived.Test.YthhhoppmbimeiaaDoorQCh
namespace Go.Proofs.YthhhoppmbimeiaaDoor
open Go.RowKit
/-- A request's bytes, if it may be. -/
def printR (met tar : ByteArray) (fs : List Fd) (body : ByteArray) (shut : Bool) : ByteArray := if checkR met tar fs body shut = 0 then hdB met tar fs ++ body else ⟨#[]⟩
set_option maxRecDepth 20000 in
set_option maxHeartbeats 8000000 in
theorem print_any (r : Rq) (B : Nat) (w : World) (h : FA B w r.a r.fs) (hB : B ≤ w.heap.size) (hr : rqOk r) (h1 : r.met.size ≤ 140737488355328) (h2 : r.tar.size ≤ 140737488355328) (h3 : r.body.size ≤ 140737488355328) (hz : (hdB r.met r.tar r.fs).size ≤ 100000000) (hn : r.fs.length ≤ 100000000) :
    Calls Tryd.prog 17 #[rqV r] w fun e w' => e = .returned (.tuple #[.string (printR r.met r.tar r.fs r.body r.shut), .int .i64 (checkR r.met r.tar r.fs r.body r.shut)]) ∧ Below w.heap.size w w' := by
  have H1 : Hid (∀ W B, FA B W r.a r.fs → B ≤ W.heap.size → _) := fun W B h4 h5 => check_any r B W h4 h5 hr h1 h2 h3 hz hn
  have H2 : Hid (∀ W B, FA B W r.a r.fs → B ≤ W.heap.size → _) := fun W B h4 h5 => printHead_any r B W h4 h5 hz hn
  obtain ⟨met, tar, a, c, fs, body, shut⟩ := r
  simp only [rqV] at *
  have HFA : Hid _ := h
  obtain ⟨n, hn2⟩ : ∃ n, fs.length = n := ⟨_, rfl⟩
  obtain ⟨W0, hW0⟩ : ∃ W0, w.alloc (.cells #[.string met, .string tar, .slice a fs.length c, .string body, .bool shut] 24) = W0 := ⟨_, rfl⟩
  have HB0 : Hid (Below w.heap.size w W0) := by rw [Hid, ← hW0]; exact (Below.refl _ _).alloc (Nat.le_refl _) _
  have HX0 : Hid (RB W0 w.heap.size met tar (.slice a fs.length c) body shut) := by rw [Hid, ← hW0]; exact block_alloc_at _ _
  have HF0 : Hid (FA W0.heap.size W0 a fs) := (FA.below HFA.out (fun b hb => HB0.out.block b (by omega))).up (by have := HB0.out.size; omega)
  rw [hn2] at H1 H2 hW0 HX0 ⊢
  clear hn2 h hr
  have HG : Hid (printR met tar fs body shut = if checkR met tar fs body shut = 0 then hdB met tar fs ++ body else ⟨#[]⟩) := rfl
  obtain ⟨T, hT⟩ : ∃ T, checkR met tar fs body shut = T := ⟨_, rfl⟩
  obtain ⟨P, hP⟩ : ∃ P, printR met tar fs body shut = P := ⟨_, rfl⟩
  obtain ⟨HB, hHB⟩ : ∃ x, hdB met tar fs = x := ⟨_, rfl⟩
  rw [hT, hP, hHB] at HG
  rw [hT] at H1
  rw [hHB] at H2 hz
  rw [hT, hP]
  clear hT hP hHB
  obtain ⟨k0, k1, k2, k3, k4⟩ := HX0.out.box
  go_enter Tryd.func17, Tryd.ntmps17
  go_wp2_with fail
  try rw [hW0]
  clear hW0
  refine (H1.out _ _ HF0.out (Nat.le_refl _)).mono ?_
  rintro e w1 ⟨rfl, b1⟩
  have HX : Hid (RB w1 w.heap.size met tar (.slice a n c) body shut) := HX0.out.below b1
  have HFx : Hid (FA w1.heap.size w1 a fs) := (FA.below HF0.out (fun b hb => b1.block b hb)).up b1.size
  have HBx : Hid (Below w.heap.size w w1) := HB0.out.trans (b1.mono HB0.out.size)
  have HTR : Hid (∀ A B, Below w1.heap.size w1 A → Below A.heap.size A B → Below w1.heap.size w1 B) := fun A B h1 h2 => h1.trans (h2.mono h1.size)
  have HSS : Hid (∀ V, Below w1.heap.size w1 V → V.cell? ⟨w.heap.size, 0, none⟩ = some (.string met) ∧ V.cell? ⟨w.heap.size, 1, none⟩ = some (.string tar) ∧ V.cell? ⟨w.heap.size, 2, none⟩ = some (.slice a n c) ∧ V.cell? ⟨w.heap.size, 3, none⟩ = some (.string body) ∧ V.cell? ⟨w.heap.size, 4, none⟩ = some (.bool shut)) := fun V hV => (HX.out.below hV).box
  have HFF : Hid (∀ V, Below w1.heap.size w1 V → FA w1.heap.size V a fs) := fun V hV => FA.below HFx.out (fun b hb => hV.block b hb)
  have HZZ : Hid (∀ V, Below w1.heap.size w1 V → w1.heap.size ≤ V.heap.size) := fun V hV => hV.size
  have HBW : Hid (∀ V, Below w1.heap.size w1 V → Below w.heap.size w V) := fun V hV => HBx.out.trans (hV.mono HBx.out.size)
  have bd : Below w1.heap.size w1 w1.drew := below_drew (Below.refl _ _)
  have sd := HSS.out _ bd
  clear b1 k0 k1 k2 k3 k4
  by_cases hT0 : T = 0
  · subst hT0
    have HR : Hid (P = HB ++ body) := by rw [Hid, HG.out, if_pos rfl]
    have z1 : HB.size ≤ 100000000 := hz
    have z2 : body.size ≤ 140737488355328 := h3
    have z3 : ¬ 9223372036854775807 < HB.size + body.size := by omega
    go_wp2_with fail
    refine wp_region_held_drew (S := (fun W => W.cell? ⟨w.heap.size, 0, none⟩ = some (.string met) ∧ W.cell? ⟨w.heap.size, 1, none⟩ = some (.string tar) ∧ W.cell? ⟨w.heap.size, 2, none⟩ = some (.slice a n c) ∧ W.cell? ⟨w.heap.size, 3, none⟩ = some (.string body) ∧ W.cell? ⟨w.heap.size, 4, none⟩ = some (.bool shut))) (by kernel_rfl) sd (fun hHeld => ?_)
    refine wpAnyH_take (i := 0) (oi := ({ dst := some 10, op := Op.load 24 (Operand.tmp 1), type := 24, pos := "print.go:38", after := #[], guard := none } : Oper)) (v := ?_) rfl (by kernel_rfl) (by kernel_rfl) (by kernel_rfl) (fun _ _ _ h => h) (Or.inl ⟨by rfl, ?_⟩) (by assumption) ?_
    rotate_left
    · (intro w hSw; (try dsimp only at hSw); go_simp; try with_reducible rfl)
    try simp only [Act.put, List.setIfInBounds_toArray, List.set_cons_zero, List.set_cons_succ]
    refine wpAnyH_take (i := 2) (oi := ({ dst := some 12, op := Op.fieldAddr 24 (Operand.tmp 1) 3, type := 0, pos := "print.go:38", after := #[], guard := none } : Oper)) (v := ?_) rfl (by kernel_rfl) (by kernel_rfl) (by kernel_rfl) (fun _ _ _ h => h) (Or.inl ⟨by rfl, ?_⟩) (by assumption) ?_
    rotate_left
    · (intro w hSw; (try dsimp only at hSw); go_simp; try with_reducible rfl)
    try simp only [Act.put, List.setIfInBounds_toArray, List.set_cons_zero, List.set_cons_succ]
    refine wpAnyH_take (i := 3) (oi := ({ dst := some 13, op := Op.load 9 (Operand.tmp 12), type := 9, pos := "print.go:38", after := #[{ on := 2, ground := Ground.data }], guard := none } : Oper)) (v := ?_) rfl (by kernel_rfl) (by kernel_rfl) (by kernel_rfl) (fun _ _ _ h => h) (Or.inl ⟨by rfl, ?_⟩) (by assumption) ?_
    rotate_left
    · (intro w hSw; (try dsimp only at hSw); go_simp; try with_reducible rfl)
    try simp only [Act.put, List.setIfInBounds_toArray, List.set_cons_zero, List.set_cons_succ]
    refine wpAnyH_ready (rs := [1]) (by kernel_rfl) (by simp) ?_
    refine AllReadyH.cons rfl (fun K hK => ?_) AllReadyH.nil
    go_simp
    go_wp2_with (go_at_call 29; refine Calls.mono (H2.out _ _ (HFF.out _ (by assumption)) (HZZ.out _ (by assumption))) ?_; rintro e wa ⟨rfl, ka⟩; have ba := HTR.out _ _ (by assumption) ka; have sa := HSS.out _ ba; clear ka)
    refine hK.out _ _ (by first | assumption | go_keep) (fun hHeld => ?_)
    clear hK K
    refine wpAnyH_take (i := 4) (oi := ({ dst := some 14, op := Op.binOp BinOp.add 9 (Operand.tmp 11) (Operand.tmp 13) 9, type := 9, pos := "print.go:38", after := #[{ on := 1, ground := Ground.data }, { on := 3, ground := Ground.data }], guard := none } : Oper)) (v := ?_) rfl (by kernel_rfl) (by kernel_rfl) (by kernel_rfl) (fun _ _ _ h => h) (Or.inl ⟨by rfl, ?_⟩) (by assumption) ?_
    rotate_left
    · (intro w hSw; (try dsimp only at hSw); go_simp; try with_reducible rfl)
    try simp only [Act.put, List.setIfInBounds_toArray, List.set_cons_zero, List.set_cons_succ]
    refine wpAnyH_take (i := 5) (oi := ({ dst := some 2, op := Op.assign (Operand.tmp 14), type := 9, pos := "print.go:38", after := #[{ on := 4, ground := Ground.data }, { on := 1, ground := Ground.chain }, { on := 0, ground := Ground.phase }, { on := 1, ground := Ground.phase }, { on := 2, ground := Ground.phase }, { on := 3, ground := Ground.phase }, { on := 4, ground := Ground.phase }], guard := none } : Oper)) (v := ?_) rfl (by kernel_rfl) (by kernel_rfl) (by kernel_rfl) (fun _ _ _ h => h) (Or.inl ⟨by rfl, ?_⟩) (by assumption) ?_
    rotate_left
    · (intro w hSw; (try dsimp only at hSw); go_simp; try with_reducible rfl)
    try simp only [Act.put, List.setIfInBounds_toArray, List.set_cons_zero, List.set_cons_succ]
    refine wpAnyH_take (i := 6) (oi := ({ dst := some 3, op := Op.assign (Operand.const (Value.int IntKind.i64 0)), type := 25, pos := "print.go:38", after := #[{ on := 5, ground := Ground.chain }, { on := 0, ground := Ground.phase }, { on := 1, ground := Ground.phase }, { on := 2, ground := Ground.phase }, { on := 3, ground := Ground.phase }, { on := 4, ground := Ground.phase }, { on := 5, ground := Ground.phase }], guard := none } : Oper)) (v := ?_) rfl (by kernel_rfl) (by kernel_rfl) (by kernel_rfl) (fun _ _ _ h => h) (Or.inl ⟨by rfl, ?_⟩) (by assumption) ?_
    rotate_left
    · (intro w hSw; (try dsimp only at hSw); go_simp; try with_reducible rfl)
    try simp only [Act.put, List.setIfInBounds_toArray, List.set_cons_zero, List.set_cons_succ]
    refine wpAnyH_done (by kernel_rfl) ?_ _
    go_wp2_with fail
    go_ret2
    exact ⟨by rw [HR.out]; rfl, HBW.out _ (by assumption)⟩
  · have HR : Hid (P = ⟨#[]⟩) := by rw [Hid, HG.out, if_neg hT0]
    have y1 : (T != 0) = true := by simp [hT0]
    go_wp2_with fail
    go_ret2
    exact ⟨by rw [HR.out]; rfl, HBx.out⟩
set_option maxRecDepth 20000 in
set_option maxHeartbeats 8000000 in
theorem qprint_any (r : Rq) (B : Nat) (w : World) (h : FA B w r.a r.fs) (hB : B ≤ w.heap.size) (hr : rqOk r) (h1 : r.met.size ≤ 140737488355328) (h2 : r.tar.size ≤ 140737488355328) (h3 : r.body.size ≤ 140737488355328) (hz : (hdB r.met r.tar r.fs).size ≤ 100000000) (hn : r.fs.length ≤ 100000000) :
    Calls Tryd.prog 18 #[rqV r] w fun e w' => e = .returned (.tuple #[.string (printR r.met r.tar r.fs r.body r.shut), .int .i64 (checkR r.met r.tar r.fs r.body r.shut)]) ∧ Below w.heap.size w w' := by
  have H1 : Hid (∀ W B, FA B W r.a r.fs → B ≤ W.heap.size → _) := fun W B h4 h5 => qcheck_any r B W h4 h5 hr h1 h2 h3 hz hn
  have H2 : Hid (∀ W B, FA B W r.a r.fs → B ≤ W.heap.size → _) := fun W B h4 h5 => plain_any r B W h4 h5 hz hn
  obtain ⟨met, tar, a, c, fs, body, shut⟩ := r
  simp only [rqV] at *
  have HFA : Hid _ := h
  obtain ⟨n, hn2⟩ : ∃ n, fs.length = n := ⟨_, rfl⟩
  obtain ⟨W0, hW0⟩ : ∃ W0, w.alloc (.cells #[.string met, .string tar, .slice a fs.length c, .string body, .bool shut] 24) = W0 := ⟨_, rfl⟩
  have HB0 : Hid (Below w.heap.size w W0) := by rw [Hid, ← hW0]; exact (Below.refl _ _).alloc (Nat.le_refl _) _
  have HX0 : Hid (RB W0 w.heap.size met tar (.slice a fs.length c) body shut) := by rw [Hid, ← hW0]; exact block_alloc_at _ _
  have HF0 : Hid (FA W0.heap.size W0 a fs) := (FA.below HFA.out (fun b hb => HB0.out.block b (by omega))).up (by have := HB0.out.size; omega)
  rw [hn2] at H1 H2 hW0 HX0 ⊢
  clear hn2 h hr
  have HG : Hid (printR met tar fs body shut = if checkR met tar fs body shut = 0 then hdB met tar fs ++ body else ⟨#[]⟩) := rfl
  obtain ⟨T, hT⟩ : ∃ T, checkR met tar fs body shut = T := ⟨_, rfl⟩
  obtain ⟨P, hP⟩ : ∃ P, printR met tar fs body shut = P := ⟨_, rfl⟩
  obtain ⟨HB, hHB⟩ : ∃ x, hdB met tar fs = x := ⟨_, rfl⟩
  rw [hT, hP, hHB] at HG
  rw [hT] at H1
  rw [hHB] at H2 hz
  rw [hT, hP]
  clear hT hP hHB
  obtain ⟨k0, k1, k2, k3, k4⟩ := HX0.out.box
  go_enter Tryd.func18, Tryd.ntmps18
  go_wp2_with fail
  try rw [hW0]
  clear hW0
  refine (H1.out _ _ HF0.out (Nat.le_refl _)).mono ?_
  rintro e w1 ⟨rfl, b1⟩
  have HX : Hid (RB w1 w.heap.size met tar (.slice a n c) body shut) := HX0.out.below b1
  have HFx : Hid (FA w1.heap.size w1 a fs) := (FA.below HF0.out (fun b hb => b1.block b hb)).up b1.size
  have HBx : Hid (Below w.heap.size w w1) := HB0.out.trans (b1.mono HB0.out.size)
  clear b1 k0 k1 k2 k3 k4
  obtain ⟨k0, k1, k2, k3, k4⟩ := HX.out.box
  by_cases hT0 : T = 0
  · subst hT0
    have HR : Hid (P = HB ++ body) := by rw [Hid, HG.out, if_pos rfl]
    have z1 : HB.size ≤ 100000000 := hz
    have z2 : body.size ≤ 140737488355328 := h3
    go_wp2_with fail
    refine (H2.out _ _ HFx.out (Nat.le_refl _)).mono ?_
    rintro e w2 ⟨rfl, b2⟩
    go_wp2_with fail
    go_ret2
    exact ⟨by rw [HR.out]; rfl, HBx.out.trans (b2.mono HBx.out.size)⟩
  · have HR : Hid (P = ⟨#[]⟩) := by rw [Hid, HG.out, if_neg hT0]
    have y1 : (T != 0) = true := by simp [hT0]
    go_wp2_with fail
    go_ret2
    exact ⟨by rw [HR.out]; rfl, HBx.out⟩
end Go.Proofs.YthhhoppmbimeiaaDoor
