/-
  The contracts of both Errors, of the twin's Words, and of awake; the walk of ReplyErrors.
-/
import Derived.Test.YtdkbgbhcnbmlfaaDoorPwr
import Derived.Deep.RegionHeld
namespace Go.Proofs.YtdkbgbhcnbmlfaaDoor
open Go.RowKit
def errB (w : List UInt8) : List UInt8 := [123, 34, 101, 114, 114, 111, 114, 34, 58, 34] ++ w ++ [34, 125]
def errC (z : Int) : Bool := decide (z = 400) || decide (z = 413) || decide (z = 431)
def errR (z : Int) (w : List UInt8) : Rp := ⟨z, errB w, [], errC z⟩
theorem errB_eq (s : ByteArray) : (⟨#[123, 34, 101, 114, 114, 111, 114, 34, 58, 34]⟩ : ByteArray) ++ s ++ ⟨#[34, 125]⟩ = mkB (errB s.data.toList) := by
  apply ext_list
  rw [mkB_list]
  unfold errB
  simp
set_option maxRecDepth 20000 in
set_option maxHeartbeats 4000000 in
theorem error_any (z : Int) (s : ByteArray) (hs : s.size ≤ 140737488355328) (w : World) : Calls Tryd.prog 18 #[.int .i64 z, .string s] w fun e w' => e = .returned (rpV (errR z s.data.toList)) ∧ Below w.heap.size w w' := by
  obtain ⟨W0, hW0⟩ : ∃ W0, w.alloc (.cells #[.int .i64 0, .string ⟨#[]⟩, .string ⟨#[]⟩, .bool false] 23) = W0 := ⟨_, rfl⟩
  have HB0 : Hid (Below w.heap.size w W0) := by rw [Hid, ← hW0]; exact (Below.refl _ _).alloc (Nat.le_refl _) _
  have HX0 : Hid (RpB W0 w.heap.size (rpl0 0)) := by rw [Hid, ← hW0]; exact block_alloc_at _ _
  obtain ⟨k0, k1, k2, k3⟩ := HX0.out.cells
  have f0 := HX0.out.free 0
  have f1 := HX0.out.free 1
  have f2 := HX0.out.free 2
  have f3 := HX0.out.free 3
  obtain ⟨W9, hW9⟩ : ∃ W9, set4 W0 w.heap.size (errR z s.data.toList) = W9 := ⟨_, rfl⟩
  have HX9 : RpB W9 w.heap.size (errR z s.data.toList) := by rw [← hW9]; exact HX0.out.set4 _
  have HB9 : Hid (Below w.heap.size w W9) := by
    rw [Hid, ← hW9]
    have q : Keeps (fun _ => False) w (set4 W0 w.heap.size (errR z s.data.toList)) := set4_keeps (Keeps.of_below HB0.out) (Nat.le_refl _) _
    exact q.below (Nat.le_refl _) (fun k f => f.elim)
  obtain ⟨x0, x1, x2, x3⟩ := HX9.cells
  have HW9 : Hid (set4 W0 w.heap.size (errR z s.data.toList) = W9) := hW9
  unfold set4 at HW9
  have HBB : Hid (_ = _) := errB_eq s
  have HRV : Hid (rpV (errR z s.data.toList) = .agg #[.int .i64 z, .string (mkB (errB s.data.toList)), .string ⟨#[]⟩, .bool (errC z)]) := rfl
  simp only [errR] at HW9 x0 x1 x2 x3
  rw [show mkB [] = ⟨#[]⟩ from rfl] at HW9 x2
  have HEC : Hid (errC z = (decide (z = 400) || decide (z = 413) || decide (z = 431))) := rfl
  rw [HRV.out]
  obtain ⟨B, hB⟩ : ∃ B, mkB (errB s.data.toList) = B := ⟨_, rfl⟩
  rw [hB] at HW9 x1 HBB ⊢
  obtain ⟨c, hc⟩ : ∃ c, errC z = c := ⟨_, rfl⟩
  rw [hc] at HW9 x3 HEC ⊢
  have s1 : ¬ 9223372036854775807 < 10 + s.size := by omega
  have s2 : ¬ 9223372036854775807 < 10 + s.size + 2 := by omega
  clear HX9 hW9 hB hc HRV
  rcases (by omega : z = 400 ∨ z = 413 ∨ z = 431 ∨ (¬ z = 400 ∧ ¬ z = 413 ∧ ¬ z = 431)) with g | g | g | g
  case' inl => subst g
  case' inr.inl => subst g
  case' inr.inr.inl => subst g
  case' inr.inr.inr =>
    obtain ⟨g1, g2, g3⟩ := g
    have q1 : (z == 400) = false := beq_eq_false_iff_ne.2 g1
    have q2 : (z == 413) = false := beq_eq_false_iff_ne.2 g2
    have q3 : (z == 431) = false := beq_eq_false_iff_ne.2 g3
    obtain rfl : c = false := by rw [HEC.out]; simp [g1, g2, g3]
  all_goals try (obtain rfl : c = true := by rw [HEC.out]; rfl)
  all_goals go_enter Tryd.func18, Tryd.ntmps18
  all_goals go_wp2_with fail
  all_goals try rw [hW0]
  all_goals rw [HBB.out]
  all_goals rw [HW9.out]
  all_goals refine bodyPost_ret (v := .agg #[_, .string B, .string ⟨#[]⟩, .bool _]) ?_ rfl ⟨rfl, HB9.out⟩
  all_goals rw [results_cell1 rfl]
  all_goals go_simp
set_option maxRecDepth 20000 in
set_option maxHeartbeats 4000000 in
theorem qerror_any (z : Int) (s : ByteArray) (hs : s.size ≤ 140737488355328) (w : World) : Calls Tryd.prog 19 #[.int .i64 z, .string s] w fun e w' => e = .returned (rpV (errR z s.data.toList)) ∧ Below w.heap.size w w' := by
  obtain ⟨W0, hW0⟩ : ∃ W0, w.alloc (.cells #[.int .i64 0, .string ⟨#[]⟩, .string ⟨#[]⟩, .bool false] 23) = W0 := ⟨_, rfl⟩
  have HB0 : Hid (Below w.heap.size w W0) := by rw [Hid, ← hW0]; exact (Below.refl _ _).alloc (Nat.le_refl _) _
  have HX0 : Hid (RpB W0 w.heap.size (rpl0 0)) := by rw [Hid, ← hW0]; exact block_alloc_at _ _
  obtain ⟨k0, k1, k2, k3⟩ := HX0.out.cells
  have f0 := HX0.out.free 0
  have f1 := HX0.out.free 1
  have f2 := HX0.out.free 2
  have f3 := HX0.out.free 3
  obtain ⟨W9, hW9⟩ : ∃ W9, set4 W0 w.heap.size (errR z s.data.toList) = W9 := ⟨_, rfl⟩
  have HX9 : RpB W9 w.heap.size (errR z s.data.toList) := by rw [← hW9]; exact HX0.out.set4 _
  have HB9 : Hid (Below w.heap.size w W9) := by
    rw [Hid, ← hW9]
    have q : Keeps (fun _ => False) w (set4 W0 w.heap.size (errR z s.data.toList)) := set4_keeps (Keeps.of_below HB0.out) (Nat.le_refl _) _
    exact q.below (Nat.le_refl _) (fun k f => f.elim)
  obtain ⟨x0, x1, x2, x3⟩ := HX9.cells
  have HW9 : Hid (set4 W0 w.heap.size (errR z s.data.toList) = W9) := hW9
  unfold set4 at HW9
  have HBB : Hid (_ = _) := errB_eq s
  have HRV : Hid (rpV (errR z s.data.toList) = .agg #[.int .i64 z, .string (mkB (errB s.data.toList)), .string ⟨#[]⟩, .bool (errC z)]) := rfl
  simp only [errR] at HW9 x0 x1 x2 x3
  rw [show mkB [] = ⟨#[]⟩ from rfl] at HW9 x2
  have HEC : Hid (errC z = (decide (z = 400) || decide (z = 413) || decide (z = 431))) := rfl
  rw [HRV.out]
  obtain ⟨B, hB⟩ : ∃ B, mkB (errB s.data.toList) = B := ⟨_, rfl⟩
  rw [hB] at HW9 x1 HBB ⊢
  obtain ⟨c, hc⟩ : ∃ c, errC z = c := ⟨_, rfl⟩
  rw [hc] at HW9 x3 HEC ⊢
  have s1 : ¬ 9223372036854775807 < 10 + s.size := by omega
  have s2 : ¬ 9223372036854775807 < 10 + s.size + 2 := by omega
  clear HX9 hW9 hB hc HRV
  rcases (by omega : z = 400 ∨ z = 413 ∨ z = 431 ∨ (¬ z = 400 ∧ ¬ z = 413 ∧ ¬ z = 431)) with g | g | g | g
  case' inl => subst g
  case' inr.inl => subst g
  case' inr.inr.inl => subst g
  case' inr.inr.inr =>
    obtain ⟨g1, g2, g3⟩ := g
    have q1 : (z == 400) = false := beq_eq_false_iff_ne.2 g1
    have q2 : (z == 413) = false := beq_eq_false_iff_ne.2 g2
    have q3 : (z == 431) = false := beq_eq_false_iff_ne.2 g3
    obtain rfl : c = false := by rw [HEC.out]; simp [g1, g2, g3]
  all_goals try (obtain rfl : c = true := by rw [HEC.out]; rfl)
  all_goals go_enter Tryd.func19, Tryd.ntmps19
  all_goals go_wp2_with fail
  all_goals try rw [hW0]
  all_goals rw [HBB.out]
  all_goals rw [HW9.out]
  all_goals refine bodyPost_ret (v := .agg #[_, .string B, .string ⟨#[]⟩, .bool _]) ?_ rfl ⟨rfl, HB9.out⟩
  all_goals rw [results_cell1 rfl]
  all_goals go_simp
set_option maxRecDepth 20000 in
set_option maxHeartbeats 4000000 in
theorem qwords_any (z : Int) (w : World) : Calls Tryd.prog 21 #[.int .i64 z] w fun e w' => e = .returned (.string (wordsR z)) ∧ w' = w := by
  rcases Classical.em (z ∈ sts) with h | h
  · simp only [sts, List.mem_cons, List.not_mem_nil, or_false] at h
    rcases h with rfl | rfl | rfl | rfl | rfl | rfl | rfl | rfl | rfl | rfl | rfl | rfl | rfl
    all_goals (go_enter Tryd.func21, Tryd.ntmps21; go_wp2_with fail; go_ret; exact ⟨rfl, rfl⟩)
  · have HE : Hid (wordsR z = ⟨#[]⟩) := by
      rw [Hid, wordsR]
      cases hq : phF phL z with
      | none => rfl
      | some s => exact absurd (ok_sts (by rw [hq]; rfl)) h
    simp only [sts, List.mem_cons, List.not_mem_nil, or_false, not_or] at h
    obtain ⟨h1, h2, h3, h4, h5, h6, h7, h8, h9, h10, h11, h12, h13⟩ := h
    have q1 := beq_eq_false_iff_ne.2 h1
    have q2 := beq_eq_false_iff_ne.2 h2
    have q3 := beq_eq_false_iff_ne.2 h3
    have q4 := beq_eq_false_iff_ne.2 h4
    have q5 := beq_eq_false_iff_ne.2 h5
    have q6 := beq_eq_false_iff_ne.2 h6
    have q7 := beq_eq_false_iff_ne.2 h7
    have q8 := beq_eq_false_iff_ne.2 h8
    have q9 := beq_eq_false_iff_ne.2 h9
    have q10 := beq_eq_false_iff_ne.2 h10
    have q11 := beq_eq_false_iff_ne.2 h11
    have q12 := beq_eq_false_iff_ne.2 h12
    have q13 := beq_eq_false_iff_ne.2 h13
    clear h1 h2 h3 h4 h5 h6 h7 h8 h9 h10 h11 h12 h13
    go_enter Tryd.func21, Tryd.ntmps21
    go_wp2_with fail
    go_ret
    exact ⟨by rw [HE.out]; rfl, rfl⟩
/-! ### awake -/
def awR : Rp := errR 404 [110, 111, 110, 101]
def awT : List UInt8 := [72, 84, 84, 80, 47, 49, 46, 49, 32, 52, 48, 52, 32, 78, 111, 116, 32, 70, 111, 117, 110, 100, 13, 10, 67, 111, 110, 116, 101, 110, 116, 45, 84, 121, 112, 101, 58, 32, 97, 112, 112, 108, 105, 99, 97, 116, 105, 111, 110, 47, 106, 115, 111, 110, 13, 10, 67, 111, 110, 116, 101, 110, 116, 45, 76, 101, 110, 103, 116, 104, 58, 32, 49, 54, 13, 10, 13, 10, 123, 34, 101, 114, 114, 111, 114, 34, 58, 34, 110, 111, 110, 101, 34, 125]
theorem aw_ok : okR awR = true := by decide +kernel
theorem aw_st : (lnS 404 (wordsR 404)).data.toList = [72, 84, 84, 80, 47, 49, 46, 49, 32, 52, 48, 52, 32, 78, 111, 116, 32, 70, 111, 117, 110, 100, 13, 10] := by decide +kernel
theorem dec16 : Lib.decDigits 16 = [49, 54] := by rw [Lib.decDigits_two (by omega) (by omega)]; rfl
theorem aw_wr : wrL awR = awT := by
  have h := wr_parts aw_ok []
  rw [List.append_nil] at h
  rw [h]
  have e0 : (lnS awR.status (wordsR awR.status)).data.toList = [72, 84, 84, 80, 47, 49, 46, 49, 32, 52, 48, 52, 32, 78, 111, 116, 32, 70, 111, 117, 110, 100, 13, 10] := aw_st
  have e1 : hdP awR = (opn 0).data.toList ++ ((opn 1).data.toList ++ (Lib.decDigits 16 ++ crlf.data.toList)) := rfl
  rw [e0, e1, dec16]
  rfl
set_option maxRecDepth 20000 in
set_option maxHeartbeats 8000000 in
theorem awake_any (w : World) (ht : TabP w) : Calls Tryd.prog 9 #[] w fun e w' => e = .returned (.bool true) ∧ Below w.heap.size w w' := by
  have HTB : Hid (∀ W, Below w.heap.size w W → TabP W) := fun W b => tab_below ht b
  have hz : rpZ awR := ⟨by decide, by decide, by decide, by decide⟩
  have H1 : Hid (∀ W, Below w.heap.size w W → _) := fun W b => write_any awR hz W (HTB.out W b)
  rw [show wrR awR = (wrL awR, 0) by unfold wrR; rw [if_pos aw_ok], aw_wr] at H1
  have H2 : Hid (∀ W, Below w.heap.size w W → _) := fun W b => parse_any (mkB awT ++ ⟨#[72, 84, 84, 80]⟩) (by rw [ByteArray.size_append, mkB_size]; decide) W (HTB.out W b)
  have hp : parR (mkB awT ++ ⟨#[72, 84, 84, 80]⟩ : ByteArray).data.toList = (awR, 94, 0) := by
    have e : (mkB awT ++ ⟨#[72, 84, 84, 80]⟩ : ByteArray).data.toList = wrL awR ++ [72, 84, 84, 80] := by rw [aw_wr]; simp [mkB]
    rw [e, par_wr aw_ok, aw_wr]
    rfl
  rw [hp] at H2
  have H3 : Hid (∀ W : World, _) := fun W => error_any 404 ⟨#[110, 111, 110, 101]⟩ (by decide) W
  rw [show rpV (errR 404 (⟨#[110, 111, 110, 101]⟩ : ByteArray).data.toList) = rpV awR from rfl] at H3
  have hsz : (mkB awT).size = 94 := rfl
  have htl : ((mkB awT).toList == [72, 84, 84, 80, 47, 49, 46, 49, 32, 52, 48, 52, 32, 78, 111, 116, 32, 70, 111, 117, 110, 100, 13, 10, 67, 111, 110, 116, 101, 110, 116, 45, 84, 121, 112, 101, 58, 32, 97, 112, 112, 108, 105, 99, 97, 116, 105, 111, 110, 47, 106, 115, 111, 110, 13, 10, 67, 111, 110, 116, 101, 110, 116, 45, 76, 101, 110, 103, 116, 104, 58, 32, 49, 54, 13, 10, 13, 10, 123, 34, 101, 114, 114, 111, 114, 34, 58, 34, 110, 111, 110, 101, 34, 125]) = true := by rw [ByteArray.toList_eq, mkB_list]; decide +kernel
  have HAW : Hid (rpV awR = .agg #[.int .i64 404, .string ⟨#[123, 34, 101, 114, 114, 111, 114, 34, 58, 34, 110, 111, 110, 101, 34, 125]⟩, .string ⟨#[]⟩, .bool false]) := rfl
  rw [HAW.out] at H1 H2 H3
  obtain ⟨S, hS⟩ : ∃ S, mkB awT = S := ⟨_, rfl⟩
  simp only [hS] at H1 H2 hsz htl
  have hs1 : (S.size : Int) = 94 := by omega
  have hs2 : ¬ 9223372036854775807 < S.size + 4 := by omega
  have hs3 : ((94 : Int) == (S.size : Int)) = true := by rw [hs1]; rfl
  clear hS hp hz ht hsz
  go_enter Tryd.func9, Tryd.ntmps9
  go_wp2_with fail
  refine (H1.out _ (Below.refl _ _)).mono ?_
  rintro e w1 ⟨rfl, b1⟩
  have HB1 : Hid (Below w.heap.size w w1) := b1
  clear b1
  go_wp2_with fail
  refine (H2.out _ HB1.out).mono ?_
  rintro e w2 ⟨rfl, b2⟩
  have HB2 : Hid (Below w.heap.size w w2) := HB1.out.trans (b2.mono HB1.out.size)
  clear b2
  obtain ⟨V1, hV1⟩ : ∃ V1, w2.alloc (.cells #[.int .i64 0, .string ⟨#[]⟩, .string ⟨#[]⟩, .bool false] 23) = V1 := ⟨_, rfl⟩
  have HBV : Hid (Below w.heap.size w V1) := by rw [Hid, ← hV1]; exact HB2.out.alloc HB2.out.size _
  have HXV : Hid (RpB V1 w2.heap.size (rpl0 0)) := by rw [Hid, ← hV1]; exact block_alloc_at _ _
  obtain ⟨k0, k1, k2, k3⟩ := HXV.out.cells
  have f0 := HXV.out.free 0
  have f1 := HXV.out.free 1
  have f2 := HXV.out.free 2
  have f3 := HXV.out.free 3
  obtain ⟨W3, hW3⟩ : ∃ W3, set4 V1 w2.heap.size awR = W3 := ⟨_, rfl⟩
  have HX3 : Hid (RpB W3 w2.heap.size awR) := by rw [Hid, ← hW3]; exact HXV.out.set4 _
  have HB3 : Hid (Below w.heap.size w W3) := by
    rw [Hid, ← hW3]
    have q : Keeps (fun _ => False) w (set4 V1 w2.heap.size awR) := set4_keeps (Keeps.of_below HBV.out) HB2.out.size _
    exact q.below (Nat.le_refl _) (fun k f => f.elim)
  have HW3 : Hid ((((V1.setCell ⟨w2.heap.size, 0, none⟩ (.int .i64 404)).setCell ⟨w2.heap.size, 1, none⟩ (.string ⟨#[123, 34, 101, 114, 114, 111, 114, 34, 58, 34, 110, 111, 110, 101, 34, 125]⟩)).setCell ⟨w2.heap.size, 2, none⟩ (.string ⟨#[]⟩)).setCell ⟨w2.heap.size, 3, none⟩ (.bool false) = W3) := hW3
  have HCL : Hid (∀ W, RpB W w2.heap.size awR → W.cell? ⟨w2.heap.size, 0, none⟩ = some (.int .i64 404) ∧ W.cell? ⟨w2.heap.size, 1, none⟩ = some (.string ⟨#[123, 34, 101, 114, 114, 111, 114, 34, 58, 34, 110, 111, 110, 101, 34, 125]⟩) ∧ W.cell? ⟨w2.heap.size, 2, none⟩ = some (.string ⟨#[]⟩) ∧ W.cell? ⟨w2.heap.size, 3, none⟩ = some (.bool false)) := fun W q => RpB.cells q
  clear hW3
  go_upto_region 3 with fail
  rw [HW3.out]
  clear k0 k1 k2 k3 f0 f1 f2 f3 hV1 HW3
  refine wp_region_held_drew (S := fun W => RpB W w2.heap.size awR) (by kernel_rfl) HX3.out (fun hHeld => ?_)
  refine wpAnyH_take (i := 0) (oi := ({ dst := some 18, op := Op.move (Operand.tmp 2), type := 25, pos := "law.go:14", after := #[], guard := none } : Oper)) (v := ?_) rfl (by kernel_rfl) (by kernel_rfl) (by kernel_rfl) (fun _ _ _ h => h) (Or.inl ⟨by rfl, ?_⟩) (by assumption) ?_
  rotate_left
  · (intro w hSw; go_simp; try with_reducible rfl)
  try simp only [Act.put, List.setIfInBounds_toArray, List.set_cons_zero, List.set_cons_succ]
  refine wpAnyH_take (i := 1) (oi := ({ dst := some 19, op := Op.binOp BinOp.eql 25 (Operand.tmp 18) (Operand.const (Value.int IntKind.i64 0)) 25, type := 4, pos := "law.go:14", after := #[{ on := 0, ground := Ground.data }], guard := none } : Oper)) (v := ?_) rfl (by kernel_rfl) (by kernel_rfl) (by kernel_rfl) (fun _ _ _ h => h) (Or.inl ⟨by rfl, ?_⟩) (by assumption) ?_
  rotate_left
  · (intro w hSw; go_simp; try with_reducible rfl)
  try simp only [Act.put, List.setIfInBounds_toArray, List.set_cons_zero, List.set_cons_succ]
  refine wpAnyH_take (i := 2) (oi := ({ dst := some 20, op := Op.move (Operand.tmp 19), type := 4, pos := "law.go:14", after := #[{ on := 1, ground := Ground.data }], guard := none } : Oper)) (v := ?_) rfl (by kernel_rfl) (by kernel_rfl) (by kernel_rfl) (fun _ _ _ h => h) (Or.inl ⟨by rfl, ?_⟩) (by assumption) ?_
  rotate_left
  · (intro w hSw; go_simp; try with_reducible rfl)
  try simp only [Act.put, List.setIfInBounds_toArray, List.set_cons_zero, List.set_cons_succ]
  refine wpAnyH_take (i := 3) (oi := ({ dst := some 21, op := Op.move (Operand.tmp 5), type := 25, pos := "law.go:14", after := #[{ on := 2, ground := Ground.guard }], guard := some (2, true) } : Oper)) (v := ?_) rfl (by kernel_rfl) (by kernel_rfl) (by kernel_rfl) (fun _ _ _ h => h) (Or.inl ⟨by rfl, ?_⟩) (by assumption) ?_
  rotate_left
  · (intro w hSw; go_simp; try with_reducible rfl)
  try simp only [Act.put, List.setIfInBounds_toArray, List.set_cons_zero, List.set_cons_succ]
  refine wpAnyH_take (i := 4) (oi := ({ dst := some 22, op := Op.binOp BinOp.eql 25 (Operand.tmp 21) (Operand.const (Value.int IntKind.i64 0)) 25, type := 4, pos := "law.go:14", after := #[{ on := 3, ground := Ground.data }, { on := 2, ground := Ground.guard }], guard := some (2, true) } : Oper)) (v := ?_) rfl (by kernel_rfl) (by kernel_rfl) (by kernel_rfl) (fun _ _ _ h => h) (Or.inl ⟨by rfl, ?_⟩) (by assumption) ?_
  rotate_left
  · (intro w hSw; go_simp; try with_reducible rfl)
  try simp only [Act.put, List.setIfInBounds_toArray, List.set_cons_zero, List.set_cons_succ]
  refine wpAnyH_take (i := 5) (oi := ({ dst := some 23, op := Op.pick (Operand.tmp 20) (Operand.tmp 22) (Operand.const (Value.bool false)), type := 4, pos := "law.go:14", after := #[{ on := 2, ground := Ground.data }, { on := 4, ground := Ground.data }], guard := none } : Oper)) (v := ?_) rfl (by kernel_rfl) (by kernel_rfl) (by kernel_rfl) (fun _ _ _ h => h) (Or.inl ⟨by rfl, ?_⟩) (by assumption) ?_
  rotate_left
  · (intro w hSw; go_simp; try with_reducible rfl)
  try simp only [Act.put, List.setIfInBounds_toArray, List.set_cons_zero, List.set_cons_succ]
  refine wpAnyH_take (i := 6) (oi := ({ dst := some 24, op := Op.move (Operand.tmp 23), type := 4, pos := "law.go:14", after := #[{ on := 5, ground := Ground.data }, { on := 2, ground := Ground.chain }], guard := none } : Oper)) (v := ?_) rfl (by kernel_rfl) (by kernel_rfl) (by kernel_rfl) (fun _ _ _ h => h) (Or.inl ⟨by rfl, ?_⟩) (by assumption) ?_
  rotate_left
  · (intro w hSw; go_simp; try with_reducible rfl)
  try simp only [Act.put, List.setIfInBounds_toArray, List.set_cons_zero, List.set_cons_succ]
  refine wpAnyH_take (i := 7) (oi := ({ dst := some 25, op := Op.move (Operand.tmp 4), type := 3, pos := "law.go:14", after := #[{ on := 6, ground := Ground.guard }], guard := some (6, true) } : Oper)) (v := ?_) rfl (by kernel_rfl) (by kernel_rfl) (by kernel_rfl) (fun _ _ _ h => h) (Or.inl ⟨by rfl, ?_⟩) (by assumption) ?_
  rotate_left
  · (intro w hSw; go_simp; try with_reducible rfl)
  try simp only [Act.put, List.setIfInBounds_toArray, List.set_cons_zero, List.set_cons_succ]
  refine wpAnyH_take (i := 8) (oi := ({ dst := some 26, op := Op.move (Operand.tmp 1), type := 9, pos := "law.go:14", after := #[{ on := 6, ground := Ground.guard }], guard := some (6, true) } : Oper)) (v := ?_) rfl (by kernel_rfl) (by kernel_rfl) (by kernel_rfl) (fun _ _ _ h => h) (Or.inl ⟨by rfl, ?_⟩) (by assumption) ?_
  rotate_left
  · (intro w hSw; go_simp; try with_reducible rfl)
  try simp only [Act.put, List.setIfInBounds_toArray, List.set_cons_zero, List.set_cons_succ]
  refine wpAnyH_take (i := 9) (oi := ({ dst := some 27, op := Op.call { callee := Callee.builtin Builtin.len, args := #[Operand.tmp 26], argTypes := #[9] }, type := 3, pos := "law.go:14", after := #[{ on := 8, ground := Ground.data }, { on := 6, ground := Ground.guard }], guard := some (6, true) } : Oper)) (v := ?_) rfl (by kernel_rfl) (by kernel_rfl) (by kernel_rfl) (fun _ _ _ h => h) (Or.inl ⟨by rfl, ?_⟩) (by assumption) ?_
  rotate_left
  · (intro w hSw; go_simp; try with_reducible rfl)
  try simp only [Act.put, List.setIfInBounds_toArray, List.set_cons_zero, List.set_cons_succ]
  refine wpAnyH_take (i := 10) (oi := ({ dst := some 28, op := Op.binOp BinOp.eql 3 (Operand.tmp 25) (Operand.tmp 27) 3, type := 4, pos := "law.go:14", after := #[{ on := 7, ground := Ground.data }, { on := 9, ground := Ground.data }, { on := 6, ground := Ground.guard }], guard := some (6, true) } : Oper)) (v := ?_) rfl (by kernel_rfl) (by kernel_rfl) (by kernel_rfl) (fun _ _ _ h => h) (Or.inl ⟨by rfl, ?_⟩) (by assumption) ?_
  rotate_left
  · (intro w hSw; go_simp; try with_reducible rfl)
  try simp only [Act.put, List.setIfInBounds_toArray, List.set_cons_zero, List.set_cons_succ]
  refine wpAnyH_take (i := 11) (oi := ({ dst := some 29, op := Op.pick (Operand.tmp 24) (Operand.tmp 28) (Operand.const (Value.bool false)), type := 4, pos := "law.go:14", after := #[{ on := 6, ground := Ground.data }, { on := 10, ground := Ground.data }], guard := none } : Oper)) (v := ?_) rfl (by kernel_rfl) (by kernel_rfl) (by kernel_rfl) (fun _ _ _ h => h) (Or.inl ⟨by rfl, ?_⟩) (by assumption) ?_
  rotate_left
  · (intro w hSw; go_simp; try with_reducible rfl)
  try simp only [Act.put, List.setIfInBounds_toArray, List.set_cons_zero, List.set_cons_succ]
  refine wpAnyH_take (i := 12) (oi := ({ dst := some 30, op := Op.move (Operand.tmp 29), type := 4, pos := "law.go:14", after := #[{ on := 11, ground := Ground.data }, { on := 6, ground := Ground.chain }], guard := none } : Oper)) (v := ?_) rfl (by kernel_rfl) (by kernel_rfl) (by kernel_rfl) (fun _ _ _ h => h) (Or.inl ⟨by rfl, ?_⟩) (by assumption) ?_
  rotate_left
  · (intro w hSw; go_simp; try with_reducible rfl)
  try simp only [Act.put, List.setIfInBounds_toArray, List.set_cons_zero, List.set_cons_succ]
  refine wpAnyH_take (i := 13) (oi := ({ dst := some 31, op := Op.load 23 (Operand.tmp 3), type := 23, pos := "law.go:14", after := #[{ on := 12, ground := Ground.guard }], guard := some (12, true) } : Oper)) (v := ?_) rfl (by kernel_rfl) (by kernel_rfl) (by kernel_rfl) (fun _ _ _ h => h) (Or.inl ⟨by rfl, ?_⟩) (by assumption) ?_
  rotate_left
  · (intro w hSw; obtain ⟨c0, c1, c2, c3⟩ := HCL.out _ hSw; go_simp; try with_reducible rfl)
  try simp only [Act.put, List.setIfInBounds_toArray, List.set_cons_zero, List.set_cons_succ]
  refine wpAnyH_ready (rs := [14]) (by kernel_rfl) (by simp) ?_
  refine AllReadyH.cons rfl (fun K hK => ?_) AllReadyH.nil
  go_simp
  go_wp2_with (go_at_call 18; refine (H3.out _).mono ?_; rintro e w4 ⟨rfl, b4⟩)
  have HB4 : Hid (Below w.heap.size w w4) := (below_drewN HB3.out 1).trans (b4.mono HB3.out.size)
  refine hK.out _ _ (RpB.below hHeld b4) (fun hHeld => ?_)
  clear b4
  clear hK K
  refine wpAnyH_take (i := 15) (oi := ({ dst := some 33, op := Op.binOp BinOp.eql 23 (Operand.tmp 31) (Operand.tmp 32) 23, type := 4, pos := "law.go:14", after := #[{ on := 13, ground := Ground.data }, { on := 14, ground := Ground.data }, { on := 12, ground := Ground.guard }], guard := some (12, true) } : Oper)) (v := ?_) rfl (by kernel_rfl) (by kernel_rfl) (by kernel_rfl) (fun _ _ _ h => h) (Or.inl ⟨by rfl, ?_⟩) (by assumption) ?_
  rotate_left
  · (intro w hSw; go_simp; try with_reducible rfl)
  try simp only [Act.put, List.setIfInBounds_toArray, List.set_cons_zero, List.set_cons_succ]
  refine wpAnyH_take (i := 16) (oi := ({ dst := some 34, op := Op.pick (Operand.tmp 30) (Operand.tmp 33) (Operand.const (Value.bool false)), type := 4, pos := "law.go:14", after := #[{ on := 12, ground := Ground.data }, { on := 15, ground := Ground.data }], guard := none } : Oper)) (v := ?_) rfl (by kernel_rfl) (by kernel_rfl) (by kernel_rfl) (fun _ _ _ h => h) (Or.inl ⟨by rfl, ?_⟩) (by assumption) ?_
  rotate_left
  · (intro w hSw; go_simp; try with_reducible rfl)
  try simp only [Act.put, List.setIfInBounds_toArray, List.set_cons_zero, List.set_cons_succ]
  refine wpAnyH_take (i := 17) (oi := ({ dst := some 35, op := Op.move (Operand.tmp 34), type := 4, pos := "law.go:14", after := #[{ on := 16, ground := Ground.data }, { on := 14, ground := Ground.chain }], guard := none } : Oper)) (v := ?_) rfl (by kernel_rfl) (by kernel_rfl) (by kernel_rfl) (fun _ _ _ h => h) (Or.inl ⟨by rfl, ?_⟩) (by assumption) ?_
  rotate_left
  · (intro w hSw; go_simp; try with_reducible rfl)
  try simp only [Act.put, List.setIfInBounds_toArray, List.set_cons_zero, List.set_cons_succ]
  refine wpAnyH_take (i := 18) (oi := ({ dst := some 36, op := Op.move (Operand.tmp 1), type := 9, pos := "law.go:14", after := #[{ on := 17, ground := Ground.guard }], guard := some (17, true) } : Oper)) (v := ?_) rfl (by kernel_rfl) (by kernel_rfl) (by kernel_rfl) (fun _ _ _ h => h) (Or.inl ⟨by rfl, ?_⟩) (by assumption) ?_
  rotate_left
  · (intro w hSw; go_simp; try with_reducible rfl)
  try simp only [Act.put, List.setIfInBounds_toArray, List.set_cons_zero, List.set_cons_succ]
  refine wpAnyH_take (i := 19) (oi := ({ dst := some 37, op := Op.binOp BinOp.eql 9 (Operand.tmp 36) (Operand.const (Value.string { data := ([72, 84, 84, 80, 47, 49, 46, 49, 32, 52, 48, 52, 32, 78, 111, 116, 32, 70, 111, 117, 110, 100, 13, 10, 67, 111, 110, 116, 101, 110, 116, 45, 84, 121, 112, 101, 58, 32, 97, 112, 112, 108, 105, 99, 97, 116, 105].append [111, 110, 47, 106, 115, 111, 110, 13, 10, 67, 111, 110, 116, 101, 110, 116, 45, 76, 101, 110, 103, 116, 104, 58, 32, 49, 54, 13, 10, 13, 10, 123, 34, 101, 114, 114, 111, 114, 34, 58, 34, 110, 111, 110, 101, 34, 125]).toArray })) 9, type := 4, pos := "law.go:14", after := #[{ on := 18, ground := Ground.data }, { on := 17, ground := Ground.guard }], guard := some (17, true) } : Oper)) (v := ?_) rfl (by kernel_rfl) (by kernel_rfl) (by kernel_rfl) (fun _ _ _ h => h) (Or.inl ⟨by rfl, ?_⟩) (by assumption) ?_
  rotate_left
  · (intro w hSw; go_simp; try with_reducible rfl)
  try simp only [Act.put, List.setIfInBounds_toArray, List.set_cons_zero, List.set_cons_succ]
  refine wpAnyH_take (i := 20) (oi := ({ dst := some 38, op := Op.pick (Operand.tmp 35) (Operand.tmp 37) (Operand.const (Value.bool false)), type := 4, pos := "law.go:14", after := #[{ on := 17, ground := Ground.data }, { on := 19, ground := Ground.data }], guard := none } : Oper)) (v := ?_) rfl (by kernel_rfl) (by kernel_rfl) (by kernel_rfl) (fun _ _ _ h => h) (Or.inl ⟨by rfl, ?_⟩) (by assumption) ?_
  rotate_left
  · (intro w hSw; go_simp; try with_reducible rfl)
  try simp only [Act.put, List.setIfInBounds_toArray, List.set_cons_zero, List.set_cons_succ]
  refine wpAnyH_take (i := 21) (oi := ({ dst := some 0, op := Op.assign (Operand.tmp 38), type := 4, pos := "law.go:14", after := #[{ on := 20, ground := Ground.data }, { on := 17, ground := Ground.chain }, { on := 0, ground := Ground.phase }, { on := 1, ground := Ground.phase }, { on := 2, ground := Ground.phase }, { on := 3, ground := Ground.phase }, { on := 4, ground := Ground.phase }, { on := 5, ground := Ground.phase }, { on := 6, ground := Ground.phase }, { on := 7, ground := Ground.phase }, { on := 8, ground := Ground.phase }, { on := 9, ground := Ground.phase }, { on := 10, ground := Ground.phase }, { on := 11, ground := Ground.phase }, { on := 12, ground := Ground.phase }, { on := 13, ground := Ground.phase }, { on := 14, ground := Ground.phase }, { on := 15, ground := Ground.phase }, { on := 16, ground := Ground.phase }, { on := 17, ground := Ground.phase }, { on := 18, ground := Ground.phase }, { on := 19, ground := Ground.phase }, { on := 20, ground := Ground.phase }], guard := none } : Oper)) (v := ?_) rfl (by kernel_rfl) (by kernel_rfl) (by kernel_rfl) (fun _ _ _ h => h) (Or.inl ⟨by rfl, ?_⟩) (by assumption) ?_
  rotate_left
  · (intro w hSw; go_simp; try with_reducible rfl)
  refine wpAnyH_done (by kernel_rfl) ?_ _
  go_wp2_with fail
  go_ret
  exact ⟨rfl, HB4.out⟩
end Go.Proofs.YtdkbgbhcnbmlfaaDoor
