/-
  The contract of the twin's Base64.
-/
import Derived.Test.YtedibkcempcpnaaDoorB64
namespace Go.Proofs.YtedibkcempcpnaaDoor
open Go.RowKit
theorem and_4 (x : Fin 4096) : bits BinOp.and IntKind.i64 (x.val : Int) 3 = ((x.val % 4 : Nat) : Int) := by
  have h1 : (BitVec.ofInt 64 3).toNat = 2 ^ 2 - 1 := by decide
  have key : (BitVec.ofInt 64 (x.val : Int) &&& BitVec.ofInt 64 3).toNat = ((x.val : Int) % ((2 ^ 64 : Nat) : Int)).toNat % 2 ^ 2 := by
    rw [BitVec.toNat_and, BitVec.toNat_ofInt, h1, Nat.and_two_pow_sub_one_eq_mod]
  show IntKind.i64.wrap ((BitVec.ofInt 64 (x.val : Int) &&& BitVec.ofInt 64 3).toNat : Nat) = _
  have := x.isLt
  rw [key, IntKind.wrap_i64]
  omega
theorem and_16 (x : Fin 4096) : bits BinOp.and IntKind.i64 (x.val : Int) 15 = ((x.val % 16 : Nat) : Int) := by
  have h1 : (BitVec.ofInt 64 15).toNat = 2 ^ 4 - 1 := by decide
  have key : (BitVec.ofInt 64 (x.val : Int) &&& BitVec.ofInt 64 15).toNat = ((x.val : Int) % ((2 ^ 64 : Nat) : Int)).toNat % 2 ^ 4 := by
    rw [BitVec.toNat_and, BitVec.toNat_ofInt, h1, Nat.and_two_pow_sub_one_eq_mod]
  show IntKind.i64.wrap ((BitVec.ofInt 64 (x.val : Int) &&& BitVec.ofInt 64 15).toNat : Nat) = _
  have := x.isLt
  rw [key, IntKind.wrap_i64]
  omega
theorem and_64 (x : Fin 4096) : bits BinOp.and IntKind.i64 (x.val : Int) 63 = ((x.val % 64 : Nat) : Int) := by
  have h1 : (BitVec.ofInt 64 63).toNat = 2 ^ 6 - 1 := by decide
  have key : (BitVec.ofInt 64 (x.val : Int) &&& BitVec.ofInt 64 63).toNat = ((x.val : Int) % ((2 ^ 64 : Nat) : Int)).toNat % 2 ^ 6 := by
    rw [BitVec.toNat_and, BitVec.toNat_ofInt, h1, Nat.and_two_pow_sub_one_eq_mod]
  show IntKind.i64.wrap ((BitVec.ofInt 64 (x.val : Int) &&& BitVec.ofInt 64 63).toNat : Nat) = _
  have := x.isLt
  rw [key, IntKind.wrap_i64]
  omega
theorem and_0 (x : Fin 4096) : bits BinOp.and IntKind.i64 (x.val : Int) 0 = 0 := by
  have h1 : (BitVec.ofInt 64 0).toNat = 2 ^ 0 - 1 := by decide
  have key : (BitVec.ofInt 64 (x.val : Int) &&& BitVec.ofInt 64 0).toNat = ((x.val : Int) % ((2 ^ 64 : Nat) : Int)).toNat % 2 ^ 0 := by
    rw [BitVec.toNat_and, BitVec.toNat_ofInt, h1, Nat.and_two_pow_sub_one_eq_mod]
  show IntKind.i64.wrap ((BitVec.ofInt 64 (x.val : Int) &&& BitVec.ofInt 64 0).toNat : Nat) = _
  rw [key, IntKind.wrap_i64]
  omega
set_option maxRecDepth 20000 in
set_option maxHeartbeats 4000000 in
theorem refBase64_any (s : ByteArray) (w : World) (hs : s.size ≤ 105553116263424) : Calls Tryd.prog 43 #[.string s] w fun e w' => e = .returned (.string ⟨(enc 0 0 s.data.toList).toArray⟩) ∧ Below w.heap.size w w' := by
  obtain ⟨i0, hi, hz0, hz1, hz2⟩ := info_parts info5
  obtain ⟨l, hl⟩ : ∃ l, s.data.toList = l := ⟨_, rfl⟩
  have HSl : Hid (l = s.data.toList) := hl.symm
  rw [hl]
  clear hl
  have hll : s.data.toList.length = s.size := by simp
  have HLL : Hid _ := hll
  clear hll
  go_enter Tryd.func43, Tryd.ntmps43
  go_wp2_with fail
  go_loopw [3, 4, 5, 6] (fun v rr nn i wr => ∃ (k n r : Nat) (cur : List UInt8), k ≤ s.size ∧ i = .int .i64 k ∧ rr = .int .i64 (r : Int) ∧ nn = .int .i64 (n : Int) ∧ (n = 0 ∨ n = 2 ∨ n = 4) ∧ Hid (r < 2 ^ n) ∧ Hid (enc 0 0 l = cur ++ enc n r (s.data.toList.drop k)) ∧ Hid (6 * cur.length + n = 8 * k) ∧ wr.ownsRow w.heap.size 5 1 v cur.length (cellsOf cur) ∧ Below w.heap.size w wr) (fun _ _ _ i _ => s.size - (intOf i).toNat)
  case atStart => exact ⟨0, 0, 0, [], by omega, rfl, rfl, rfl, Or.inl rfl, show (0 : Nat) < 2 ^ 0 by decide, by rw [Hid, HSl.out]; rfl, rfl, World.ownsRow_nil _ _ _ _, Below.refl _ _⟩
  case round =>
    obtain ⟨k, n, r, cur, hk, rfl, rfl, rfl, hn, HRr, HE, HL, hown, hb⟩ := hrel
    have hsz := hb.size
    obtain ⟨a, cap, rfl⟩ := form_of_row hown
    by_cases hlt : k < s.size
    · have r0 := fun W => run_byte s (i := k) (z := (k : Int)) rfl hlt W
      obtain ⟨b, hb0⟩ : ∃ b, byteAt s k = b := ⟨_, rfl⟩
      have hbl : b < 256 := by rw [← hb0]; exact byteAt_lt s k
      rw [hb0] at r0
      have HE2 : Hid _ := enc_step hlt HE.out
      rw [hb0] at HE2
      obtain ⟨B, hBv⟩ : ∃ B, r * 256 + b = B := ⟨_, rfl⟩
      have HBv : Hid _ := hBv
      have jB : (r : Int) * 256 + (b : Int) = (B : Int) := by omega
      clear hb0 hBv
      rcases hn with rfl | rfl | rfl
      · have hrn : r < 1 := HRr.out
        have hB4 : B < 4096 := by have := HBv.out; omega
        obtain ⟨q0, hq0⟩ : ∃ q, B / 4 = q := ⟨_, rfl⟩
        have lq0 : q0 < 64 := by have := HBv.out; omega
        have jq0 : (B : Int) / 4 = (q0 : Int) := by omega
        have rq0 := fun W => run_let lq0 .i64 W
        obtain ⟨m0, hm0⟩ : ∃ m, B % 4 = m := ⟨_, rfl⟩
        have a0 : bits BinOp.and IntKind.i64 (B : Int) 3 = (m0 : Int) := by rw [← hm0]; exact and_4 ⟨B, hB4⟩
        go_wp2_with fail
        refine wp_loop_rounds 2 ?_
        rw [rounds_succ]
        go_wp2_with (at_builtin; refine wpList_append_own _ rfl (.tmp 26) (.tmp 31) 37 rfl w.heap.size 5 i0 (.int .u8 0) 1 1 Tryd.underlying37 hi hz0 hz1 hz2 rfl (by decide) _ _ _ rfl (hown.alloc _) ⟨wr.heap.size, 0, none⟩ 1 1 (cellsOf [let64 q0]) rfl rfl (new_cells _ (cellsOf [let64 q0]) _) (cellsOf_one _) (by have := HL.out;  unfold maxLen; omega) (by have := HL.out;  omega) (by have := hb.size; simp; omega) ?_)
        intro x5 w5 own5 grow5 _
        have bel5 : Below w.heap.size w w5 := (hb.alloc hb.size _).grown grow5 (by have := hb.size; simp; omega) (fun i hi => (hown.lt i hi).1)
        have row5 : w5.ownsRow w.heap.size 5 1 x5 (cur ++ [let64 q0]).length (cellsOf (cur ++ [let64 q0])) := by
          rw [cellsOf_append, snoc_len rfl]; exact own5
        clear own5 grow5
        obtain ⟨C5, hC5⟩ : ∃ C, cur ++ [let64 q0] = C := ⟨_, rfl⟩
        have HCl5 : Hid (C5.length = cur.length + 1) := by rw [Hid, ← hC5, snoc_len rfl]
        rw [hC5] at row5
        obtain ⟨ad5, cap5, rfl⟩ := form_of_row row5
        clear hown
        go_wp2_with fail
        rw [rounds_succ]
        have HEf : Hid (enc 0 0 l = C5 ++ enc 2 m0 (s.data.toList.drop (k + 1))) := by
          have e := HE2.out
          rw [show encOut 0 r b = [let64 (b / 4)] from rfl, show b / 4 = q0 by have := HBv.out; omega, show encR 0 b = m0 by show b % 4 = m0; have := HBv.out; omega] at e
          rw [Hid, e, ← hC5]
          rfl
        have HLf : Hid (6 * C5.length + 2 = 8 * (k + 1)) := by have := HL.out; have := HCl5.out; rw [Hid]; omega
        have HRf : Hid (m0 < 2 ^ 2) := by rw [Hid]; omega
        go_wp2_with fail
        exact ⟨⟨k + 1, 2, m0, C5, by omega, by go_num, rfl, rfl, by simp, HRf.out, HEf.out, HLf.out, row5, bel5⟩, by simp [intOf]; omega⟩
      · have hrn : r < 4 := HRr.out
        have hB4 : B < 4096 := by have := HBv.out; omega
        obtain ⟨q0, hq0⟩ : ∃ q, B / 16 = q := ⟨_, rfl⟩
        have lq0 : q0 < 64 := by have := HBv.out; omega
        have jq0 : (B : Int) / 16 = (q0 : Int) := by omega
        have rq0 := fun W => run_let lq0 .i64 W
        obtain ⟨m0, hm0⟩ : ∃ m, B % 16 = m := ⟨_, rfl⟩
        have a0 : bits BinOp.and IntKind.i64 (B : Int) 15 = (m0 : Int) := by rw [← hm0]; exact and_16 ⟨B, hB4⟩
        go_wp2_with fail
        refine wp_loop_rounds 2 ?_
        rw [rounds_succ]
        go_wp2_with (at_builtin; refine wpList_append_own _ rfl (.tmp 26) (.tmp 31) 37 rfl w.heap.size 5 i0 (.int .u8 0) 1 1 Tryd.underlying37 hi hz0 hz1 hz2 rfl (by decide) _ _ _ rfl (hown.alloc _) ⟨wr.heap.size, 0, none⟩ 1 1 (cellsOf [let64 q0]) rfl rfl (new_cells _ (cellsOf [let64 q0]) _) (cellsOf_one _) (by have := HL.out;  unfold maxLen; omega) (by have := HL.out;  omega) (by have := hb.size; simp; omega) ?_)
        intro x5 w5 own5 grow5 _
        have bel5 : Below w.heap.size w w5 := (hb.alloc hb.size _).grown grow5 (by have := hb.size; simp; omega) (fun i hi => (hown.lt i hi).1)
        have row5 : w5.ownsRow w.heap.size 5 1 x5 (cur ++ [let64 q0]).length (cellsOf (cur ++ [let64 q0])) := by
          rw [cellsOf_append, snoc_len rfl]; exact own5
        clear own5 grow5
        obtain ⟨C5, hC5⟩ : ∃ C, cur ++ [let64 q0] = C := ⟨_, rfl⟩
        have HCl5 : Hid (C5.length = cur.length + 1) := by rw [Hid, ← hC5, snoc_len rfl]
        rw [hC5] at row5
        obtain ⟨ad5, cap5, rfl⟩ := form_of_row row5
        clear hown
        go_wp2_with fail
        rw [rounds_succ]
        have HEf : Hid (enc 0 0 l = C5 ++ enc 4 m0 (s.data.toList.drop (k + 1))) := by
          have e := HE2.out
          rw [show encOut 2 r b = [let64 (r * 16 + b / 16)] from rfl, show r * 16 + b / 16 = q0 by have := HBv.out; omega, show encR 2 b = m0 by show b % 16 = m0; have := HBv.out; omega] at e
          rw [Hid, e, ← hC5]
          rfl
        have HLf : Hid (6 * C5.length + 4 = 8 * (k + 1)) := by have := HL.out; have := HCl5.out; rw [Hid]; omega
        have HRf : Hid (m0 < 2 ^ 4) := by rw [Hid]; omega
        go_wp2_with fail
        exact ⟨⟨k + 1, 4, m0, C5, by omega, by go_num, rfl, rfl, by simp, HRf.out, HEf.out, HLf.out, row5, bel5⟩, by simp [intOf]; omega⟩
      · have hrn : r < 16 := HRr.out
        have hB4 : B < 4096 := by have := HBv.out; omega
        obtain ⟨q0, hq0⟩ : ∃ q, B / 64 = q := ⟨_, rfl⟩
        have lq0 : q0 < 64 := by have := HBv.out; omega
        have jq0 : (B : Int) / 64 = (q0 : Int) := by omega
        have rq0 := fun W => run_let lq0 .i64 W
        obtain ⟨m0, hm0⟩ : ∃ m, B % 64 = m := ⟨_, rfl⟩
        have a0 : bits BinOp.and IntKind.i64 (B : Int) 63 = (m0 : Int) := by rw [← hm0]; exact and_64 ⟨B, hB4⟩
        have lm0 : m0 < 64 := by omega
        have rm0 := fun W => run_let lm0 .i64 W
        have a1 : bits BinOp.and IntKind.i64 (m0 : Int) 0 = 0 := and_0 ⟨m0, by omega⟩
        go_wp2_with fail
        refine wp_loop_rounds 3 ?_
        rw [rounds_succ]
        go_wp2_with (at_builtin; refine wpList_append_own _ rfl (.tmp 26) (.tmp 31) 37 rfl w.heap.size 5 i0 (.int .u8 0) 1 1 Tryd.underlying37 hi hz0 hz1 hz2 rfl (by decide) _ _ _ rfl (hown.alloc _) ⟨wr.heap.size, 0, none⟩ 1 1 (cellsOf [let64 q0]) rfl rfl (new_cells _ (cellsOf [let64 q0]) _) (cellsOf_one _) (by have := HL.out;  unfold maxLen; omega) (by have := HL.out;  omega) (by have := hb.size; simp; omega) ?_)
        intro x5 w5 own5 grow5 _
        have bel5 : Below w.heap.size w w5 := (hb.alloc hb.size _).grown grow5 (by have := hb.size; simp; omega) (fun i hi => (hown.lt i hi).1)
        have row5 : w5.ownsRow w.heap.size 5 1 x5 (cur ++ [let64 q0]).length (cellsOf (cur ++ [let64 q0])) := by
          rw [cellsOf_append, snoc_len rfl]; exact own5
        clear own5 grow5
        obtain ⟨C5, hC5⟩ : ∃ C, cur ++ [let64 q0] = C := ⟨_, rfl⟩
        have HCl5 : Hid (C5.length = cur.length + 1) := by rw [Hid, ← hC5, snoc_len rfl]
        rw [hC5] at row5
        obtain ⟨ad5, cap5, rfl⟩ := form_of_row row5
        clear hown
        go_wp2_with fail
        rw [rounds_succ]
        go_wp2_with (at_builtin; refine wpList_append_own _ rfl (.tmp 26) (.tmp 31) 37 rfl w.heap.size 5 i0 (.int .u8 0) 1 1 Tryd.underlying37 hi hz0 hz1 hz2 rfl (by decide) _ _ _ rfl (row5.alloc _) ⟨w5.heap.size, 0, none⟩ 1 1 (cellsOf [let64 m0]) rfl rfl (new_cells _ (cellsOf [let64 m0]) _) (cellsOf_one _) (by have := HL.out; have := HCl5.out; unfold maxLen; omega) (by have := HL.out; have := HCl5.out; omega) (by have := bel5.size; simp; omega) ?_)
        intro x6 w6 own6 grow6 _
        have bel6 : Below w.heap.size w w6 := (bel5.alloc bel5.size _).grown grow6 (by have := bel5.size; simp; omega) (fun i hi => (row5.lt i hi).1)
        have row6 : w6.ownsRow w.heap.size 5 1 x6 (C5 ++ [let64 m0]).length (cellsOf (C5 ++ [let64 m0])) := by
          rw [cellsOf_append, snoc_len rfl]; exact own6
        clear own6 grow6
        obtain ⟨C6, hC6⟩ : ∃ C, C5 ++ [let64 m0] = C := ⟨_, rfl⟩
        have HCl6 : Hid (C6.length = C5.length + 1) := by rw [Hid, ← hC6, snoc_len rfl]
        rw [hC6] at row6
        obtain ⟨ad6, cap6, rfl⟩ := form_of_row row6
        clear row5
        go_wp2_with fail
        rw [rounds_succ]
        have HEf : Hid (enc 0 0 l = C6 ++ enc 0 0 (s.data.toList.drop (k + 1))) := by
          have e := HE2.out
          rw [show encOut 4 r b = [let64 (r * 4 + b / 64), let64 (b % 64)] from rfl, show r * 4 + b / 64 = q0 by have := HBv.out; omega, show b % 64 = m0 by have := HBv.out; omega] at e
          rw [Hid, e, ← hC6, ← hC5]
          simp [encN, encR]
        have HLf : Hid (6 * C6.length + 0 = 8 * (k + 1)) := by have := HL.out; have := HCl5.out; have := HCl6.out; rw [Hid]; omega
        have HRf : Hid (0 < 2 ^ 0) := by rw [Hid]; omega
        go_wp2_with fail
        exact ⟨⟨k + 1, 0, 0, C6, by omega, by go_num, rfl, rfl, by simp, HRf.out, HEf.out, HLf.out, row6, bel6⟩, by simp [intOf]; omega⟩
    · obtain rfl : k = s.size := by omega
      rcases hn with rfl | rfl | rfl
      · have HF : Hid (enc 0 0 l = cur) := by
          rw [Hid, HE.out, List.drop_eq_nil_of_le (by have := HLL.out; omega)]
          exact List.append_nil _
        have hc := conv_row hown
        go_wp2_with fail
        go_ret
        exact ⟨by rw [HF.out]; rfl, hb⟩
      · obtain ⟨q0, hq0⟩ : ∃ q, r * 16 = q := ⟨_, rfl⟩
        have hrn : r < 4 := HRr.out
        have lq0 : q0 < 64 := by omega
        have jq0 : (r : Int) * 16 = (q0 : Int) := by omega
        have rq0 := fun W => run_let lq0 .i64 W
        have HF : Hid (enc 0 0 l = cur ++ [let64 q0]) := by
          rw [Hid, HE.out, List.drop_eq_nil_of_le (by have := HLL.out; omega)]
          show cur ++ [let64 (r * 16)] = _
          rw [hq0]
        go_wp2_with (at_builtin; refine wpList_append_own _ rfl (.tmp 40) (.tmp 46) 37 rfl w.heap.size 5 i0 (.int .u8 0) 1 1 Tryd.underlying37 hi hz0 hz1 hz2 rfl (by decide) _ _ _ rfl (hown.alloc _) ⟨wr.heap.size, 0, none⟩ 1 1 (cellsOf [let64 q0]) rfl rfl (new_cells _ (cellsOf [let64 q0]) _) (cellsOf_one _) (by have := HL.out;  unfold maxLen; omega) (by have := HL.out;  omega) (by have := hb.size; simp; omega) ?_)
        intro x5 w5 own5 grow5 _
        have bel5 : Below w.heap.size w w5 := (hb.alloc hb.size _).grown grow5 (by have := hb.size; simp; omega) (fun i hi => (hown.lt i hi).1)
        have row5 : w5.ownsRow w.heap.size 5 1 x5 (cur ++ [let64 q0]).length (cellsOf (cur ++ [let64 q0])) := by
          rw [cellsOf_append, snoc_len rfl]; exact own5
        clear own5 grow5
        obtain ⟨C5, hC5⟩ : ∃ C, cur ++ [let64 q0] = C := ⟨_, rfl⟩
        have HCl5 : Hid (C5.length = cur.length + 1) := by rw [Hid, ← hC5, snoc_len rfl]
        rw [hC5] at row5
        obtain ⟨ad5, cap5, rfl⟩ := form_of_row row5
        clear hown
        have hc := conv_row row5
        go_wp2_with fail
        go_ret
        exact ⟨by rw [HF.out, hC5]; rfl, bel5⟩
      · obtain ⟨q0, hq0⟩ : ∃ q, r * 4 = q := ⟨_, rfl⟩
        have hrn : r < 16 := HRr.out
        have lq0 : q0 < 64 := by omega
        have jq0 : (r : Int) * 4 = (q0 : Int) := by omega
        have rq0 := fun W => run_let lq0 .i64 W
        have HF : Hid (enc 0 0 l = cur ++ [let64 q0]) := by
          rw [Hid, HE.out, List.drop_eq_nil_of_le (by have := HLL.out; omega)]
          show cur ++ [let64 (r * 4)] = _
          rw [hq0]
        go_wp2_with (at_builtin; refine wpList_append_own _ rfl (.tmp 40) (.tmp 46) 37 rfl w.heap.size 5 i0 (.int .u8 0) 1 1 Tryd.underlying37 hi hz0 hz1 hz2 rfl (by decide) _ _ _ rfl (hown.alloc _) ⟨wr.heap.size, 0, none⟩ 1 1 (cellsOf [let64 q0]) rfl rfl (new_cells _ (cellsOf [let64 q0]) _) (cellsOf_one _) (by have := HL.out;  unfold maxLen; omega) (by have := HL.out;  omega) (by have := hb.size; simp; omega) ?_)
        intro x5 w5 own5 grow5 _
        have bel5 : Below w.heap.size w w5 := (hb.alloc hb.size _).grown grow5 (by have := hb.size; simp; omega) (fun i hi => (hown.lt i hi).1)
        have row5 : w5.ownsRow w.heap.size 5 1 x5 (cur ++ [let64 q0]).length (cellsOf (cur ++ [let64 q0])) := by
          rw [cellsOf_append, snoc_len rfl]; exact own5
        clear own5 grow5
        obtain ⟨C5, hC5⟩ : ∃ C, cur ++ [let64 q0] = C := ⟨_, rfl⟩
        have HCl5 : Hid (C5.length = cur.length + 1) := by rw [Hid, ← hC5, snoc_len rfl]
        rw [hC5] at row5
        obtain ⟨ad5, cap5, rfl⟩ := form_of_row row5
        clear hown
        have hc := conv_row row5
        go_wp2_with fail
        go_ret
        exact ⟨by rw [HF.out, hC5]; rfl, bel5⟩
end Go.Proofs.YtedibkcempcpnaaDoor
