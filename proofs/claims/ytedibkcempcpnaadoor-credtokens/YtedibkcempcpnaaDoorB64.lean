/-
  Base64: what it is, and the contract of the program's.
-/
import Derived.Test.YtedibkcempcpnaaDoorRefHex
namespace Go.Proofs.YtedibkcempcpnaaDoor
open Go.RowKit
def lettersB : ByteArray := ⟨#[65, 66, 67, 68, 69, 70, 71, 72, 73, 74, 75, 76, 77, 78, 79, 80, 81, 82, 83, 84, 85, 86, 87, 88, 89, 90, 97, 98, 99, 100, 101, 102, 103, 104, 105, 106, 107, 108, 109, 110, 111, 112, 113, 114, 115, 116, 117, 118, 119, 120, 121, 122, 48, 49, 50, 51, 52, 53, 54, 55, 56, 57, 45, 95]⟩
def let64 (x : Nat) : UInt8 := lettersB.data.toList.getD x 0
/-- What a byte gives where n bits of the value r wait. -/
def encOut (n r b : Nat) : List UInt8 := if n = 0 then [let64 (b / 4)] else if n = 2 then [let64 (r * 16 + b / 16)] else [let64 (r * 4 + b / 64), let64 (b % 64)]
def encN (n : Nat) : Nat := if n = 0 then 2 else if n = 2 then 4 else 0
def encR (n b : Nat) : Nat := if n = 0 then b % 4 else if n = 2 then b % 16 else 0
def encEnd (n r : Nat) : List UInt8 := if n = 0 then [] else if n = 2 then [let64 (r * 16)] else [let64 (r * 4)]
def enc : Nat → Nat → List UInt8 → List UInt8
  | n, r, [] => encEnd n r
  | n, r, b :: l => encOut n r b.toNat ++ enc (encN n) (encR n b.toNat) l
theorem let_at : ∀ q : Fin 64, ∀ (p : q.val < lettersB.size), lettersB[q.val] = let64 q.val := by decide +kernel
theorem run_let {q : Nat} (h : q < 64) (k : IntKind) (W : World) : (Instr.index 9 (.string ⟨#[65, 66, 67, 68, 69, 70, 71, 72, 73, 74, 75, 76, 77, 78, 79, 80, 81, 82, 83, 84, 85, 86, 87, 88, 89, 90, 97, 98, 99, 100, 101, 102, 103, 104, 105, 106, 107, 108, 109, 110, 111, 112, 113, 114, 115, 116, 117, 118, 119, 120, 121, 122, 48, 49, 50, 51, 52, 53, 54, 55, 56, 57, 45, 95]⟩) (.int k (q : Int))).run Tryd.prog W = .ok (.int .u8 ((let64 q).toNat : Int)) W := by
  rw [run_index_string W 9 _ k (q : Int) Tryd.underlying9, dif_pos ⟨by omega, by show (q : Int) < 64; omega⟩]
  congr 3
  exact congrArg UInt8.toNat (let_at ⟨q, h⟩ (by show q < 64; exact h))
theorem and63 (x : Nat) (h : x < 4294967296) : bits BinOp.and IntKind.u32 (x : Int) 63 = ((x % 64 : Nat) : Int) := by
  have := u32_and_nat x 63 h (by decide)
  rw [Nat.and_two_pow_sub_one_eq_mod x 6] at this
  exact this
theorem shl_or {R b : Nat} (hb : b < 256) : bits BinOp.or IntKind.u32 ((R : Int) * 256 % 4294967296) (b : Int) = ((R * 256 % 4294967296 + b : Nat) : Int) := by
  have e1 : (R : Int) * 256 % 4294967296 = ((R * 256 % 4294967296 : Nat) : Int) := by omega
  rw [e1, u32_or_nat _ _ (Nat.mod_lt _ (by decide)) (by omega), show R * 256 % 4294967296 = R % 16777216 * 2 ^ 8 by omega, or_plus (i := 8) hb]
theorem enc_step {s : ByteArray} {k n r : Nat} {l cur : List UInt8} (h : k < s.size) (H : enc 0 0 l = cur ++ enc n r (s.data.toList.drop k)) :
    enc 0 0 l = (cur ++ encOut n r (byteAt s k)) ++ enc (encN n) (encR n (byteAt s k)) (s.data.toList.drop (k + 1)) := by
  rw [H, byteAt_drop h, enc, List.append_assoc, UInt8.toNat_ofNat', show byteAt s k % 2 ^ 8 = byteAt s k from Nat.mod_eq_of_lt (byteAt_lt s k)]
set_option maxRecDepth 20000 in
set_option maxHeartbeats 4000000 in
theorem base64_any (s : ByteArray) (w : World) (hs : s.size ≤ 105553116263424) : Calls Tryd.prog 37 #[.string s] w fun e w' => e = .returned (.string ⟨(enc 0 0 s.data.toList).toArray⟩) ∧ Below w.heap.size w w' := by
  obtain ⟨i0, hi, hz0, hz1, hz2⟩ := info_parts info5
  obtain ⟨m, hm⟩ : ∃ m, (4 * s.size + 2) / 3 = m := ⟨_, rfl⟩
  have hquo : (4 * (s.size : Int) + 2).tdiv 3 = (m : Int) := by rw [Int.tdiv_eq_ediv_of_nonneg (by omega)]; omega
  have HM : Hid _ := hm
  have HW : Hid (wrap64 (m : Int) = (m : Int)) := by rw [Hid]; unfold wrap64; omega
  obtain ⟨l, hl⟩ : ∃ l, s.data.toList = l := ⟨_, rfl⟩
  have HSl : Hid (l = s.data.toList) := hl.symm
  rw [hl]
  clear hl hm
  have hll : s.data.toList.length = s.size := by simp
  have HLL : Hid _ := hll
  clear hll
  go_enter Tryd.func37, Tryd.ntmps37
  go_wp2_with (refine wpList_make_own _ rfl _ _ 37 rfl w.heap.size 5 i0 (.int .u8 0) 1 Tryd.underlying37 hi hz0 hz1 .i64 .i64 _ m rfl rfl (by first | exact HW.out | rfl | exact hquo) (by rw [hz2]; have := HM.out; omega) (by unfold maxLen; have := HM.out; omega) (Nat.le_refl _) ?_; intro v1 hown1 hg1)
  have hb1 : Below w.heap.size w v1 := (Below.refl _ w).grown hg1 (Nat.le_refl _) (fun i hi => by cases hi)
  go_loopw [3, 4, 5, 15] (fun v rr nn i wr => ∃ (k n r R : Nat) (cur : List UInt8), k ≤ s.size ∧ i = .int .i64 k ∧ rr = .int .u32 (R : Int) ∧ nn = .int .i64 (n : Int) ∧ (n = 0 ∨ n = 2 ∨ n = 4) ∧ R < 4294967296 ∧ Hid (R % 2 ^ n = r) ∧ Hid (enc 0 0 l = cur ++ enc n r (s.data.toList.drop k)) ∧ Hid (6 * cur.length + n = 8 * k) ∧ wr.ownsRow w.heap.size 5 1 v cur.length (cellsOf cur) ∧ Below w.heap.size w wr) (fun _ _ _ i _ => s.size - (intOf i).toNat)
  case atStart => exact ⟨0, 0, 0, 0, [], by omega, rfl, rfl, rfl, Or.inl rfl, by decide, rfl, by rw [Hid, HSl.out]; rfl, rfl, hown1, hb1⟩
  case round =>
    clear hown1 hg1 hb1
    obtain ⟨k, n, r, R, cur, hk, rfl, rfl, rfl, hn, hR, HRr, HE, HL, hown, hb⟩ := hrel
    have hsz := hb.size
    obtain ⟨a, cap, rfl⟩ := form_of_row hown
    by_cases hlt : k < s.size
    · have r0 := fun W => run_byte s (i := k) (z := (k : Int)) rfl hlt W
      obtain ⟨b, hb0⟩ : ∃ b, byteAt s k = b := ⟨_, rfl⟩
      have hbl : b < 256 := by rw [← hb0]; exact byteAt_lt s k
      rw [hb0] at r0
      have HE2 : Hid _ := enc_step hlt HE.out
      rw [hb0] at HE2
      obtain ⟨R2, hR2⟩ : ∃ R2, R * 256 % 4294967296 + b = R2 := ⟨_, rfl⟩
      have j0 : bits BinOp.or IntKind.u32 ((R : Int) * 256 % 4294967296) (b : Int) = (R2 : Int) := by rw [shl_or hbl, hR2]
      have hR3 : R2 < 4294967296 := by omega
      have HR2 : Hid _ := hR2
      clear hb0 hR2
      rcases hn with rfl | rfl | rfl
      · obtain ⟨q0, hq0⟩ : ∃ q, b / 4 = q := ⟨_, rfl⟩
        have lq0 : q0 < 64 := by omega
        have jq0 : bits BinOp.and IntKind.u32 ((R2 : Int) / 4) 63 = (q0 : Int) := by
          have e1 := and63 (R2 / 4) (by omega)
          rw [show (R2 / 4) % 64 = q0 by have := HR2.out; have := HRr.out; omega] at e1
          exact e1
        have rq0 := fun W => run_let lq0 .u32 W
        go_wp2_with fail
        refine wp_loop_rounds 2 ?_
        rw [rounds_succ]
        go_wp2_with (at_builtin; refine wpList_append_own _ rfl (.tmp 31) (.tmp 37) 37 rfl w.heap.size 5 i0 (.int .u8 0) 1 1 Tryd.underlying37 hi hz0 hz1 hz2 rfl (by decide) _ _ _ rfl (hown.alloc _) ⟨wr.heap.size, 0, none⟩ 1 1 (cellsOf [let64 q0]) rfl rfl (new_cells _ (cellsOf [let64 q0]) _) (cellsOf_one _) (by have := HL.out;  unfold maxLen; omega) (by have := HL.out;  omega) (by have := hb.size; simp; omega) ?_)
        intro x5 w5 own5 grow5 _
        have bel5 : Below w.heap.size w w5 := (hb.alloc hb.size _).grown grow5 (by have := hb.size; simp; omega) (fun i hi => (hown.lt i hi).1)
        have row5 : w5.ownsRow w.heap.size 5 1 x5 (cur ++ [let64 q0]).length (cellsOf (cur ++ [let64 q0])) := by
          rw [cellsOf_append, snoc_len rfl]; exact own5
        clear own5 grow5
        obtain ⟨C5, hC5⟩ : ∃ C, cur ++ [let64 q0] = C := ⟨_, rfl⟩
        have HCl5 : Hid (C5.length = cur.length + 1) := by rw [Hid, ← hC5, snoc_len rfl]
        rw [hC5] at row5
        obtain ⟨ad5, cap5, rfl⟩ := form_of_row row5
        clear hown rq0 jq0
        go_wp2_with fail
        rw [rounds_succ]
        have HEf : Hid (enc 0 0 l = C5 ++ enc 2 (b % 4) (s.data.toList.drop (k + 1))) := by
          have e := HE2.out
          rw [show encOut 0 r b = [let64 (b / 4)] from rfl, hq0] at e
          rw [Hid, e, ← hC5]
          rfl
        have HRf : Hid (R2 % 2 ^ 2 = (b % 4)) := by have := HR2.out; rw [Hid]; omega
        have HLf : Hid (6 * C5.length + 2 = 8 * (k + 1)) := by have := HL.out; have := HCl5.out; rw [Hid]; omega
        go_wp2_with fail
        exact ⟨⟨k + 1, 2, (b % 4), R2, C5, by omega, by go_num, rfl, rfl, by simp, hR3, HRf.out, HEf.out, HLf.out, row5, bel5⟩, by simp [intOf]; omega⟩
      · obtain ⟨q0, hq0⟩ : ∃ q, (R % 4) * 16 + b / 16 = q := ⟨_, rfl⟩
        have lq0 : q0 < 64 := by omega
        have jq0 : bits BinOp.and IntKind.u32 ((R2 : Int) / 16) 63 = (q0 : Int) := by
          have e1 := and63 (R2 / 16) (by omega)
          rw [show (R2 / 16) % 64 = q0 by have := HR2.out; have := HRr.out; omega] at e1
          exact e1
        have rq0 := fun W => run_let lq0 .u32 W
        go_wp2_with fail
        refine wp_loop_rounds 2 ?_
        rw [rounds_succ]
        go_wp2_with (at_builtin; refine wpList_append_own _ rfl (.tmp 31) (.tmp 37) 37 rfl w.heap.size 5 i0 (.int .u8 0) 1 1 Tryd.underlying37 hi hz0 hz1 hz2 rfl (by decide) _ _ _ rfl (hown.alloc _) ⟨wr.heap.size, 0, none⟩ 1 1 (cellsOf [let64 q0]) rfl rfl (new_cells _ (cellsOf [let64 q0]) _) (cellsOf_one _) (by have := HL.out;  unfold maxLen; omega) (by have := HL.out;  omega) (by have := hb.size; simp; omega) ?_)
        intro x5 w5 own5 grow5 _
        have bel5 : Below w.heap.size w w5 := (hb.alloc hb.size _).grown grow5 (by have := hb.size; simp; omega) (fun i hi => (hown.lt i hi).1)
        have row5 : w5.ownsRow w.heap.size 5 1 x5 (cur ++ [let64 q0]).length (cellsOf (cur ++ [let64 q0])) := by
          rw [cellsOf_append, snoc_len rfl]; exact own5
        clear own5 grow5
        obtain ⟨C5, hC5⟩ : ∃ C, cur ++ [let64 q0] = C := ⟨_, rfl⟩
        have HCl5 : Hid (C5.length = cur.length + 1) := by rw [Hid, ← hC5, snoc_len rfl]
        rw [hC5] at row5
        obtain ⟨ad5, cap5, rfl⟩ := form_of_row row5
        clear hown rq0 jq0
        go_wp2_with fail
        rw [rounds_succ]
        have HEf : Hid (enc 0 0 l = C5 ++ enc 4 (b % 16) (s.data.toList.drop (k + 1))) := by
          have e := HE2.out
          rw [show encOut 2 r b = [let64 (r * 16 + b / 16)] from rfl, show r * 16 + b / 16 = q0 by rw [← hq0, ← HRr.out]] at e
          rw [Hid, e, ← hC5]
          rfl
        have HRf : Hid (R2 % 2 ^ 4 = (b % 16)) := by have := HR2.out; rw [Hid]; omega
        have HLf : Hid (6 * C5.length + 4 = 8 * (k + 1)) := by have := HL.out; have := HCl5.out; rw [Hid]; omega
        go_wp2_with fail
        exact ⟨⟨k + 1, 4, (b % 16), R2, C5, by omega, by go_num, rfl, rfl, by simp, hR3, HRf.out, HEf.out, HLf.out, row5, bel5⟩, by simp [intOf]; omega⟩
      · obtain ⟨q0, hq0⟩ : ∃ q, (R % 16) * 4 + b / 64 = q := ⟨_, rfl⟩
        have lq0 : q0 < 64 := by omega
        have jq0 : bits BinOp.and IntKind.u32 ((R2 : Int) / 64) 63 = (q0 : Int) := by
          have e1 := and63 (R2 / 64) (by omega)
          rw [show (R2 / 64) % 64 = q0 by have := HR2.out; have := HRr.out; omega] at e1
          exact e1
        have rq0 := fun W => run_let lq0 .u32 W
        obtain ⟨q1, hq1⟩ : ∃ q, b % 64 = q := ⟨_, rfl⟩
        have lq1 : q1 < 64 := by omega
        have jq1 : bits BinOp.and IntKind.u32 ((R2 : Int)) 63 = (q1 : Int) := by
          have e1 := and63 (R2) (by omega)
          rw [show (R2) % 64 = q1 by have := HR2.out; have := HRr.out; omega] at e1
          exact e1
        have rq1 := fun W => run_let lq1 .u32 W
        go_wp2_with fail
        refine wp_loop_rounds 3 ?_
        rw [rounds_succ]
        go_wp2_with (at_builtin; refine wpList_append_own _ rfl (.tmp 31) (.tmp 37) 37 rfl w.heap.size 5 i0 (.int .u8 0) 1 1 Tryd.underlying37 hi hz0 hz1 hz2 rfl (by decide) _ _ _ rfl (hown.alloc _) ⟨wr.heap.size, 0, none⟩ 1 1 (cellsOf [let64 q0]) rfl rfl (new_cells _ (cellsOf [let64 q0]) _) (cellsOf_one _) (by have := HL.out;  unfold maxLen; omega) (by have := HL.out;  omega) (by have := hb.size; simp; omega) ?_)
        intro x5 w5 own5 grow5 _
        have bel5 : Below w.heap.size w w5 := (hb.alloc hb.size _).grown grow5 (by have := hb.size; simp; omega) (fun i hi => (hown.lt i hi).1)
        have row5 : w5.ownsRow w.heap.size 5 1 x5 (cur ++ [let64 q0]).length (cellsOf (cur ++ [let64 q0])) := by
          rw [cellsOf_append, snoc_len rfl]; exact own5
        clear own5 grow5
        obtain ⟨C5, hC5⟩ : ∃ C, cur ++ [let64 q0] = C := ⟨_, rfl⟩
        have HCl5 : Hid (C5.length = cur.length + 1) := by rw [Hid, ← hC5, snoc_len rfl]
        rw [hC5] at row5
        obtain ⟨ad5, cap5, rfl⟩ := form_of_row row5
        clear hown rq0 jq0
        go_wp2_with fail
        rw [rounds_succ]
        go_wp2_with (at_builtin; refine wpList_append_own _ rfl (.tmp 31) (.tmp 37) 37 rfl w.heap.size 5 i0 (.int .u8 0) 1 1 Tryd.underlying37 hi hz0 hz1 hz2 rfl (by decide) _ _ _ rfl (row5.alloc _) ⟨w5.heap.size, 0, none⟩ 1 1 (cellsOf [let64 q1]) rfl rfl (new_cells _ (cellsOf [let64 q1]) _) (cellsOf_one _) (by have := HL.out; have := HCl5.out; unfold maxLen; omega) (by have := HL.out; have := HCl5.out; omega) (by have := bel5.size; simp; omega) ?_)
        intro x6 w6 own6 grow6 _
        have bel6 : Below w.heap.size w w6 := (bel5.alloc bel5.size _).grown grow6 (by have := bel5.size; simp; omega) (fun i hi => (row5.lt i hi).1)
        have row6 : w6.ownsRow w.heap.size 5 1 x6 (C5 ++ [let64 q1]).length (cellsOf (C5 ++ [let64 q1])) := by
          rw [cellsOf_append, snoc_len rfl]; exact own6
        clear own6 grow6
        obtain ⟨C6, hC6⟩ : ∃ C, C5 ++ [let64 q1] = C := ⟨_, rfl⟩
        have HCl6 : Hid (C6.length = C5.length + 1) := by rw [Hid, ← hC6, snoc_len rfl]
        rw [hC6] at row6
        obtain ⟨ad6, cap6, rfl⟩ := form_of_row row6
        clear row5 rq1 jq1
        go_wp2_with fail
        rw [rounds_succ]
        have HEf : Hid (enc 0 0 l = C6 ++ enc 0 0 (s.data.toList.drop (k + 1))) := by
          have e := HE2.out
          rw [show encOut 4 r b = [let64 (r * 4 + b / 64), let64 (b % 64)] from rfl, show r * 4 + b / 64 = q0 by rw [← hq0, ← HRr.out], hq1] at e
          rw [Hid, e, ← hC6, ← hC5]
          simp [encN, encR]
        have HRf : Hid (R2 % 2 ^ 0 = 0) := by have := HR2.out; rw [Hid]; omega
        have HLf : Hid (6 * C6.length + 0 = 8 * (k + 1)) := by have := HL.out; have := HCl5.out; have := HCl6.out; rw [Hid]; omega
        go_wp2_with fail
        exact ⟨⟨k + 1, 0, 0, R2, C6, by omega, by go_num, rfl, rfl, by simp, hR3, HRf.out, HEf.out, HLf.out, row6, bel6⟩, by simp [intOf]; omega⟩
    · obtain rfl : k = s.size := by omega
      rcases hn with rfl | rfl | rfl
      · have HF : Hid (enc 0 0 l = cur) := by
          rw [Hid, HE.out, List.drop_eq_nil_of_le (by have := HLL.out; omega)]
          exact List.append_nil _
        have hc := conv_row hown
        go_wp2_with fail
        go_ret
        exact ⟨by rw [HF.out]; rfl, hb⟩
      · obtain ⟨q0, hq0⟩ : ∃ q, (R % 4) * 16 = q := ⟨_, rfl⟩
        have lq0 : q0 < 64 := by omega
        have jq0 : bits BinOp.and IntKind.u32 ((R : Int) * 16 % 4294967296) 63 = (q0 : Int) := by
          have e1 := and63 (R * 16 % 4294967296) (by omega)
          rw [show R * 16 % 4294967296 % 64 = q0 by omega] at e1
          rw [← e1]
          rfl
        have rq0 := fun W => run_let lq0 .u32 W
        have HF : Hid (enc 0 0 l = cur ++ [let64 q0]) := by
          rw [Hid, HE.out, List.drop_eq_nil_of_le (by have := HLL.out; omega)]
          show cur ++ [let64 (r * 16)] = _
          rw [← HRr.out, show R % 2 ^ 2 * 16 = q0 by omega]
        go_wp2_with (at_builtin; refine wpList_append_own _ rfl (.tmp 42) (.tmp 49) 37 rfl w.heap.size 5 i0 (.int .u8 0) 1 1 Tryd.underlying37 hi hz0 hz1 hz2 rfl (by decide) _ _ _ rfl (hown.alloc _) ⟨wr.heap.size, 0, none⟩ 1 1 (cellsOf [let64 q0]) rfl rfl (new_cells _ (cellsOf [let64 q0]) _) (cellsOf_one _) (by have := HL.out;  unfold maxLen; omega) (by have := HL.out;  omega) (by have := hb.size; simp; omega) ?_)
        intro x5 w5 own5 grow5 _
        have bel5 : Below w.heap.size w w5 := (hb.alloc hb.size _).grown grow5 (by have := hb.size; simp; omega) (fun i hi => (hown.lt i hi).1)
        have row5 : w5.ownsRow w.heap.size 5 1 x5 (cur ++ [let64 q0]).length (cellsOf (cur ++ [let64 q0])) := by
          rw [cellsOf_append, snoc_len rfl]; exact own5
        clear own5 grow5
        obtain ⟨C5, hC5⟩ : ∃ C, cur ++ [let64 q0] = C := ⟨_, rfl⟩
        have HCl5 : Hid (C5.length = cur.length + 1) := by rw [Hid, ← hC5, snoc_len rfl]
        rw [hC5] at row5
        obtain ⟨ad5, cap5, rfl⟩ := form_of_row row5
        clear hown rq0 jq0
        have hc := conv_row row5
        go_wp2_with fail
        go_ret
        exact ⟨by rw [HF.out, hC5]; rfl, bel5⟩
      · obtain ⟨q0, hq0⟩ : ∃ q, (R % 16) * 4 = q := ⟨_, rfl⟩
        have lq0 : q0 < 64 := by omega
        have jq0 : bits BinOp.and IntKind.u32 ((R : Int) * 4 % 4294967296) 63 = (q0 : Int) := by
          have e1 := and63 (R * 4 % 4294967296) (by omega)
          rw [show R * 4 % 4294967296 % 64 = q0 by omega] at e1
          rw [← e1]
          rfl
        have rq0 := fun W => run_let lq0 .u32 W
        have HF : Hid (enc 0 0 l = cur ++ [let64 q0]) := by
          rw [Hid, HE.out, List.drop_eq_nil_of_le (by have := HLL.out; omega)]
          show cur ++ [let64 (r * 4)] = _
          rw [← HRr.out, show R % 2 ^ 4 * 4 = q0 by omega]
        go_wp2_with (at_builtin; refine wpList_append_own _ rfl (.tmp 42) (.tmp 49) 37 rfl w.heap.size 5 i0 (.int .u8 0) 1 1 Tryd.underlying37 hi hz0 hz1 hz2 rfl (by decide) _ _ _ rfl (hown.alloc _) ⟨wr.heap.size, 0, none⟩ 1 1 (cellsOf [let64 q0]) rfl rfl (new_cells _ (cellsOf [let64 q0]) _) (cellsOf_one _) (by have := HL.out;  unfold maxLen; omega) (by have := HL.out;  omega) (by have := hb.size; simp; omega) ?_)
        intro x5 w5 own5 grow5 _
        have bel5 : Below w.heap.size w w5 := (hb.alloc hb.size _).grown grow5 (by have := hb.size; simp; omega) (fun i hi => (hown.lt i hi).1)
        have row5 : w5.ownsRow w.heap.size 5 1 x5 (cur ++ [let64 q0]).length (cellsOf (cur ++ [let64 q0])) := by
          rw [cellsOf_append, snoc_len rfl]; exact own5
        clear own5 grow5
        obtain ⟨C5, hC5⟩ : ∃ C, cur ++ [let64 q0] = C := ⟨_, rfl⟩
        have HCl5 : Hid (C5.length = cur.length + 1) := by rw [Hid, ← hC5, snoc_len rfl]
        rw [hC5] at row5
        obtain ⟨ad5, cap5, rfl⟩ := form_of_row row5
        clear hown rq0 jq0
        have hc := conv_row row5
        go_wp2_with fail
        go_ret
        exact ⟨by rw [HF.out, hC5]; rfl, bel5⟩
end Go.Proofs.YtedibkcempcpnaaDoor
