/-
  A text in plain bytes and percents: the contracts of isPlain and Escape; what is escaped is read back.
-/
import Derived.Test.YtbpfggpljfpfcaaDoorCls
import Derived.Test.YtbpfggpljfpfcaaDoorUnesc
namespace Go.Proofs.YtbpfggpljfpfcaaDoor
open Go.RowKit
def plainMarks : ByteArray := ⟨#[45, 46, 95, 126]⟩
def plainB (x : Nat) : Bool := isLet x || isDig x || mark plainMarks x
def digitsU : ByteArray := ⟨#[48, 49, 50, 51, 52, 53, 54, 55, 56, 57, 65, 66, 67, 68, 69, 70]⟩
def hexU (n : Nat) : UInt8 := digitsU.data.toList.getD n 0
/-- A byte, escaped. -/
def escB (x : Nat) : List UInt8 := if plainB x = true then [UInt8.ofNat x] else [37, hexU (x / 16), hexU (x % 16)]
def escOf : List UInt8 → List UInt8
  | [] => []
  | c :: l => escB c.toNat ++ escOf l
theorem escOf_append (a b : List UInt8) : escOf (a ++ b) = escOf a ++ escOf b := by
  induction a with
  | nil => rfl
  | cons c l ih => simp [escOf, ih]
theorem escB_len (x : Nat) : (escB x).length ≤ 3 := by unfold escB; split <;> simp
theorem escOf_len (a : List UInt8) : (escOf a).length ≤ 3 * a.length := by
  induction a with
  | nil => simp [escOf]
  | cons c l ih => have := escB_len c.toNat; simp [escOf]; omega
theorem esc_snoc (s : ByteArray) (k x : Nat) (h : k < s.size) (hx : byteAt s k = x) : escOf (s.data.toList.take (k + 1)) = escOf (s.data.toList.take k) ++ escB x := by
  have hl := byteAt_lt s k
  rw [take_byte s k h, escOf_append, hx]
  show _ ++ (escB (UInt8.ofNat x).toNat ++ []) = _
  rw [ofNat_toNat (by omega), List.append_nil]
theorem hexV_hexU : ∀ q : Fin 16, hexV (hexU q.val).toNat = (q.val : Int) := by decide +kernel
theorem plain37 : plainB 37 = false := by decide +kernel
theorem unesc_esc : ∀ l, unesc (escOf l) = some l
  | [] => rfl
  | c :: l => by
    have hc := c.toNat_lt
    rw [escOf, escB]
    by_cases hp : plainB c.toNat = true
    · rw [if_pos hp, List.singleton_append, unesc_plain (by rw [ofNat_toNat hc]; intro e; rw [e, plain37] at hp; cases hp), unesc_esc l]
      simp
    · rw [if_neg hp]
      show unesc (37 :: hexU (c.toNat / 16) :: hexU (c.toNat % 16) :: escOf l) = _
      have h1 := hexV_hexU ⟨c.toNat / 16, by omega⟩
      have h2 := hexV_hexU ⟨c.toNat % 16, Nat.mod_lt _ (by decide)⟩
      simp only at h1 h2
      rw [unesc_two (by decide), h1, h2, if_neg (by omega), unesc_esc l]
      simp only [Option.map_some, Int.toNat_natCast, Nat.div_add_mod]
      rw [show UInt8.ofNat c.toNat = c by simp]
theorem hexU_at {q : Nat} (h : q < 16) : ∀ (p : q < (⟨#[48, 49, 50, 51, 52, 53, 54, 55, 56, 57, 65, 66, 67, 68, 69, 70]⟩ : ByteArray).size), (⟨#[48, 49, 50, 51, 52, 53, 54, 55, 56, 57, 65, 66, 67, 68, 69, 70]⟩ : ByteArray)[q]'p = hexU q := by
  intro p
  have : q = 0 ∨ q = 1 ∨ q = 2 ∨ q = 3 ∨ q = 4 ∨ q = 5 ∨ q = 6 ∨ q = 7 ∨ q = 8 ∨ q = 9 ∨ q = 10 ∨ q = 11 ∨ q = 12 ∨ q = 13 ∨ q = 14 ∨ q = 15 := by omega
  rcases this with rfl | rfl | rfl | rfl | rfl | rfl | rfl | rfl | rfl | rfl | rfl | rfl | rfl | rfl | rfl | rfl <;> rfl
theorem run_hexU {q : Nat} (h : q < 16) (W : World) : (Instr.index 9 (.string ⟨#[48, 49, 50, 51, 52, 53, 54, 55, 56, 57, 65, 66, 67, 68, 69, 70]⟩) (.int .u8 (q : Int))).run Tryd.prog W = .ok (.int .u8 ((hexU q).toNat : Int)) W := by
  rw [run_index_string W 9 _ .u8 (q : Int) Tryd.underlying9, dif_pos ⟨by omega, by show (q : Int) < 16; omega⟩]
  congr 3
  exact congrArg UInt8.toNat (hexU_at h (by show q < 16; exact h))
set_option maxRecDepth 20000 in
set_option maxHeartbeats 1000000 in
theorem isPlain_any (x : Nat) (w : World) : Calls Tryd.prog 79 #[.int .u8 (x : Int)] w fun e w' => e = .returned (.bool (plainB x)) ∧ w' = w := by
  have H1 : Hid (∀ W : World, _) := fun W => isLetter_any x W
  have H2 : Hid (∀ W : World, _) := fun W => isDigit_any x W
  have H3 : Hid (∀ W : World, _) := fun W => index_any plainMarks x W
  have hm : mark plainMarks x = decide (0 ≤ Lib.indexByte plainMarks.data.toList (UInt8.ofNat x)) := rfl
  obtain ⟨m, hmm⟩ : ∃ m, Lib.indexByte plainMarks.data.toList (UInt8.ofNat x) = m := ⟨_, rfl⟩
  rw [hmm] at H3 hm
  rw [show plainMarks = (⟨#[45, 46, 95, 126]⟩ : ByteArray) from rfl] at H3
  rw [plainB, hm]
  clear hm hmm
  cases h1 : isLet x <;> cases h2 : isDig x <;> by_cases h3 : 0 ≤ m
  all_goals
    rw [h1] at H1
    rw [h2] at H2
    simp only [h3]
    clear h1 h2
    go_enter Tryd.func79, Tryd.ntmps79
    go_wp2_with (first
      | (go_at_call 95; refine (H1.out _).mono ?_; rintro e w' ⟨rfl, rfl⟩)
      | (go_at_call 73; refine (H2.out _).mono ?_; rintro e w' ⟨rfl, rfl⟩)
      | (go_at_call 96; refine (H3.out _).mono ?_; rintro e w' ⟨rfl, rfl⟩))
    go_ret
    first | exact ⟨rfl, rfl⟩ | exact ⟨by simp [h3], rfl⟩
set_option maxRecDepth 20000 in
set_option maxHeartbeats 4000000 in
theorem escape_any (s : ByteArray) (w : World) (hs : s.size ≤ 46912496118000) : Calls Tryd.prog 56 #[.string s] w fun e w' => e = .returned (.string ⟨(escOf s.data.toList).toArray⟩) ∧ Below w.heap.size w w' := by
  obtain ⟨i0, hi, hz0, hz1, hz2⟩ := info_parts info5
  go_enter Tryd.func56, Tryd.ntmps56
  go_wp2_with (refine wpList_make_own _ rfl _ _ 72 rfl w.heap.size 5 i0 (.int .u8 0) 1 Tryd.underlying72 hi hz0 hz1 .i64 .i64 _ s.size rfl rfl rfl (by rw [hz2]; omega) (by unfold maxLen; omega) (Nat.le_refl _) ?_; intro w1 hown1 hg1)
  have hb1 : Below w.heap.size w w1 := (Below.refl _ w).grown hg1 (Nat.le_refl _) (fun i hi => by cases hi)
  go_loopw [3, 11] (fun v i wr => ∃ k : Nat, ∃ cur : List UInt8, k ≤ s.size ∧ i = .int .i64 k ∧ Hid (cur = escOf (s.data.toList.take k)) ∧ wr.ownsRow w.heap.size 5 1 v cur.length (cellsOf cur) ∧ Below w.heap.size w wr) (fun _ i _ => s.size - (intOf i).toNat)
  case atStart => exact ⟨0, [], by omega, rfl, rfl, hown1, hb1⟩
  case round =>
    clear hown1 hg1 hb1
    obtain ⟨k, cur, hk, rfl, HC, hown, hb⟩ := hrel
    have hsz := hb.size
    obtain ⟨a, cap, rfl⟩ := form_of_row hown
    by_cases hlt : k < s.size
    · have HL' : Hid (cur.length ≤ 3 * k) := by
        have h1 := escOf_len (s.data.toList.take k)
        rw [← HC.out, List.length_take] at h1
        rw [Hid]
        omega
      have r0 := fun W => run_byte s (i := k) (z := (k : Int)) rfl hlt W
      have hxl := byteAt_lt s k
      obtain ⟨x, hx⟩ : ∃ x, byteAt s k = x := ⟨_, rfl⟩
      have HX := esc_snoc s k x hlt hx
      rw [← HC.out, escB] at HX
      rw [hx] at r0 hxl
      have HP : Hid (∀ W : World, _) := fun W => isPlain_any x W
      by_cases hp : plainB x = true
      · rw [if_pos hp] at HX
        rw [hp] at HP
        obtain ⟨c, hc⟩ : ∃ c, UInt8.ofNat x = c := ⟨_, rfl⟩
        have HCv : Hid (cellsOf [c] = [Value.int .u8 (x : Int)]) := by
          rw [Hid, ← hc]
          show [Value.int .u8 ((UInt8.ofNat x).toNat : Int)] = _
          rw [ofNat_toNat hxl]
        rw [hc] at HX
        have HX2 : Hid (cur ++ [c] = escOf (s.data.toList.take (k + 1))) := HX.symm
        clear hc hx HX hp HC
        go_wp2_with (first
          | (go_at_call 79; refine (HP.out _).mono ?_; rintro e w' ⟨rfl, rfl⟩)
          | (at_builtin; refine wpList_append_own _ rfl (.tmp 19) (.tmp 21) 72 rfl w.heap.size 5 i0 (.int .u8 0) 1 1 Tryd.underlying72 hi hz0 hz1 hz2 rfl (by decide) _ _ _ rfl (hown.alloc _) ⟨_, 0, none⟩ 1 1 [Value.int .u8 (x : Int)] rfl rfl (new_cells _ [Value.int .u8 (x : Int)] _) (by rw [← HCv.out]; exact cellsOf_one _) (by have := HL'.out; unfold maxLen; omega) (by have := HL'.out; omega) (by simp; omega) ?_))
        intro v1 w5 hown1 hgrow _
        obtain ⟨a1, cap1, rfl⟩ := form_of_row hown1
        have HR5 : Hid (w5.ownsRow w.heap.size 5 1 (.slice a1 (cur.length + 1) cap1) (cur ++ [c]).length (cellsOf (cur ++ [c]))) := by
          rw [Hid, cellsOf_append, snoc_len rfl, HCv.out]; exact hown1
        have HB : Hid (Below w.heap.size w w5) := (hb.alloc hsz _).grown hgrow (by simp; omega) (fun i hi => (hown.lt i hi).1)
        clear hown1 hgrow hown
        go_wp2_with fail
        go_roundw
        case rel => exact ⟨k + 1, cur ++ [c], by omega, by go_num, HX2.out, by first | exact HR5.out | (rw [snoc_len rfl]; have := HR5.out; rw [snoc_len rfl] at this; exact this), HB.out⟩
        case measure => simp [intOf]; omega
      · have hp' : plainB x = false := by simpa using hp
        rw [if_neg hp] at HX
        rw [hp'] at HP
        obtain ⟨q1, hq1⟩ : ∃ q1, x / 16 = q1 := ⟨_, rfl⟩
        obtain ⟨q2, hq2⟩ : ∃ q2, x % 16 = q2 := ⟨_, rfl⟩
        have e1 : (x : Int) / 16 = (q1 : Int) := by omega
        have e2 : bits BinOp.and IntKind.u8 (x : Int) 15 = (q2 : Int) := by
          have := u8_and_nat x 15 hxl (by decide)
          rw [Nat.and_two_pow_sub_one_eq_mod x 4] at this
          rw [← hq2]
          exact this
        have l1 : q1 < 16 := by omega
        have l2 : q2 < 16 := by omega
        rw [hq1, hq2] at HX
        have HX2 : Hid (cur ++ [37, hexU q1, hexU q2] = escOf (s.data.toList.take (k + 1))) := HX.symm
        have HCv : Hid (cellsOf [37, hexU q1, hexU q2] = [Value.int .u8 37, Value.int .u8 ((hexU q1).toNat : Int), Value.int .u8 ((hexU q2).toNat : Int)]) := rfl
        have r1 := fun W => run_hexU l1 W
        have r2 := fun W => run_hexU l2 W
        clear hq1 hq2 hx HX hp hp' HC
        go_wp2_with (go_at_call 79; refine (HP.out _).mono ?_; rintro e w' ⟨rfl, rfl⟩)
        go_region_law (refine step_append_own rfl (.tmp 23) (.tmp 30) 72 rfl w.heap.size 5 i0 (.int .u8 0) 1 1 Tryd.underlying72 hi hz0 hz1 hz2 rfl (by decide) _ _ _ rfl (hown.alloc _) ⟨_, 0, none⟩ 3 3 [Value.int .u8 37, Value.int .u8 ((hexU q1).toNat : Int), Value.int .u8 ((hexU q2).toNat : Int)] rfl rfl (new_cells _ [Value.int .u8 37, Value.int .u8 ((hexU q1).toNat : Int), Value.int .u8 ((hexU q2).toNat : Int)] _) (by rw [← HCv.out]; exact cellsOf_one _) (by have := HL'.out; unfold maxLen; omega) (by have := HL'.out; omega) (by simp; omega) ?_; intro v1 w5 hown1 hgrow)
        all_goals
          obtain ⟨a1, cap1, rfl⟩ := form_of_row hown1
          have HR : Hid (w5.ownsRow w.heap.size 5 1 (.slice a1 (cur.length + 3) cap1) (cur ++ [37, hexU q1, hexU q2]).length (cellsOf (cur ++ [37, hexU q1, hexU q2]))) := by
            rw [Hid, cellsOf_append, List.length_append, HCv.out]; exact hown1
          have HB : Hid (Below w.heap.size w w5) := (hb.alloc hsz _).grown (grownBy_undrew hgrow) (by simp; omega) (fun i hi => (hown.lt i hi).1)
          clear hown1 hgrow hown r1 r2
          go_wp2_with fail
          go_roundw
          case rel => exact ⟨k + 1, cur ++ [37, hexU q1, hexU q2], by omega, by go_num, HX2.out, by first | exact HR.out | (rw [List.length_append]; have := HR.out; rw [List.length_append] at this; exact this), HB.out⟩
          case measure => simp [intOf]; omega
    · obtain rfl : k = s.size := by omega
      have hcv := conv_row hown
      have HC' : Hid (cur = escOf s.data.toList) := by show _ = _; rw [HC.out, List.take_of_length_le (by simp)]
      go_wp2_with fail
      go_ret
      exact ⟨by rw [← HC'.out]; rfl, hb⟩
end Go.Proofs.YtbpfggpljfpfcaaDoor
