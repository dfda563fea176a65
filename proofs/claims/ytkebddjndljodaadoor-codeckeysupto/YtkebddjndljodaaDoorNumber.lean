/-
  The contract of the twin's Number: a number in so many bytes, the highest first.
-/
import Derived.Test.YtkebddjndljodaaDoorBackMath
namespace Go.Proofs.YtkebddjndljodaaDoor
open Go.RowKit
theorem u8mod_div (x d : Nat) : (x : Int) / (d : Int) % 256 = ((bt (x / d)).toNat : Int) := by
  rw [← u8wrap_div, IntKind.wrap_u8]
theorem u8mod (x : Nat) : (x : Int) % 256 = ((bt x).toNat : Int) := by
  rw [← u8wrap, IntKind.wrap_u8]
theorem u8mod_top (x : Nat) (h : x < 18446744073709551616) : (x : Int) / 72057594037927936 = ((bt (x / 72057594037927936)).toNat : Int) := by
  rw [← u8mod_div]; omega
theorem snoc_len {l : List UInt8} {c : UInt8} {n : Nat} (h : l.length = n) : (l ++ [c]).length = n + 1 := by simp [h]
set_option maxRecDepth 100000 in
set_option maxHeartbeats 8000000 in
theorem number1 (n : Nat) (w : World) (_hn : n < 18446744073709551616) :
    Calls Tryd.prog 24 #[.int .u64 n, .int .i64 1] w fun r w' => r = .returned (.string ⟨(be1 n).toArray⟩) ∧ Below w.heap.size w w' := by
  obtain ⟨i0, hi, hz0, hz1, hz2⟩ := info_parts Tryd.info5
  go_enter Tryd.func24, Tryd.ntmps24
  go_wp2
  go_loopw [5, 6] (fun v i wr => ∃ k : Nat, ∃ cur, k ≤ 1 ∧ i = .int .i64 (0 - (k : Int)) ∧ Hid (cur = (be1 n).take k) ∧ Hid (cur.length = k) ∧ wr.ownsRow w.heap.size 5 1 v cur.length (cellsOf cur) ∧ Below w.heap.size w wr) (fun _ i _ => (intOf i + 1).toNat)
  case atStart => exact ⟨0, [], by omega, rfl, rfl, rfl, World.ownsRow_nil _ _ _ _, Below.refl _ _⟩
  case round =>
    obtain ⟨k, cur, hk, rfl, HC, HL, hown, hb⟩ := hrel
    have hsz := hb.size
    obtain ⟨a, cap, rfl⟩ := form_of_row hown
    rcases (show k = 0 ∨ k = 1 by omega) with rfl | rfl
    · have jw : (n : Int) % 256 = ((bt n).toNat : Int) := u8mod n
      go_wp2_with (at_builtin; refine wpList_append_own _ rfl (.tmp 13) (.tmp 19) 49 rfl w.heap.size 5 i0 (.int .u8 0) 1 1 Tryd.underlying49 hi hz0 hz1 hz2 rfl (by decide) _ _ _ rfl (hown.alloc _) ⟨wr.heap.size, 0, none⟩ 1 1 [.int .u8 ((bt n).toNat : Int)] rfl rfl (one_cell _ _ _) (one_one _) (one_bound (by have := HL.out; omega)) (by have := HL.out; omega) (by simp; omega) ?_)
      intro v1 w1 hown1 hgrow _
      obtain ⟨a1, cap1, rfl⟩ := form_of_row hown1
      have HR : Hid (w1.ownsRow w.heap.size 5 1 (.slice a1 (cur.length + 1) cap1) (cur ++ [bt n]).length (cellsOf (cur ++ [bt n]))) := by
        rw [Hid, cellsOf_append, snoc_len rfl]; exact hown1
      have HB : Hid (Below w.heap.size w w1) := (hb.alloc hsz _).grown hgrow (by simp; omega) (fun i hi => (hown.lt i hi).1)
      clear hown1 hgrow hown
      go_wp2
      go_roundw
      case rel => exact ⟨1, cur ++ [bt n], by omega, by first | rfl | go_num, by rw [Hid, HC.out]; simp [be1], by rw [Hid, snoc_len HL.out], by first | exact HR.out | (rw [snoc_len rfl] ; have := HR.out; rw [snoc_len rfl] at this; exact this), HB.out⟩
      case measure => simp [intOf]
    · have HE : Hid (cur = be1 n) := by have e := HC.out; rw [List.take_of_length_le (by simp [be1])] at e; exact e
      have hc := conv_row hown
      go_wp2
      go_ret
      exact ⟨by rw [← HE.out]; rfl, hb⟩
set_option maxRecDepth 100000 in
set_option maxHeartbeats 8000000 in
theorem number2 (n : Nat) (w : World) (_hn : n < 18446744073709551616) :
    Calls Tryd.prog 24 #[.int .u64 n, .int .i64 2] w fun r w' => r = .returned (.string ⟨(be2 n).toArray⟩) ∧ Below w.heap.size w w' := by
  obtain ⟨i0, hi, hz0, hz1, hz2⟩ := info_parts Tryd.info5
  go_enter Tryd.func24, Tryd.ntmps24
  go_wp2
  go_loopw [5, 6] (fun v i wr => ∃ k : Nat, ∃ cur, k ≤ 2 ∧ i = .int .i64 (1 - (k : Int)) ∧ Hid (cur = (be2 n).take k) ∧ Hid (cur.length = k) ∧ wr.ownsRow w.heap.size 5 1 v cur.length (cellsOf cur) ∧ Below w.heap.size w wr) (fun _ i _ => (intOf i + 1).toNat)
  case atStart => exact ⟨0, [], by omega, rfl, rfl, rfl, World.ownsRow_nil _ _ _ _, Below.refl _ _⟩
  case round =>
    obtain ⟨k, cur, hk, rfl, HC, HL, hown, hb⟩ := hrel
    have hsz := hb.size
    obtain ⟨a, cap, rfl⟩ := form_of_row hown
    rcases (show k = 0 ∨ k = 1 ∨ k = 2 by omega) with rfl | rfl | rfl
    · have jw : (n : Int) / 256 % 256 = ((bt (n / 256)).toNat : Int) := u8mod_div n 256
      go_wp2_with (at_builtin; refine wpList_append_own _ rfl (.tmp 13) (.tmp 19) 49 rfl w.heap.size 5 i0 (.int .u8 0) 1 1 Tryd.underlying49 hi hz0 hz1 hz2 rfl (by decide) _ _ _ rfl (hown.alloc _) ⟨wr.heap.size, 0, none⟩ 1 1 [.int .u8 ((bt (n / 256)).toNat : Int)] rfl rfl (one_cell _ _ _) (one_one _) (one_bound (by have := HL.out; omega)) (by have := HL.out; omega) (by simp; omega) ?_)
      intro v1 w1 hown1 hgrow _
      obtain ⟨a1, cap1, rfl⟩ := form_of_row hown1
      have HR : Hid (w1.ownsRow w.heap.size 5 1 (.slice a1 (cur.length + 1) cap1) (cur ++ [bt (n / 256)]).length (cellsOf (cur ++ [bt (n / 256)]))) := by
        rw [Hid, cellsOf_append, snoc_len rfl]; exact hown1
      have HB : Hid (Below w.heap.size w w1) := (hb.alloc hsz _).grown hgrow (by simp; omega) (fun i hi => (hown.lt i hi).1)
      clear hown1 hgrow hown
      go_wp2
      go_roundw
      case rel => exact ⟨1, cur ++ [bt (n / 256)], by omega, by first | rfl | go_num, by rw [Hid, HC.out]; simp [be2], by rw [Hid, snoc_len HL.out], by first | exact HR.out | (rw [snoc_len rfl] ; have := HR.out; rw [snoc_len rfl] at this; exact this), HB.out⟩
      case measure => simp [intOf]
    · have jw : (n : Int) % 256 = ((bt n).toNat : Int) := u8mod n
      go_wp2_with (at_builtin; refine wpList_append_own _ rfl (.tmp 13) (.tmp 19) 49 rfl w.heap.size 5 i0 (.int .u8 0) 1 1 Tryd.underlying49 hi hz0 hz1 hz2 rfl (by decide) _ _ _ rfl (hown.alloc _) ⟨wr.heap.size, 0, none⟩ 1 1 [.int .u8 ((bt n).toNat : Int)] rfl rfl (one_cell _ _ _) (one_one _) (one_bound (by have := HL.out; omega)) (by have := HL.out; omega) (by simp; omega) ?_)
      intro v1 w1 hown1 hgrow _
      obtain ⟨a1, cap1, rfl⟩ := form_of_row hown1
      have HR : Hid (w1.ownsRow w.heap.size 5 1 (.slice a1 (cur.length + 1) cap1) (cur ++ [bt n]).length (cellsOf (cur ++ [bt n]))) := by
        rw [Hid, cellsOf_append, snoc_len rfl]; exact hown1
      have HB : Hid (Below w.heap.size w w1) := (hb.alloc hsz _).grown hgrow (by simp; omega) (fun i hi => (hown.lt i hi).1)
      clear hown1 hgrow hown
      go_wp2
      go_roundw
      case rel => exact ⟨2, cur ++ [bt n], by omega, by first | rfl | go_num, by rw [Hid, HC.out]; simp [be2], by rw [Hid, snoc_len HL.out], by first | exact HR.out | (rw [snoc_len rfl] ; have := HR.out; rw [snoc_len rfl] at this; exact this), HB.out⟩
      case measure => simp [intOf]
    · have HE : Hid (cur = be2 n) := by have e := HC.out; rw [List.take_of_length_le (by simp [be2])] at e; exact e
      have hc := conv_row hown
      go_wp2
      go_ret
      exact ⟨by rw [← HE.out]; rfl, hb⟩
set_option maxRecDepth 100000 in
set_option maxHeartbeats 8000000 in
theorem number4 (n : Nat) (w : World) (_hn : n < 18446744073709551616) :
    Calls Tryd.prog 24 #[.int .u64 n, .int .i64 4] w fun r w' => r = .returned (.string ⟨(be4 n).toArray⟩) ∧ Below w.heap.size w w' := by
  obtain ⟨i0, hi, hz0, hz1, hz2⟩ := info_parts Tryd.info5
  go_enter Tryd.func24, Tryd.ntmps24
  go_wp2
  go_loopw [5, 6] (fun v i wr => ∃ k : Nat, ∃ cur, k ≤ 4 ∧ i = .int .i64 (3 - (k : Int)) ∧ Hid (cur = (be4 n).take k) ∧ Hid (cur.length = k) ∧ wr.ownsRow w.heap.size 5 1 v cur.length (cellsOf cur) ∧ Below w.heap.size w wr) (fun _ i _ => (intOf i + 1).toNat)
  case atStart => exact ⟨0, [], by omega, rfl, rfl, rfl, World.ownsRow_nil _ _ _ _, Below.refl _ _⟩
  case round =>
    obtain ⟨k, cur, hk, rfl, HC, HL, hown, hb⟩ := hrel
    have hsz := hb.size
    obtain ⟨a, cap, rfl⟩ := form_of_row hown
    rcases (show k = 0 ∨ k = 1 ∨ k = 2 ∨ k = 3 ∨ k = 4 by omega) with rfl | rfl | rfl | rfl | rfl
    · have jw : (n : Int) / 16777216 % 256 = ((bt (n / 16777216)).toNat : Int) := u8mod_div n 16777216
      go_wp2_with (at_builtin; refine wpList_append_own _ rfl (.tmp 13) (.tmp 19) 49 rfl w.heap.size 5 i0 (.int .u8 0) 1 1 Tryd.underlying49 hi hz0 hz1 hz2 rfl (by decide) _ _ _ rfl (hown.alloc _) ⟨wr.heap.size, 0, none⟩ 1 1 [.int .u8 ((bt (n / 16777216)).toNat : Int)] rfl rfl (one_cell _ _ _) (one_one _) (one_bound (by have := HL.out; omega)) (by have := HL.out; omega) (by simp; omega) ?_)
      intro v1 w1 hown1 hgrow _
      obtain ⟨a1, cap1, rfl⟩ := form_of_row hown1
      have HR : Hid (w1.ownsRow w.heap.size 5 1 (.slice a1 (cur.length + 1) cap1) (cur ++ [bt (n / 16777216)]).length (cellsOf (cur ++ [bt (n / 16777216)]))) := by
        rw [Hid, cellsOf_append, snoc_len rfl]; exact hown1
      have HB : Hid (Below w.heap.size w w1) := (hb.alloc hsz _).grown hgrow (by simp; omega) (fun i hi => (hown.lt i hi).1)
      clear hown1 hgrow hown
      go_wp2
      go_roundw
      case rel => exact ⟨1, cur ++ [bt (n / 16777216)], by omega, by first | rfl | go_num, by rw [Hid, HC.out]; simp [be4], by rw [Hid, snoc_len HL.out], by first | exact HR.out | (rw [snoc_len rfl] ; have := HR.out; rw [snoc_len rfl] at this; exact this), HB.out⟩
      case measure => simp [intOf]
    · have jw : (n : Int) / 65536 % 256 = ((bt (n / 65536)).toNat : Int) := u8mod_div n 65536
      go_wp2_with (at_builtin; refine wpList_append_own _ rfl (.tmp 13) (.tmp 19) 49 rfl w.heap.size 5 i0 (.int .u8 0) 1 1 Tryd.underlying49 hi hz0 hz1 hz2 rfl (by decide) _ _ _ rfl (hown.alloc _) ⟨wr.heap.size, 0, none⟩ 1 1 [.int .u8 ((bt (n / 65536)).toNat : Int)] rfl rfl (one_cell _ _ _) (one_one _) (one_bound (by have := HL.out; omega)) (by have := HL.out; omega) (by simp; omega) ?_)
      intro v1 w1 hown1 hgrow _
      obtain ⟨a1, cap1, rfl⟩ := form_of_row hown1
      have HR : Hid (w1.ownsRow w.heap.size 5 1 (.slice a1 (cur.length + 1) cap1) (cur ++ [bt (n / 65536)]).length (cellsOf (cur ++ [bt (n / 65536)]))) := by
        rw [Hid, cellsOf_append, snoc_len rfl]; exact hown1
      have HB : Hid (Below w.heap.size w w1) := (hb.alloc hsz _).grown hgrow (by simp; omega) (fun i hi => (hown.lt i hi).1)
      clear hown1 hgrow hown
      go_wp2
      go_roundw
      case rel => exact ⟨2, cur ++ [bt (n / 65536)], by omega, by first | rfl | go_num, by rw [Hid, HC.out]; simp [be4], by rw [Hid, snoc_len HL.out], by first | exact HR.out | (rw [snoc_len rfl] ; have := HR.out; rw [snoc_len rfl] at this; exact this), HB.out⟩
      case measure => simp [intOf]
    · have jw : (n : Int) / 256 % 256 = ((bt (n / 256)).toNat : Int) := u8mod_div n 256
      go_wp2_with (at_builtin; refine wpList_append_own _ rfl (.tmp 13) (.tmp 19) 49 rfl w.heap.size 5 i0 (.int .u8 0) 1 1 Tryd.underlying49 hi hz0 hz1 hz2 rfl (by decide) _ _ _ rfl (hown.alloc _) ⟨wr.heap.size, 0, none⟩ 1 1 [.int .u8 ((bt (n / 256)).toNat : Int)] rfl rfl (one_cell _ _ _) (one_one _) (one_bound (by have := HL.out; omega)) (by have := HL.out; omega) (by simp; omega) ?_)
      intro v1 w1 hown1 hgrow _
      obtain ⟨a1, cap1, rfl⟩ := form_of_row hown1
      have HR : Hid (w1.ownsRow w.heap.size 5 1 (.slice a1 (cur.length + 1) cap1) (cur ++ [bt (n / 256)]).length (cellsOf (cur ++ [bt (n / 256)]))) := by
        rw [Hid, cellsOf_append, snoc_len rfl]; exact hown1
      have HB : Hid (Below w.heap.size w w1) := (hb.alloc hsz _).grown hgrow (by simp; omega) (fun i hi => (hown.lt i hi).1)
      clear hown1 hgrow hown
      go_wp2
      go_roundw
      case rel => exact ⟨3, cur ++ [bt (n / 256)], by omega, by first | rfl | go_num, by rw [Hid, HC.out]; simp [be4], by rw [Hid, snoc_len HL.out], by first | exact HR.out | (rw [snoc_len rfl] ; have := HR.out; rw [snoc_len rfl] at this; exact this), HB.out⟩
      case measure => simp [intOf]
    · have jw : (n : Int) % 256 = ((bt n).toNat : Int) := u8mod n
      go_wp2_with (at_builtin; refine wpList_append_own _ rfl (.tmp 13) (.tmp 19) 49 rfl w.heap.size 5 i0 (.int .u8 0) 1 1 Tryd.underlying49 hi hz0 hz1 hz2 rfl (by decide) _ _ _ rfl (hown.alloc _) ⟨wr.heap.size, 0, none⟩ 1 1 [.int .u8 ((bt n).toNat : Int)] rfl rfl (one_cell _ _ _) (one_one _) (one_bound (by have := HL.out; omega)) (by have := HL.out; omega) (by simp; omega) ?_)
      intro v1 w1 hown1 hgrow _
      obtain ⟨a1, cap1, rfl⟩ := form_of_row hown1
      have HR : Hid (w1.ownsRow w.heap.size 5 1 (.slice a1 (cur.length + 1) cap1) (cur ++ [bt n]).length (cellsOf (cur ++ [bt n]))) := by
        rw [Hid, cellsOf_append, snoc_len rfl]; exact hown1
      have HB : Hid (Below w.heap.size w w1) := (hb.alloc hsz _).grown hgrow (by simp; omega) (fun i hi => (hown.lt i hi).1)
      clear hown1 hgrow hown
      go_wp2
      go_roundw
      case rel => exact ⟨4, cur ++ [bt n], by omega, by first | rfl | go_num, by rw [Hid, HC.out]; simp [be4], by rw [Hid, snoc_len HL.out], by first | exact HR.out | (rw [snoc_len rfl] ; have := HR.out; rw [snoc_len rfl] at this; exact this), HB.out⟩
      case measure => simp [intOf]
    · have HE : Hid (cur = be4 n) := by have e := HC.out; rw [List.take_of_length_le (by simp [be4])] at e; exact e
      have hc := conv_row hown
      go_wp2
      go_ret
      exact ⟨by rw [← HE.out]; rfl, hb⟩
set_option maxRecDepth 100000 in
set_option maxHeartbeats 8000000 in
theorem number8 (n : Nat) (w : World) (_hn : n < 18446744073709551616) :
    Calls Tryd.prog 24 #[.int .u64 n, .int .i64 8] w fun r w' => r = .returned (.string ⟨(be8 n).toArray⟩) ∧ Below w.heap.size w w' := by
  obtain ⟨i0, hi, hz0, hz1, hz2⟩ := info_parts Tryd.info5
  go_enter Tryd.func24, Tryd.ntmps24
  go_wp2
  go_loopw [5, 6] (fun v i wr => ∃ k : Nat, ∃ cur, k ≤ 8 ∧ i = .int .i64 (7 - (k : Int)) ∧ Hid (cur = (be8 n).take k) ∧ Hid (cur.length = k) ∧ wr.ownsRow w.heap.size 5 1 v cur.length (cellsOf cur) ∧ Below w.heap.size w wr) (fun _ i _ => (intOf i + 1).toNat)
  case atStart => exact ⟨0, [], by omega, rfl, rfl, rfl, World.ownsRow_nil _ _ _ _, Below.refl _ _⟩
  case round =>
    obtain ⟨k, cur, hk, rfl, HC, HL, hown, hb⟩ := hrel
    have hsz := hb.size
    obtain ⟨a, cap, rfl⟩ := form_of_row hown
    rcases (show k = 0 ∨ k = 1 ∨ k = 2 ∨ k = 3 ∨ k = 4 ∨ k = 5 ∨ k = 6 ∨ k = 7 ∨ k = 8 by omega) with rfl | rfl | rfl | rfl | rfl | rfl | rfl | rfl | rfl
    · have jw : (n : Int) / 72057594037927936 = ((bt (n / 72057594037927936)).toNat : Int) := (u8mod_top n _hn)
      go_wp2_with (at_builtin; refine wpList_append_own _ rfl (.tmp 13) (.tmp 19) 49 rfl w.heap.size 5 i0 (.int .u8 0) 1 1 Tryd.underlying49 hi hz0 hz1 hz2 rfl (by decide) _ _ _ rfl (hown.alloc _) ⟨wr.heap.size, 0, none⟩ 1 1 [.int .u8 ((bt (n / 72057594037927936)).toNat : Int)] rfl rfl (one_cell _ _ _) (one_one _) (one_bound (by have := HL.out; omega)) (by have := HL.out; omega) (by simp; omega) ?_)
      intro v1 w1 hown1 hgrow _
      obtain ⟨a1, cap1, rfl⟩ := form_of_row hown1
      have HR : Hid (w1.ownsRow w.heap.size 5 1 (.slice a1 (cur.length + 1) cap1) (cur ++ [bt (n / 72057594037927936)]).length (cellsOf (cur ++ [bt (n / 72057594037927936)]))) := by
        rw [Hid, cellsOf_append, snoc_len rfl]; exact hown1
      have HB : Hid (Below w.heap.size w w1) := (hb.alloc hsz _).grown hgrow (by simp; omega) (fun i hi => (hown.lt i hi).1)
      clear hown1 hgrow hown
      go_wp2
      go_roundw
      case rel => exact ⟨1, cur ++ [bt (n / 72057594037927936)], by omega, by first | rfl | go_num, by rw [Hid, HC.out]; simp [be8], by rw [Hid, snoc_len HL.out], by first | exact HR.out | (rw [snoc_len rfl] ; have := HR.out; rw [snoc_len rfl] at this; exact this), HB.out⟩
      case measure => simp [intOf]
    · have jw : (n : Int) / 281474976710656 % 256 = ((bt (n / 281474976710656)).toNat : Int) := u8mod_div n 281474976710656
      go_wp2_with (at_builtin; refine wpList_append_own _ rfl (.tmp 13) (.tmp 19) 49 rfl w.heap.size 5 i0 (.int .u8 0) 1 1 Tryd.underlying49 hi hz0 hz1 hz2 rfl (by decide) _ _ _ rfl (hown.alloc _) ⟨wr.heap.size, 0, none⟩ 1 1 [.int .u8 ((bt (n / 281474976710656)).toNat : Int)] rfl rfl (one_cell _ _ _) (one_one _) (one_bound (by have := HL.out; omega)) (by have := HL.out; omega) (by simp; omega) ?_)
      intro v1 w1 hown1 hgrow _
      obtain ⟨a1, cap1, rfl⟩ := form_of_row hown1
      have HR : Hid (w1.ownsRow w.heap.size 5 1 (.slice a1 (cur.length + 1) cap1) (cur ++ [bt (n / 281474976710656)]).length (cellsOf (cur ++ [bt (n / 281474976710656)]))) := by
        rw [Hid, cellsOf_append, snoc_len rfl]; exact hown1
      have HB : Hid (Below w.heap.size w w1) := (hb.alloc hsz _).grown hgrow (by simp; omega) (fun i hi => (hown.lt i hi).1)
      clear hown1 hgrow hown
      go_wp2
      go_roundw
      case rel => exact ⟨2, cur ++ [bt (n / 281474976710656)], by omega, by first | rfl | go_num, by rw [Hid, HC.out]; simp [be8], by rw [Hid, snoc_len HL.out], by first | exact HR.out | (rw [snoc_len rfl] ; have := HR.out; rw [snoc_len rfl] at this; exact this), HB.out⟩
      case measure => simp [intOf]
    · have jw : (n : Int) / 1099511627776 % 256 = ((bt (n / 1099511627776)).toNat : Int) := u8mod_div n 1099511627776
      go_wp2_with (at_builtin; refine wpList_append_own _ rfl (.tmp 13) (.tmp 19) 49 rfl w.heap.size 5 i0 (.int .u8 0) 1 1 Tryd.underlying49 hi hz0 hz1 hz2 rfl (by decide) _ _ _ rfl (hown.alloc _) ⟨wr.heap.size, 0, none⟩ 1 1 [.int .u8 ((bt (n / 1099511627776)).toNat : Int)] rfl rfl (one_cell _ _ _) (one_one _) (one_bound (by have := HL.out; omega)) (by have := HL.out; omega) (by simp; omega) ?_)
      intro v1 w1 hown1 hgrow _
      obtain ⟨a1, cap1, rfl⟩ := form_of_row hown1
      have HR : Hid (w1.ownsRow w.heap.size 5 1 (.slice a1 (cur.length + 1) cap1) (cur ++ [bt (n / 1099511627776)]).length (cellsOf (cur ++ [bt (n / 1099511627776)]))) := by
        rw [Hid, cellsOf_append, snoc_len rfl]; exact hown1
      have HB : Hid (Below w.heap.size w w1) := (hb.alloc hsz _).grown hgrow (by simp; omega) (fun i hi => (hown.lt i hi).1)
      clear hown1 hgrow hown
      go_wp2
      go_roundw
      case rel => exact ⟨3, cur ++ [bt (n / 1099511627776)], by omega, by first | rfl | go_num, by rw [Hid, HC.out]; simp [be8], by rw [Hid, snoc_len HL.out], by first | exact HR.out | (rw [snoc_len rfl] ; have := HR.out; rw [snoc_len rfl] at this; exact this), HB.out⟩
      case measure => simp [intOf]
    · have jw : (n : Int) / 4294967296 % 256 = ((bt (n / 4294967296)).toNat : Int) := u8mod_div n 4294967296
      go_wp2_with (at_builtin; refine wpList_append_own _ rfl (.tmp 13) (.tmp 19) 49 rfl w.heap.size 5 i0 (.int .u8 0) 1 1 Tryd.underlying49 hi hz0 hz1 hz2 rfl (by decide) _ _ _ rfl (hown.alloc _) ⟨wr.heap.size, 0, none⟩ 1 1 [.int .u8 ((bt (n / 4294967296)).toNat : Int)] rfl rfl (one_cell _ _ _) (one_one _) (one_bound (by have := HL.out; omega)) (by have := HL.out; omega) (by simp; omega) ?_)
      intro v1 w1 hown1 hgrow _
      obtain ⟨a1, cap1, rfl⟩ := form_of_row hown1
      have HR : Hid (w1.ownsRow w.heap.size 5 1 (.slice a1 (cur.length + 1) cap1) (cur ++ [bt (n / 4294967296)]).length (cellsOf (cur ++ [bt (n / 4294967296)]))) := by
        rw [Hid, cellsOf_append, snoc_len rfl]; exact hown1
      have HB : Hid (Below w.heap.size w w1) := (hb.alloc hsz _).grown hgrow (by simp; omega) (fun i hi => (hown.lt i hi).1)
      clear hown1 hgrow hown
      go_wp2
      go_roundw
      case rel => exact ⟨4, cur ++ [bt (n / 4294967296)], by omega, by first | rfl | go_num, by rw [Hid, HC.out]; simp [be8], by rw [Hid, snoc_len HL.out], by first | exact HR.out | (rw [snoc_len rfl] ; have := HR.out; rw [snoc_len rfl] at this; exact this), HB.out⟩
      case measure => simp [intOf]
    · have jw : (n : Int) / 16777216 % 256 = ((bt (n / 16777216)).toNat : Int) := u8mod_div n 16777216
      go_wp2_with (at_builtin; refine wpList_append_own _ rfl (.tmp 13) (.tmp 19) 49 rfl w.heap.size 5 i0 (.int .u8 0) 1 1 Tryd.underlying49 hi hz0 hz1 hz2 rfl (by decide) _ _ _ rfl (hown.alloc _) ⟨wr.heap.size, 0, none⟩ 1 1 [.int .u8 ((bt (n / 16777216)).toNat : Int)] rfl rfl (one_cell _ _ _) (one_one _) (one_bound (by have := HL.out; omega)) (by have := HL.out; omega) (by simp; omega) ?_)
      intro v1 w1 hown1 hgrow _
      obtain ⟨a1, cap1, rfl⟩ := form_of_row hown1
      have HR : Hid (w1.ownsRow w.heap.size 5 1 (.slice a1 (cur.length + 1) cap1) (cur ++ [bt (n / 16777216)]).length (cellsOf (cur ++ [bt (n / 16777216)]))) := by
        rw [Hid, cellsOf_append, snoc_len rfl]; exact hown1
      have HB : Hid (Below w.heap.size w w1) := (hb.alloc hsz _).grown hgrow (by simp; omega) (fun i hi => (hown.lt i hi).1)
      clear hown1 hgrow hown
      go_wp2
      go_roundw
      case rel => exact ⟨5, cur ++ [bt (n / 16777216)], by omega, by first | rfl | go_num, by rw [Hid, HC.out]; simp [be8], by rw [Hid, snoc_len HL.out], by first | exact HR.out | (rw [snoc_len rfl] ; have := HR.out; rw [snoc_len rfl] at this; exact this), HB.out⟩
      case measure => simp [intOf]
    · have jw : (n : Int) / 65536 % 256 = ((bt (n / 65536)).toNat : Int) := u8mod_div n 65536
      go_wp2_with (at_builtin; refine wpList_append_own _ rfl (.tmp 13) (.tmp 19) 49 rfl w.heap.size 5 i0 (.int .u8 0) 1 1 Tryd.underlying49 hi hz0 hz1 hz2 rfl (by decide) _ _ _ rfl (hown.alloc _) ⟨wr.heap.size, 0, none⟩ 1 1 [.int .u8 ((bt (n / 65536)).toNat : Int)] rfl rfl (one_cell _ _ _) (one_one _) (one_bound (by have := HL.out; omega)) (by have := HL.out; omega) (by simp; omega) ?_)
      intro v1 w1 hown1 hgrow _
      obtain ⟨a1, cap1, rfl⟩ := form_of_row hown1
      have HR : Hid (w1.ownsRow w.heap.size 5 1 (.slice a1 (cur.length + 1) cap1) (cur ++ [bt (n / 65536)]).length (cellsOf (cur ++ [bt (n / 65536)]))) := by
        rw [Hid, cellsOf_append, snoc_len rfl]; exact hown1
      have HB : Hid (Below w.heap.size w w1) := (hb.alloc hsz _).grown hgrow (by simp; omega) (fun i hi => (hown.lt i hi).1)
      clear hown1 hgrow hown
      go_wp2
      go_roundw
      case rel => exact ⟨6, cur ++ [bt (n / 65536)], by omega, by first | rfl | go_num, by rw [Hid, HC.out]; simp [be8], by rw [Hid, snoc_len HL.out], by first | exact HR.out | (rw [snoc_len rfl] ; have := HR.out; rw [snoc_len rfl] at this; exact this), HB.out⟩
      case measure => simp [intOf]
    · have jw : (n : Int) / 256 % 256 = ((bt (n / 256)).toNat : Int) := u8mod_div n 256
      go_wp2_with (at_builtin; refine wpList_append_own _ rfl (.tmp 13) (.tmp 19) 49 rfl w.heap.size 5 i0 (.int .u8 0) 1 1 Tryd.underlying49 hi hz0 hz1 hz2 rfl (by decide) _ _ _ rfl (hown.alloc _) ⟨wr.heap.size, 0, none⟩ 1 1 [.int .u8 ((bt (n / 256)).toNat : Int)] rfl rfl (one_cell _ _ _) (one_one _) (one_bound (by have := HL.out; omega)) (by have := HL.out; omega) (by simp; omega) ?_)
      intro v1 w1 hown1 hgrow _
      obtain ⟨a1, cap1, rfl⟩ := form_of_row hown1
      have HR : Hid (w1.ownsRow w.heap.size 5 1 (.slice a1 (cur.length + 1) cap1) (cur ++ [bt (n / 256)]).length (cellsOf (cur ++ [bt (n / 256)]))) := by
        rw [Hid, cellsOf_append, snoc_len rfl]; exact hown1
      have HB : Hid (Below w.heap.size w w1) := (hb.alloc hsz _).grown hgrow (by simp; omega) (fun i hi => (hown.lt i hi).1)
      clear hown1 hgrow hown
      go_wp2
      go_roundw
      case rel => exact ⟨7, cur ++ [bt (n / 256)], by omega, by first | rfl | go_num, by rw [Hid, HC.out]; simp [be8], by rw [Hid, snoc_len HL.out], by first | exact HR.out | (rw [snoc_len rfl] ; have := HR.out; rw [snoc_len rfl] at this; exact this), HB.out⟩
      case measure => simp [intOf]
    · have jw : (n : Int) % 256 = ((bt n).toNat : Int) := u8mod n
      go_wp2_with (at_builtin; refine wpList_append_own _ rfl (.tmp 13) (.tmp 19) 49 rfl w.heap.size 5 i0 (.int .u8 0) 1 1 Tryd.underlying49 hi hz0 hz1 hz2 rfl (by decide) _ _ _ rfl (hown.alloc _) ⟨wr.heap.size, 0, none⟩ 1 1 [.int .u8 ((bt n).toNat : Int)] rfl rfl (one_cell _ _ _) (one_one _) (one_bound (by have := HL.out; omega)) (by have := HL.out; omega) (by simp; omega) ?_)
      intro v1 w1 hown1 hgrow _
      obtain ⟨a1, cap1, rfl⟩ := form_of_row hown1
      have HR : Hid (w1.ownsRow w.heap.size 5 1 (.slice a1 (cur.length + 1) cap1) (cur ++ [bt n]).length (cellsOf (cur ++ [bt n]))) := by
        rw [Hid, cellsOf_append, snoc_len rfl]; exact hown1
      have HB : Hid (Below w.heap.size w w1) := (hb.alloc hsz _).grown hgrow (by simp; omega) (fun i hi => (hown.lt i hi).1)
      clear hown1 hgrow hown
      go_wp2
      go_roundw
      case rel => exact ⟨8, cur ++ [bt n], by omega, by first | rfl | go_num, by rw [Hid, HC.out]; simp [be8], by rw [Hid, snoc_len HL.out], by first | exact HR.out | (rw [snoc_len rfl] ; have := HR.out; rw [snoc_len rfl] at this; exact this), HB.out⟩
      case measure => simp [intOf]
    · have HE : Hid (cur = be8 n) := by have e := HC.out; rw [List.take_of_length_le (by simp [be8])] at e; exact e
      have hc := conv_row hown
      go_wp2
      go_ret
      exact ⟨by rw [← HE.out]; rfl, hb⟩
end Go.Proofs.YtkebddjndljodaaDoor
