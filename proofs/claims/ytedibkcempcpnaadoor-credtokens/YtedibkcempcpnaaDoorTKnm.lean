/-
  The contracts of the twin's Number and Read.
-/
import Derived.Test.YtedibkcempcpnaaDoorTKpt
namespace Go.Proofs.YtedibkcempcpnaaDoor.T.K
open Go.RowKit
theorem u8mod_div (x d : Nat) : (x : Int) / (d : Int) % 256 = ((bt (x / d)).toNat : Int) := by
  rw [← u8wrap_div, IntKind.wrap_u8]
theorem u8mod (x : Nat) : (x : Int) % 256 = ((bt x).toNat : Int) := by
  rw [← u8wrap, IntKind.wrap_u8]
theorem u8mod_top (x : Nat) (h : x < 18446744073709551616) : (x : Int) / 72057594037927936 = ((bt (x / 72057594037927936)).toNat : Int) := by
  rw [← u8mod_div]; omega
theorem snoc_len {l : List UInt8} {c : UInt8} {n : Nat} (h : l.length = n) : (l ++ [c]).length = n + 1 := by simp [h]
set_option maxRecDepth 100000 in
set_option maxHeartbeats 8000000 in
theorem number8 (n : Nat) (w : World) (_hn : n < 18446744073709551616) :
    Calls Tryd.prog 44 #[.int .u64 n, .int .i64 8] w fun r w' => r = .returned (.string ⟨(be8 n).toArray⟩) ∧ Below w.heap.size w w' := by
  obtain ⟨i0, hi, hz0, hz1, hz2⟩ := info_parts info5
  go_enter Tryd.func44, Tryd.ntmps44
  go_wp2
  go_loopw [5, 6] (fun v i wr => ∃ k : Nat, ∃ cur, k ≤ 8 ∧ i = .int .i64 (7 - (k : Int)) ∧ Hid (cur = (be8 n).take k) ∧ Hid (cur.length = k) ∧ wr.ownsRow w.heap.size 5 1 v cur.length (cellsOf cur) ∧ Below w.heap.size w wr) (fun _ i _ => (intOf i + 1).toNat)
  case atStart => exact ⟨0, [], by omega, rfl, rfl, rfl, World.ownsRow_nil _ _ _ _, Below.refl _ _⟩
  case round =>
    obtain ⟨k, cur, hk, rfl, HC, HL, hown, hb⟩ := hrel
    have hsz := hb.size
    obtain ⟨a, cap, rfl⟩ := form_of_row hown
    rcases (show k = 0 ∨ k = 1 ∨ k = 2 ∨ k = 3 ∨ k = 4 ∨ k = 5 ∨ k = 6 ∨ k = 7 ∨ k = 8 by omega) with rfl | rfl | rfl | rfl | rfl | rfl | rfl | rfl | rfl
    · have jw : (n : Int) / 72057594037927936 = ((bt (n / 72057594037927936)).toNat : Int) := (u8mod_top n _hn)
      go_wp2_with (at_builtin; refine wpList_append_own _ rfl (.tmp 13) (.tmp 19) 37 rfl w.heap.size 5 i0 (.int .u8 0) 1 1 Tryd.underlying37 hi hz0 hz1 hz2 rfl (by decide) _ _ _ rfl (hown.alloc _) ⟨wr.heap.size, 0, none⟩ 1 1 [.int .u8 ((bt (n / 72057594037927936)).toNat : Int)] rfl rfl (one_cell _ _ _) (one_one _) (one_bound (by have := HL.out; omega)) (by have := HL.out; omega) (by simp; omega) ?_)
      intro v1 w1 hown1 hgrow _
      obtain ⟨a1, cap1, rfl⟩ := form_of_row hown1
      have HR : Hid (w1.ownsRow w.heap.size 5 1 (.slice a1 (cur.length + 1) cap1) (cur ++ [bt (n / 72057594037927936)]).length (cellsOf (cur ++ [bt (n / 72057594037927936)]))) := by
        rw [Hid, cellsOf_append, snoc_len rfl]; exact hown1
      have HB : Hid (Below w.heap.size w w1) := (hb.alloc hsz _).grown hgrow (by simp; omega) (fun i hi => (hown.lt i hi).1)
      clear hown1 hgrow hown
      go_wp2
      go_roundw
      case rel => exact ⟨1, cur ++ [bt (n / 72057594037927936)], by omega, by first | rfl | go_num, by rw [Hid, HC.out]; simp [be8], by rw [Hid, snoc_len HL.out], by first | exact HR.out | (rw [snoc_len rfl] ; have := HR.out; rw [snoc_len rfl] at this; exact this), HB.out⟩
      case measure => simp [intOf]
    · have jw : (n : Int) / 281474976710656 % 256 = ((bt (n / 281474976710656)).toNat : Int) := u8mod_div n 281474976710656
      go_wp2_with (at_builtin; refine wpList_append_own _ rfl (.tmp 13) (.tmp 19) 37 rfl w.heap.size 5 i0 (.int .u8 0) 1 1 Tryd.underlying37 hi hz0 hz1 hz2 rfl (by decide) _ _ _ rfl (hown.alloc _) ⟨wr.heap.size, 0, none⟩ 1 1 [.int .u8 ((bt (n / 281474976710656)).toNat : Int)] rfl rfl (one_cell _ _ _) (one_one _) (one_bound (by have := HL.out; omega)) (by have := HL.out; omega) (by simp; omega) ?_)
      intro v1 w1 hown1 hgrow _
      obtain ⟨a1, cap1, rfl⟩ := form_of_row hown1
      have HR : Hid (w1.ownsRow w.heap.size 5 1 (.slice a1 (cur.length + 1) cap1) (cur ++ [bt (n / 281474976710656)]).length (cellsOf (cur ++ [bt (n / 281474976710656)]))) := by
        rw [Hid, cellsOf_append, snoc_len rfl]; exact hown1
      have HB : Hid (Below w.heap.size w w1) := (hb.alloc hsz _).grown hgrow (by simp; omega) (fun i hi => (hown.lt i hi).1)
      clear hown1 hgrow hown
      go_wp2
      go_roundw
      case rel => exact ⟨2, cur ++ [bt (n / 281474976710656)], by omega, by first | rfl | go_num, by rw [Hid, HC.out]; simp [be8], by rw [Hid, snoc_len HL.out], by first | exact HR.out | (rw [snoc_len rfl] ; have := HR.out; rw [snoc_len rfl] at this; exact this), HB.out⟩
      case measure => simp [intOf]
    · have jw : (n : Int) / 1099511627776 % 256 = ((bt (n / 1099511627776)).toNat : Int) := u8mod_div n 1099511627776
      go_wp2_with (at_builtin; refine wpList_append_own _ rfl (.tmp 13) (.tmp 19) 37 rfl w.heap.size 5 i0 (.int .u8 0) 1 1 Tryd.underlying37 hi hz0 hz1 hz2 rfl (by decide) _ _ _ rfl (hown.alloc _) ⟨wr.heap.size, 0, none⟩ 1 1 [.int .u8 ((bt (n / 1099511627776)).toNat : Int)] rfl rfl (one_cell _ _ _) (one_one _) (one_bound (by have := HL.out; omega)) (by have := HL.out; omega) (by simp; omega) ?_)
      intro v1 w1 hown1 hgrow _
      obtain ⟨a1, cap1, rfl⟩ := form_of_row hown1
      have HR : Hid (w1.ownsRow w.heap.size 5 1 (.slice a1 (cur.length + 1) cap1) (cur ++ [bt (n / 1099511627776)]).length (cellsOf (cur ++ [bt (n / 1099511627776)]))) := by
        rw [Hid, cellsOf_append, snoc_len rfl]; exact hown1
      have HB : Hid (Below w.heap.size w w1) := (hb.alloc hsz _).grown hgrow (by simp; omega) (fun i hi => (hown.lt i hi).1)
      clear hown1 hgrow hown
      go_wp2
      go_roundw
      case rel => exact ⟨3, cur ++ [bt (n / 1099511627776)], by omega, by first | rfl | go_num, by rw [Hid, HC.out]; simp [be8], by rw [Hid, snoc_len HL.out], by first | exact HR.out | (rw [snoc_len rfl] ; have := HR.out; rw [snoc_len rfl] at this; exact this), HB.out⟩
      case measure => simp [intOf]
    · have jw : (n : Int) / 4294967296 % 256 = ((bt (n / 4294967296)).toNat : Int) := u8mod_div n 4294967296
      go_wp2_with (at_builtin; refine wpList_append_own _ rfl (.tmp 13) (.tmp 19) 37 rfl w.heap.size 5 i0 (.int .u8 0) 1 1 Tryd.underlying37 hi hz0 hz1 hz2 rfl (by decide) _ _ _ rfl (hown.alloc _) ⟨wr.heap.size, 0, none⟩ 1 1 [.int .u8 ((bt (n / 4294967296)).toNat : Int)] rfl rfl (one_cell _ _ _) (one_one _) (one_bound (by have := HL.out; omega)) (by have := HL.out; omega) (by simp; omega) ?_)
      intro v1 w1 hown1 hgrow _
      obtain ⟨a1, cap1, rfl⟩ := form_of_row hown1
      have HR : Hid (w1.ownsRow w.heap.size 5 1 (.slice a1 (cur.length + 1) cap1) (cur ++ [bt (n / 4294967296)]).length (cellsOf (cur ++ [bt (n / 4294967296)]))) := by
        rw [Hid, cellsOf_append, snoc_len rfl]; exact hown1
      have HB : Hid (Below w.heap.size w w1) := (hb.alloc hsz _).grown hgrow (by simp; omega) (fun i hi => (hown.lt i hi).1)
      clear hown1 hgrow hown
      go_wp2
      go_roundw
      case rel => exact ⟨4, cur ++ [bt (n / 4294967296)], by omega, by first | rfl | go_num, by rw [Hid, HC.out]; simp [be8], by rw [Hid, snoc_len HL.out], by first | exact HR.out | (rw [snoc_len rfl] ; have := HR.out; rw [snoc_len rfl] at this; exact this), HB.out⟩
      case measure => simp [intOf]
    · have jw : (n : Int) / 16777216 % 256 = ((bt (n / 16777216)).toNat : Int) := u8mod_div n 16777216
      go_wp2_with (at_builtin; refine wpList_append_own _ rfl (.tmp 13) (.tmp 19) 37 rfl w.heap.size 5 i0 (.int .u8 0) 1 1 Tryd.underlying37 hi hz0 hz1 hz2 rfl (by decide) _ _ _ rfl (hown.alloc _) ⟨wr.heap.size, 0, none⟩ 1 1 [.int .u8 ((bt (n / 16777216)).toNat : Int)] rfl rfl (one_cell _ _ _) (one_one _) (one_bound (by have := HL.out; omega)) (by have := HL.out; omega) (by simp; omega) ?_)
      intro v1 w1 hown1 hgrow _
      obtain ⟨a1, cap1, rfl⟩ := form_of_row hown1
      have HR : Hid (w1.ownsRow w.heap.size 5 1 (.slice a1 (cur.length + 1) cap1) (cur ++ [bt (n / 16777216)]).length (cellsOf (cur ++ [bt (n / 16777216)]))) := by
        rw [Hid, cellsOf_append, snoc_len rfl]; exact hown1
      have HB : Hid (Below w.heap.size w w1) := (hb.alloc hsz _).grown hgrow (by simp; omega) (fun i hi => (hown.lt i hi).1)
      clear hown1 hgrow hown
      go_wp2
      go_roundw
      case rel => exact ⟨5, cur ++ [bt (n / 16777216)], by omega, by first | rfl | go_num, by rw [Hid, HC.out]; simp [be8], by rw [Hid, snoc_len HL.out], by first | exact HR.out | (rw [snoc_len rfl] ; have := HR.out; rw [snoc_len rfl] at this; exact this), HB.out⟩
      case measure => simp [intOf]
    · have jw : (n : Int) / 65536 % 256 = ((bt (n / 65536)).toNat : Int) := u8mod_div n 65536
      go_wp2_with (at_builtin; refine wpList_append_own _ rfl (.tmp 13) (.tmp 19) 37 rfl w.heap.size 5 i0 (.int .u8 0) 1 1 Tryd.underlying37 hi hz0 hz1 hz2 rfl (by decide) _ _ _ rfl (hown.alloc _) ⟨wr.heap.size, 0, none⟩ 1 1 [.int .u8 ((bt (n / 65536)).toNat : Int)] rfl rfl (one_cell _ _ _) (one_one _) (one_bound (by have := HL.out; omega)) (by have := HL.out; omega) (by simp; omega) ?_)
      intro v1 w1 hown1 hgrow _
      obtain ⟨a1, cap1, rfl⟩ := form_of_row hown1
      have HR : Hid (w1.ownsRow w.heap.size 5 1 (.slice a1 (cur.length + 1) cap1) (cur ++ [bt (n / 65536)]).length (cellsOf (cur ++ [bt (n / 65536)]))) := by
        rw [Hid, cellsOf_append, snoc_len rfl]; exact hown1
      have HB : Hid (Below w.heap.size w w1) := (hb.alloc hsz _).grown hgrow (by simp; omega) (fun i hi => (hown.lt i hi).1)
      clear hown1 hgrow hown
      go_wp2
      go_roundw
      case rel => exact ⟨6, cur ++ [bt (n / 65536)], by omega, by first | rfl | go_num, by rw [Hid, HC.out]; simp [be8], by rw [Hid, snoc_len HL.out], by first | exact HR.out | (rw [snoc_len rfl] ; have := HR.out; rw [snoc_len rfl] at this; exact this), HB.out⟩
      case measure => simp [intOf]
    · have jw : (n : Int) / 256 % 256 = ((bt (n / 256)).toNat : Int) := u8mod_div n 256
      go_wp2_with (at_builtin; refine wpList_append_own _ rfl (.tmp 13) (.tmp 19) 37 rfl w.heap.size 5 i0 (.int .u8 0) 1 1 Tryd.underlying37 hi hz0 hz1 hz2 rfl (by decide) _ _ _ rfl (hown.alloc _) ⟨wr.heap.size, 0, none⟩ 1 1 [.int .u8 ((bt (n / 256)).toNat : Int)] rfl rfl (one_cell _ _ _) (one_one _) (one_bound (by have := HL.out; omega)) (by have := HL.out; omega) (by simp; omega) ?_)
      intro v1 w1 hown1 hgrow _
      obtain ⟨a1, cap1, rfl⟩ := form_of_row hown1
      have HR : Hid (w1.ownsRow w.heap.size 5 1 (.slice a1 (cur.length + 1) cap1) (cur ++ [bt (n / 256)]).length (cellsOf (cur ++ [bt (n / 256)]))) := by
        rw [Hid, cellsOf_append, snoc_len rfl]; exact hown1
      have HB : Hid (Below w.heap.size w w1) := (hb.alloc hsz _).grown hgrow (by simp; omega) (fun i hi => (hown.lt i hi).1)
      clear hown1 hgrow hown
      go_wp2
      go_roundw
      case rel => exact ⟨7, cur ++ [bt (n / 256)], by omega, by first | rfl | go_num, by rw [Hid, HC.out]; simp [be8], by rw [Hid, snoc_len HL.out], by first | exact HR.out | (rw [snoc_len rfl] ; have := HR.out; rw [snoc_len rfl] at this; exact this), HB.out⟩
      case measure => simp [intOf]
    · have jw : (n : Int) % 256 = ((bt n).toNat : Int) := u8mod n
      go_wp2_with (at_builtin; refine wpList_append_own _ rfl (.tmp 13) (.tmp 19) 37 rfl w.heap.size 5 i0 (.int .u8 0) 1 1 Tryd.underlying37 hi hz0 hz1 hz2 rfl (by decide) _ _ _ rfl (hown.alloc _) ⟨wr.heap.size, 0, none⟩ 1 1 [.int .u8 ((bt n).toNat : Int)] rfl rfl (one_cell _ _ _) (one_one _) (one_bound (by have := HL.out; omega)) (by have := HL.out; omega) (by simp; omega) ?_)
      intro v1 w1 hown1 hgrow _
      obtain ⟨a1, cap1, rfl⟩ := form_of_row hown1
      have HR : Hid (w1.ownsRow w.heap.size 5 1 (.slice a1 (cur.length + 1) cap1) (cur ++ [bt n]).length (cellsOf (cur ++ [bt n]))) := by
        rw [Hid, cellsOf_append, snoc_len rfl]; exact hown1
      have HB : Hid (Below w.heap.size w w1) := (hb.alloc hsz _).grown hgrow (by simp; omega) (fun i hi => (hown.lt i hi).1)
      clear hown1 hgrow hown
      go_wp2
      go_roundw
      case rel => exact ⟨8, cur ++ [bt n], by omega, by first | rfl | go_num, by rw [Hid, HC.out]; simp [be8], by rw [Hid, snoc_len HL.out], by first | exact HR.out | (rw [snoc_len rfl] ; have := HR.out; rw [snoc_len rfl] at this; exact this), HB.out⟩
      case measure => simp [intOf]
    · have HE : Hid (cur = be8 n) := by have e := HC.out; rw [List.take_of_length_le (by simp [be8])] at e; exact e
      have hc := conv_row hown
      go_wp2
      go_ret
      exact ⟨by rw [← HE.out]; rfl, hb⟩
theorem bt_nat (x : Nat) : (bt x).toNat = x % 256 := by simp [bt]
theorem beNat8 {n : Nat} (h : n < 18446744073709551616) : beNat (be8 n) = n := by simp only [beNat, be8, List.foldl, bt_nat]; omega
theorem bt_of {x : Nat} {c : UInt8} (h : x % 256 = c.toNat) : bt x = c := by
  apply UInt8.toNat_inj.1
  rw [bt_nat, h]
theorem be8_beNat {l : List UInt8} (h : l.length = 8) : be8 (beNat l) = l := by
  match l, h with
  | [a0, a1, a2, a3, a4, a5, a6, a7], _ =>
    have h0 := a0.toNat_lt
    have h1 := a1.toNat_lt
    have h2 := a2.toNat_lt
    have h3 := a3.toNat_lt
    have h4 := a4.toNat_lt
    have h5 := a5.toNat_lt
    have h6 := a6.toNat_lt
    have h7 := a7.toNat_lt
    obtain ⟨n, hn⟩ : ∃ n, beNat [a0, a1, a2, a3, a4, a5, a6, a7] = n := ⟨_, rfl⟩
    rw [hn]
    simp only [beNat, List.foldl] at hn
    unfold be8
    rw [bt_of (x := n / 72057594037927936) (c := a0) (by omega), bt_of (x := n / 281474976710656) (c := a1) (by omega), bt_of (x := n / 1099511627776) (c := a2) (by omega), bt_of (x := n / 4294967296) (c := a3) (by omega), bt_of (x := n / 16777216) (c := a4) (by omega), bt_of (x := n / 65536) (c := a5) (by omega), bt_of (x := n / 256) (c := a6) (by omega), bt_of (x := n) (c := a7) (by omega)]
set_option maxRecDepth 20000 in
set_option maxHeartbeats 2000000 in
theorem read_any (s : ByteArray) (hs : s.size ≤ 8) (w : World) : Calls Tryd.prog 42 #[.string s] w fun r w' => r = .returned (.int .u64 (beNat s.data.toList)) ∧ w' = w := by
  go_enter Tryd.func42, Tryd.ntmps42
  go_wp2_with fail
  go_loopw [3, 4] (fun n i wr => ∃ k x : Nat, k ≤ s.size ∧ i = .int .i64 k ∧ x < 256 ^ k ∧ Hid (x = beNat (s.data.toList.take k)) ∧ n = .int .u64 x ∧ wr = w) (fun _ i _ => s.size - (intOf i).toNat)
  case atStart => exact ⟨0, 0, by omega, rfl, by decide, rfl, rfl, rfl⟩
  case round =>
    obtain ⟨k, x, hk, rfl, hx, HX, rfl, rfl⟩ := hrel
    by_cases hlt : k < s.size
    · have hx7 : x < 72057594037927936 := by
        have := Nat.pow_le_pow_right (n := 256) (by decide) (show k ≤ 7 by omega)
        omega
      have r0 := fun W => run_byte s (i := k) (z := (k : Int)) rfl hlt W
      have HT : Hid (beNat (s.data.toList.take (k + 1)) = x * 256 + byteAt s k) := by
        rw [Hid, take_byte s k hlt, beNat_snoc, ← HX.out]
        congr 1
        rw [UInt8.toNat_ofNat', Nat.mod_eq_of_lt (byteAt_lt s k)]
      have hbl := byteAt_lt s k
      obtain ⟨y, hy⟩ : ∃ y, byteAt s k = y := ⟨_, rfl⟩
      rw [hy] at r0 HT hbl
      have HB : Hid (x * 256 + y < 256 ^ (k + 1)) := by
        rw [Hid, Nat.pow_succ]; omega
      have hlz : (k : Int) < (s.size : Int) := by omega
      clear hx hy
      go_wp2_with fail
      go_roundw
      case rel => exact ⟨k + 1, x * 256 + y, by omega, by go_num, HB.out, HT.out.symm, by go_num, by first | rfl | trivial⟩
      case measure => simp [intOf]; omega
    · obtain rfl : k = s.size := by omega
      have HF : Hid (x = beNat s.data.toList) := by
        have h2 := HX.out
        rw [List.take_of_length_le (by simp)] at h2
        exact h2
      have hxb : x < 18446744073709551616 := by
        have := Nat.pow_le_pow_right (n := 256) (by decide) (show s.size ≤ 8 by omega)
        omega
      clear hx HX
      go_wp2_with fail
      go_ret
      exact ⟨ret_int (by rw [← HF.out]), rfl⟩
end Go.Proofs.YtedibkcempcpnaaDoor.T.K
