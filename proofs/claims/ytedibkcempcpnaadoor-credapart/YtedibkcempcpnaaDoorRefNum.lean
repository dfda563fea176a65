/-
  The contract of the twin's Number: a number in eight bytes, the highest first.
-/
import Derived.Test.YtedibkcempcpnaaDoorRefBlock
import Derived.Test.YtedibkcempcpnaaDoorOwnZ
import Derived.Deep.RegionWith
namespace Go.Proofs.YtedibkcempcpnaaDoor
open Go.RowKit
theorem bt_top (x : Nat) (h : x < 18446744073709551616) : (x : Int) / 72057594037927936 = ((bt (x / 72057594037927936)).toNat : Int) := by
  rw [← bt_div]; omega
def nb8 (n : Nat) : List UInt8 := [bt (n / 72057594037927936), bt (n / 281474976710656), bt (n / 1099511627776), bt (n / 4294967296), bt (n / 16777216), bt (n / 65536), bt (n / 256), bt n]
theorem bt_256 (x : Nat) : UInt8.ofNat (x % 256) = bt x := by
  apply UInt8.toNat_inj.1
  simp [bt]
theorem nb8_eq (n : Nat) : nb8 n = be8 n := by
  simp only [be8, e8, List.range, List.range.loop, List.map, bt_256]
  simp [nb8]
theorem snoc_len {l : List UInt8} {c : UInt8} {n : Nat} (h : l.length = n) : (l ++ [c]).length = n + 1 := by simp [h]
set_option maxRecDepth 100000 in
set_option maxHeartbeats 8000000 in
theorem rnumber (n : Nat) (w : World) (hn : n < 18446744073709551616) :
    Calls Tryd.prog 63 #[.int .u64 n] w fun r w' => r = .returned (.string ⟨(be8 n).toArray⟩) ∧ Below w.heap.size w w' := by
  rw [← nb8_eq]
  obtain ⟨i0, hi, hz0, hz1, hz2⟩ := info_parts info5
  go_enter Tryd.func63, Tryd.ntmps63
  go_wp2
  go_loopw [3, 4] (fun v i wr => ∃ k : Nat, ∃ cur, k ≤ 8 ∧ i = .int .i64 (7 - (k : Int)) ∧ Hid (cur = (nb8 n).take k) ∧ Hid (cur.length = k) ∧ wr.ownsRow w.heap.size 5 1 v cur.length (cellsOf cur) ∧ Below w.heap.size w wr) (fun _ i _ => (intOf i + 1).toNat)
  case atStart => exact ⟨0, [], by omega, rfl, rfl, rfl, World.ownsRow_nil _ _ _ _, Below.refl _ _⟩
  case round =>
    obtain ⟨k, cur, hk, rfl, HC, HL, hown, hb⟩ := hrel
    have hsz := hb.size
    obtain ⟨a, cap, rfl⟩ := form_of_row hown
    rcases (show k = 0 ∨ k = 1 ∨ k = 2 ∨ k = 3 ∨ k = 4 ∨ k = 5 ∨ k = 6 ∨ k = 7 ∨ k = 8 by omega) with rfl | rfl | rfl | rfl | rfl | rfl | rfl | rfl | rfl
    · have jw : (n : Int) / 72057594037927936 = ((bt (n / 72057594037927936)).toNat : Int) := bt_top n hn
      go_wp2_with (at_builtin; refine wpList_append_own _ rfl (.tmp 9) (.tmp 15) 37 rfl w.heap.size 5 i0 (.int .u8 0) 1 1 Tryd.underlying37 hi hz0 hz1 hz2 rfl (by decide) _ _ _ rfl (hown.alloc _) ⟨wr.heap.size, 0, none⟩ 1 1 (cellsOf [bt (n / 72057594037927936)]) rfl rfl (new_cells _ (cellsOf [bt (n / 72057594037927936)]) _) (cellsOf_one _) (by have := HL.out; unfold maxLen; omega) (by have := HL.out; omega) (by simp; omega) ?_)
      intro v1 w1 hown1 hgrow _
      obtain ⟨a1, cap1, rfl⟩ := form_of_row hown1
      have HR : Hid (w1.ownsRow w.heap.size 5 1 (.slice a1 (cur.length + 1) cap1) (cur ++ [bt (n / 72057594037927936)]).length (cellsOf (cur ++ [bt (n / 72057594037927936)]))) := by
        rw [Hid, cellsOf_append, snoc_len rfl]; exact hown1
      have HB : Hid (Below w.heap.size w w1) := (hb.alloc hsz _).grown hgrow (by simp; omega) (fun i hi => (hown.lt i hi).1)
      clear hown1 hgrow hown
      go_wp2
      go_roundw
      case rel => exact ⟨1, cur ++ [bt (n / 72057594037927936)], by omega, by first | rfl | go_num, by rw [Hid, HC.out]; simp [nb8], by rw [Hid, snoc_len HL.out], by first | exact HR.out | (rw [snoc_len rfl] ; have := HR.out; rw [snoc_len rfl] at this; exact this), HB.out⟩
      case measure => simp [intOf]
    · have jw : (n : Int) / 281474976710656 % 256 = ((bt (n / 281474976710656)).toNat : Int) := bt_div n 281474976710656
      go_wp2_with (at_builtin; refine wpList_append_own _ rfl (.tmp 9) (.tmp 15) 37 rfl w.heap.size 5 i0 (.int .u8 0) 1 1 Tryd.underlying37 hi hz0 hz1 hz2 rfl (by decide) _ _ _ rfl (hown.alloc _) ⟨wr.heap.size, 0, none⟩ 1 1 (cellsOf [bt (n / 281474976710656)]) rfl rfl (new_cells _ (cellsOf [bt (n / 281474976710656)]) _) (cellsOf_one _) (by have := HL.out; unfold maxLen; omega) (by have := HL.out; omega) (by simp; omega) ?_)
      intro v1 w1 hown1 hgrow _
      obtain ⟨a1, cap1, rfl⟩ := form_of_row hown1
      have HR : Hid (w1.ownsRow w.heap.size 5 1 (.slice a1 (cur.length + 1) cap1) (cur ++ [bt (n / 281474976710656)]).length (cellsOf (cur ++ [bt (n / 281474976710656)]))) := by
        rw [Hid, cellsOf_append, snoc_len rfl]; exact hown1
      have HB : Hid (Below w.heap.size w w1) := (hb.alloc hsz _).grown hgrow (by simp; omega) (fun i hi => (hown.lt i hi).1)
      clear hown1 hgrow hown
      go_wp2
      go_roundw
      case rel => exact ⟨2, cur ++ [bt (n / 281474976710656)], by omega, by first | rfl | go_num, by rw [Hid, HC.out]; simp [nb8], by rw [Hid, snoc_len HL.out], by first | exact HR.out | (rw [snoc_len rfl] ; have := HR.out; rw [snoc_len rfl] at this; exact this), HB.out⟩
      case measure => simp [intOf]
    · have jw : (n : Int) / 1099511627776 % 256 = ((bt (n / 1099511627776)).toNat : Int) := bt_div n 1099511627776
      go_wp2_with (at_builtin; refine wpList_append_own _ rfl (.tmp 9) (.tmp 15) 37 rfl w.heap.size 5 i0 (.int .u8 0) 1 1 Tryd.underlying37 hi hz0 hz1 hz2 rfl (by decide) _ _ _ rfl (hown.alloc _) ⟨wr.heap.size, 0, none⟩ 1 1 (cellsOf [bt (n / 1099511627776)]) rfl rfl (new_cells _ (cellsOf [bt (n / 1099511627776)]) _) (cellsOf_one _) (by have := HL.out; unfold maxLen; omega) (by have := HL.out; omega) (by simp; omega) ?_)
      intro v1 w1 hown1 hgrow _
      obtain ⟨a1, cap1, rfl⟩ := form_of_row hown1
      have HR : Hid (w1.ownsRow w.heap.size 5 1 (.slice a1 (cur.length + 1) cap1) (cur ++ [bt (n / 1099511627776)]).length (cellsOf (cur ++ [bt (n / 1099511627776)]))) := by
        rw [Hid, cellsOf_append, snoc_len rfl]; exact hown1
      have HB : Hid (Below w.heap.size w w1) := (hb.alloc hsz _).grown hgrow (by simp; omega) (fun i hi => (hown.lt i hi).1)
      clear hown1 hgrow hown
      go_wp2
      go_roundw
      case rel => exact ⟨3, cur ++ [bt (n / 1099511627776)], by omega, by first | rfl | go_num, by rw [Hid, HC.out]; simp [nb8], by rw [Hid, snoc_len HL.out], by first | exact HR.out | (rw [snoc_len rfl] ; have := HR.out; rw [snoc_len rfl] at this; exact this), HB.out⟩
      case measure => simp [intOf]
    · have jw : (n : Int) / 4294967296 % 256 = ((bt (n / 4294967296)).toNat : Int) := bt_div n 4294967296
      go_wp2_with (at_builtin; refine wpList_append_own _ rfl (.tmp 9) (.tmp 15) 37 rfl w.heap.size 5 i0 (.int .u8 0) 1 1 Tryd.underlying37 hi hz0 hz1 hz2 rfl (by decide) _ _ _ rfl (hown.alloc _) ⟨wr.heap.size, 0, none⟩ 1 1 (cellsOf [bt (n / 4294967296)]) rfl rfl (new_cells _ (cellsOf [bt (n / 4294967296)]) _) (cellsOf_one _) (by have := HL.out; unfold maxLen; omega) (by have := HL.out; omega) (by simp; omega) ?_)
      intro v1 w1 hown1 hgrow _
      obtain ⟨a1, cap1, rfl⟩ := form_of_row hown1
      have HR : Hid (w1.ownsRow w.heap.size 5 1 (.slice a1 (cur.length + 1) cap1) (cur ++ [bt (n / 4294967296)]).length (cellsOf (cur ++ [bt (n / 4294967296)]))) := by
        rw [Hid, cellsOf_append, snoc_len rfl]; exact hown1
      have HB : Hid (Below w.heap.size w w1) := (hb.alloc hsz _).grown hgrow (by simp; omega) (fun i hi => (hown.lt i hi).1)
      clear hown1 hgrow hown
      go_wp2
      go_roundw
      case rel => exact ⟨4, cur ++ [bt (n / 4294967296)], by omega, by first | rfl | go_num, by rw [Hid, HC.out]; simp [nb8], by rw [Hid, snoc_len HL.out], by first | exact HR.out | (rw [snoc_len rfl] ; have := HR.out; rw [snoc_len rfl] at this; exact this), HB.out⟩
      case measure => simp [intOf]
    · have jw : (n : Int) / 16777216 % 256 = ((bt (n / 16777216)).toNat : Int) := bt_div n 16777216
      go_wp2_with (at_builtin; refine wpList_append_own _ rfl (.tmp 9) (.tmp 15) 37 rfl w.heap.size 5 i0 (.int .u8 0) 1 1 Tryd.underlying37 hi hz0 hz1 hz2 rfl (by decide) _ _ _ rfl (hown.alloc _) ⟨wr.heap.size, 0, none⟩ 1 1 (cellsOf [bt (n / 16777216)]) rfl rfl (new_cells _ (cellsOf [bt (n / 16777216)]) _) (cellsOf_one _) (by have := HL.out; unfold maxLen; omega) (by have := HL.out; omega) (by simp; omega) ?_)
      intro v1 w1 hown1 hgrow _
      obtain ⟨a1, cap1, rfl⟩ := form_of_row hown1
      have HR : Hid (w1.ownsRow w.heap.size 5 1 (.slice a1 (cur.length + 1) cap1) (cur ++ [bt (n / 16777216)]).length (cellsOf (cur ++ [bt (n / 16777216)]))) := by
        rw [Hid, cellsOf_append, snoc_len rfl]; exact hown1
      have HB : Hid (Below w.heap.size w w1) := (hb.alloc hsz _).grown hgrow (by simp; omega) (fun i hi => (hown.lt i hi).1)
      clear hown1 hgrow hown
      go_wp2
      go_roundw
      case rel => exact ⟨5, cur ++ [bt (n / 16777216)], by omega, by first | rfl | go_num, by rw [Hid, HC.out]; simp [nb8], by rw [Hid, snoc_len HL.out], by first | exact HR.out | (rw [snoc_len rfl] ; have := HR.out; rw [snoc_len rfl] at this; exact this), HB.out⟩
      case measure => simp [intOf]
    · have jw : (n : Int) / 65536 % 256 = ((bt (n / 65536)).toNat : Int) := bt_div n 65536
      go_wp2_with (at_builtin; refine wpList_append_own _ rfl (.tmp 9) (.tmp 15) 37 rfl w.heap.size 5 i0 (.int .u8 0) 1 1 Tryd.underlying37 hi hz0 hz1 hz2 rfl (by decide) _ _ _ rfl (hown.alloc _) ⟨wr.heap.size, 0, none⟩ 1 1 (cellsOf [bt (n / 65536)]) rfl rfl (new_cells _ (cellsOf [bt (n / 65536)]) _) (cellsOf_one _) (by have := HL.out; unfold maxLen; omega) (by have := HL.out; omega) (by simp; omega) ?_)
      intro v1 w1 hown1 hgrow _
      obtain ⟨a1, cap1, rfl⟩ := form_of_row hown1
      have HR : Hid (w1.ownsRow w.heap.size 5 1 (.slice a1 (cur.length + 1) cap1) (cur ++ [bt (n / 65536)]).length (cellsOf (cur ++ [bt (n / 65536)]))) := by
        rw [Hid, cellsOf_append, snoc_len rfl]; exact hown1
      have HB : Hid (Below w.heap.size w w1) := (hb.alloc hsz _).grown hgrow (by simp; omega) (fun i hi => (hown.lt i hi).1)
      clear hown1 hgrow hown
      go_wp2
      go_roundw
      case rel => exact ⟨6, cur ++ [bt (n / 65536)], by omega, by first | rfl | go_num, by rw [Hid, HC.out]; simp [nb8], by rw [Hid, snoc_len HL.out], by first | exact HR.out | (rw [snoc_len rfl] ; have := HR.out; rw [snoc_len rfl] at this; exact this), HB.out⟩
      case measure => simp [intOf]
    · have jw : (n : Int) / 256 % 256 = ((bt (n / 256)).toNat : Int) := bt_div n 256
      go_wp2_with (at_builtin; refine wpList_append_own _ rfl (.tmp 9) (.tmp 15) 37 rfl w.heap.size 5 i0 (.int .u8 0) 1 1 Tryd.underlying37 hi hz0 hz1 hz2 rfl (by decide) _ _ _ rfl (hown.alloc _) ⟨wr.heap.size, 0, none⟩ 1 1 (cellsOf [bt (n / 256)]) rfl rfl (new_cells _ (cellsOf [bt (n / 256)]) _) (cellsOf_one _) (by have := HL.out; unfold maxLen; omega) (by have := HL.out; omega) (by simp; omega) ?_)
      intro v1 w1 hown1 hgrow _
      obtain ⟨a1, cap1, rfl⟩ := form_of_row hown1
      have HR : Hid (w1.ownsRow w.heap.size 5 1 (.slice a1 (cur.length + 1) cap1) (cur ++ [bt (n / 256)]).length (cellsOf (cur ++ [bt (n / 256)]))) := by
        rw [Hid, cellsOf_append, snoc_len rfl]; exact hown1
      have HB : Hid (Below w.heap.size w w1) := (hb.alloc hsz _).grown hgrow (by simp; omega) (fun i hi => (hown.lt i hi).1)
      clear hown1 hgrow hown
      go_wp2
      go_roundw
      case rel => exact ⟨7, cur ++ [bt (n / 256)], by omega, by first | rfl | go_num, by rw [Hid, HC.out]; simp [nb8], by rw [Hid, snoc_len HL.out], by first | exact HR.out | (rw [snoc_len rfl] ; have := HR.out; rw [snoc_len rfl] at this; exact this), HB.out⟩
      case measure => simp [intOf]
    · have jw : (n : Int) % 256 = ((bt n).toNat : Int) := bt_mod n
      go_wp2_with (at_builtin; refine wpList_append_own _ rfl (.tmp 9) (.tmp 15) 37 rfl w.heap.size 5 i0 (.int .u8 0) 1 1 Tryd.underlying37 hi hz0 hz1 hz2 rfl (by decide) _ _ _ rfl (hown.alloc _) ⟨wr.heap.size, 0, none⟩ 1 1 (cellsOf [bt n]) rfl rfl (new_cells _ (cellsOf [bt n]) _) (cellsOf_one _) (by have := HL.out; unfold maxLen; omega) (by have := HL.out; omega) (by simp; omega) ?_)
      intro v1 w1 hown1 hgrow _
      obtain ⟨a1, cap1, rfl⟩ := form_of_row hown1
      have HR : Hid (w1.ownsRow w.heap.size 5 1 (.slice a1 (cur.length + 1) cap1) (cur ++ [bt n]).length (cellsOf (cur ++ [bt n]))) := by
        rw [Hid, cellsOf_append, snoc_len rfl]; exact hown1
      have HB : Hid (Below w.heap.size w w1) := (hb.alloc hsz _).grown hgrow (by simp; omega) (fun i hi => (hown.lt i hi).1)
      clear hown1 hgrow hown
      go_wp2
      go_roundw
      case rel => exact ⟨8, cur ++ [bt n], by omega, by first | rfl | go_num, by rw [Hid, HC.out]; simp [nb8], by rw [Hid, snoc_len HL.out], by first | exact HR.out | (rw [snoc_len rfl] ; have := HR.out; rw [snoc_len rfl] at this; exact this), HB.out⟩
      case measure => simp [intOf]
    · have HE : Hid (cur = nb8 n) := by have e := HC.out; rw [List.take_of_length_le (by simp [nb8])] at e; exact e
      have hc := conv_row hown
      go_wp2
      go_ret
      exact ⟨by rw [← HE.out]; rfl, hb⟩
end Go.Proofs.YtedibkcempcpnaaDoor
