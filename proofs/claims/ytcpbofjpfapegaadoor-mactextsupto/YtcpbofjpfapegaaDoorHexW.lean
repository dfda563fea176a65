/-
  The contract of Hex, for texts of up to 2^46 bytes.
-/
import Derived.Test.YtcpbofjpfapegaaDoorHex
namespace Go.Proofs.YtcpbofjpfapegaaDoor
open Go.RowKit
set_option maxRecDepth 20000 in
set_option maxHeartbeats 2000000 in
theorem hexW_any (s : ByteArray) (w : World) (hs : s.size ≤ 70368744177664) : Calls Tryd.prog 23 #[.string s] w fun e w' => e = .returned (.string ⟨(hexOf s.data.toList).toArray⟩) ∧ Below w.heap.size w w' := by
  obtain ⟨i0, hi, hz0, hz1, hz2⟩ := info_parts info5
  obtain ⟨m, hm⟩ : ∃ m, 2 * s.size = m := ⟨_, rfl⟩
  have hmul : wrap64 (2 * (s.size : Int)) = (m : Int) := by unfold wrap64; omega
  go_enter Tryd.func23, Tryd.ntmps23
  go_wp2_with (refine wpList_make_own _ rfl _ _ 28 rfl w.heap.size 5 i0 (.int .u8 0) 1 Tryd.underlying28 hi hz0 hz1 .i64 .i64 _ m rfl rfl (by first | exact hmul | rfl | omega) (by rw [hz2]; omega) (by unfold maxLen; omega) (Nat.le_refl _) ?_; intro w1 hown1 hg1)
  have hb1 : Below w.heap.size w w1 := (Below.refl _ w).grown hg1 (Nat.le_refl _) (fun i hi => by cases hi)
  go_loopw [3, 11] (fun v i wr => ∃ k : Nat, ∃ cur : List UInt8, k ≤ s.size ∧ i = .int .i64 k ∧ Hid (cur = hexOf (s.data.toList.take k)) ∧ wr.ownsRow w.heap.size 5 1 v cur.length (cellsOf cur) ∧ Below w.heap.size w wr) (fun _ i _ => s.size - (intOf i).toNat)
  case atStart => exact ⟨0, [], by omega, rfl, rfl, hown1, hb1⟩
  case round =>
    clear hown1 hg1 hb1
    obtain ⟨k, cur, hk, rfl, HC, hown, hb⟩ := hrel
    have hsz := hb.size
    obtain ⟨a, cap, rfl⟩ := form_of_row hown
    by_cases hlt : k < s.size
    · have HL' : Hid (cur.length = 2 * k) := by
        show _ = _
        rw [HC.out, hexOf_len, List.length_take]
        have : s.data.toList.length = s.size := by simp
        omega
      obtain ⟨c, hc⟩ : ∃ c, s[k] = c := ⟨_, rfl⟩
      have HX : Hid (cur ++ [hexD (c.toNat / 16), hexD (c.toNat % 16)] = hexOf (s.data.toList.take (k + 1))) := by
        show _ = _
        rw [take_snoc s k hlt, hexOf_append, HC.out, hc]
        rfl
      have hcl := c.toNat_lt
      obtain ⟨q1, hq1⟩ : ∃ q1, c.toNat / 16 = q1 := ⟨_, rfl⟩
      obtain ⟨q2, hq2⟩ : ∃ q2, c.toNat % 16 = q2 := ⟨_, rfl⟩
      have e1 : (c.toNat : Int) / 16 = (q1 : Int) := by omega
      have e2 : bits BinOp.and IntKind.u8 (c.toNat : Int) 15 = (q2 : Int) := by
        have := u8_and_nat c.toNat 15 hcl (by decide)
        rw [Nat.and_two_pow_sub_one_eq_mod c.toNat 4] at this
        rw [← hq2]
        exact this
      have l1 : q1 < 16 := by omega
      have l2 : q2 < 16 := by omega
      rw [hq1, hq2] at HX
      have r1 := fun W => run_hex l1 W
      have r2 := fun W => run_hex l2 W
      clear hq1 hq2
      go_wp2_with fail
      go_region_law (refine step_append_own rfl (.tmp 14) (.tmp 25) 28 rfl w.heap.size 5 i0 (.int .u8 0) 1 1 Tryd.underlying28 hi hz0 hz1 hz2 rfl (by decide) _ _ _ rfl (hown.alloc _) ⟨wr.heap.size, 0, none⟩ 2 2 (cellsOf [hexD q1, hexD q2]) rfl rfl (new_cells _ (cellsOf [hexD q1, hexD q2]) _) (cellsOf_one _) (by have := HL'.out; unfold maxLen; omega) (by have := HL'.out; omega) (by simp; omega) ?_; intro v1 w5 hown1 hgrow)
      all_goals
        obtain ⟨a1, cap1, rfl⟩ := form_of_row hown1
        have HR : Hid (w5.ownsRow w.heap.size 5 1 (.slice a1 (cur.length + 2) cap1) (cur ++ [hexD q1, hexD q2]).length (cellsOf (cur ++ [hexD q1, hexD q2]))) := by
          rw [Hid, cellsOf_append, List.length_append]; exact hown1
        have HB : Hid (Below w.heap.size w w5) := (hb.alloc hsz _).grown (grownBy_undrew hgrow) (by simp; omega) (fun i hi => (hown.lt i hi).1)
        clear hown1 hgrow hown r1 r2
        go_wp2_with fail
        go_roundw
        case rel => exact ⟨k + 1, cur ++ [hexD q1, hexD q2], by omega, by go_num, HX.out, by first | exact HR.out | (rw [List.length_append]; have := HR.out; rw [List.length_append] at this; exact this), HB.out⟩
        case measure => simp [intOf]; omega
    · obtain rfl : k = s.size := by omega
      have hcv := conv_row hown
      have HC' : Hid (cur = hexOf s.data.toList) := by show _ = _; rw [HC.out, List.take_of_length_le (by simp)]
      go_wp2_with fail
      go_ret
      exact ⟨by rw [← HC'.out]; rfl, hb⟩
end Go.Proofs.YtcpbofjpfapegaaDoor
