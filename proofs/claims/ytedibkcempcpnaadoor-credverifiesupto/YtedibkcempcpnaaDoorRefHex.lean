/-
  The contract of the twin's Hex.
-/
import Derived.Test.YtedibkcempcpnaaDoorFind
namespace Go.Proofs.YtedibkcempcpnaaDoor
open Go.RowKit
theorem take_byte (s : ByteArray) (k : Nat) (h : k < s.size) : s.data.toList.take (k + 1) = s.data.toList.take k ++ [UInt8.ofNat (byteAt s k)] := by
  have hl : s.data.toList.length = s.size := by simp
  rw [List.take_add_one, byteAt_get h]
  rfl
set_option maxRecDepth 20000 in
set_option maxHeartbeats 2000000 in
theorem refHex_any (s : ByteArray) (w : World) (hs : s.size ≤ 1048576) : Calls Tryd.prog 27 #[.string s] w fun e w' => e = .returned (.string ⟨(hexOf s.data.toList).toArray⟩) ∧ Below w.heap.size w w' := by
  obtain ⟨i0, hi, hz0, hz1, hz2⟩ := info_parts info5
  go_enter Tryd.func27, Tryd.ntmps27
  go_wp2_with fail
  go_loopw [3, 4] (fun v i wr => ∃ k : Nat, ∃ cur : List UInt8, k ≤ s.size ∧ i = .int .i64 k ∧ Hid (cur = hexOf (s.data.toList.take k)) ∧ wr.ownsRow w.heap.size 5 1 v cur.length (cellsOf cur) ∧ Below w.heap.size w wr) (fun _ i _ => s.size - (intOf i).toNat)
  case atStart => exact ⟨0, [], by omega, rfl, rfl, World.ownsRow_nil _ _ _ _, Below.refl _ _⟩
  case round =>
    obtain ⟨k, cur, hk, rfl, HC, hown, hb⟩ := hrel
    have hsz := hb.size
    obtain ⟨a, cap, rfl⟩ := form_of_row hown
    by_cases hlt : k < s.size
    · have HL' : Hid (cur.length = 2 * k) := by
        show _ = _
        rw [HC.out, hexOf_len, List.length_take]
        have : s.data.toList.length = s.size := by simp
        omega
      have r0 := fun W => run_byte s (i := k) (z := (k : Int)) rfl hlt W
      obtain ⟨x, hx⟩ : ∃ x, byteAt s k = x := ⟨_, rfl⟩
      have hxl : x < 256 := by rw [← hx]; exact byteAt_lt s k
      have HX : Hid (cur ++ [hexD (x / 16), hexD (x % 16)] = hexOf (s.data.toList.take (k + 1))) := by
        show _ = _
        rw [take_byte s k hlt, hexOf_append, HC.out, hx]
        show _ = _ ++ [hexD ((UInt8.ofNat x).toNat / 16), hexD ((UInt8.ofNat x).toNat % 16)]
        rw [UInt8.toNat_ofNat', show x % 2 ^ 8 = x from Nat.mod_eq_of_lt hxl]
      rw [hx] at r0
      obtain ⟨q1, hq1⟩ : ∃ q1, x / 16 = q1 := ⟨_, rfl⟩
      obtain ⟨q2, hq2⟩ : ∃ q2, x % 16 = q2 := ⟨_, rfl⟩
      have e1 : (x : Int).tdiv 16 = (q1 : Int) := by rw [Int.tdiv_eq_ediv_of_nonneg (by omega)]; omega
      have e2 : (x : Int).tmod 16 = (q2 : Int) := by rw [Int.tmod_eq_emod_of_nonneg (by omega)]; omega
      have e3 : (x : Int) / 16 = (q1 : Int) := by omega
      have e4 : (x : Int) % 16 = (q2 : Int) := by omega
      have l1 : q1 < 16 := by omega
      have l2 : q2 < 16 := by omega
      have e5 : IntKind.u8.wrap (q1 : Int) = (q1 : Int) := by rw [IntKind.wrap_u8]; omega
      have e6 : IntKind.u8.wrap (q2 : Int) = (q2 : Int) := by rw [IntKind.wrap_u8]; omega
      rw [hq1, hq2] at HX
      have r1 := fun W => run_hex l1 W
      have r2 := fun W => run_hex l2 W
      clear hq1 hq2 hx
      go_wp2_with fail
      go_region_law (refine step_append_own rfl (.tmp 11) (.tmp 22) 37 rfl w.heap.size 5 i0 (.int .u8 0) 1 1 Tryd.underlying37 hi hz0 hz1 hz2 rfl (by decide) _ _ _ rfl (hown.alloc _) ⟨wr.heap.size, 0, none⟩ 2 2 (cellsOf [hexD q1, hexD q2]) rfl rfl (new_cells _ (cellsOf [hexD q1, hexD q2]) _) (cellsOf_one _) (by have := HL'.out; unfold maxLen; omega) (by have := HL'.out; omega) (by simp; omega) ?_; intro v1 w5 hown1 hgrow)
      all_goals
        obtain ⟨a1, cap1, rfl⟩ := form_of_row hown1
        have HR : Hid (w5.ownsRow w.heap.size 5 1 (.slice a1 (cur.length + 2) cap1) (cur ++ [hexD q1, hexD q2]).length (cellsOf (cur ++ [hexD q1, hexD q2]))) := by
          rw [Hid, cellsOf_append, List.length_append]; exact hown1
        have HB : Hid (Below w.heap.size w w5) := (hb.alloc hsz _).grown (grownBy_undrew hgrow) (by simp; omega) (fun i hi => (hown.lt i hi).1)
        clear hown1 hgrow hown r1 r2
        go_wp2_with fail
        go_roundw
        case rel => exact ⟨k + 1, cur ++ [hexD q1, hexD q2], by omega, by go_num, HX.out, by first | exact HR.out | (rw [List.length_append]; have := HR.out; rw [List.length_append] at this; exact this), HB.out⟩
        case measure => simp [intOf]; omega
    · obtain rfl : k = s.size := by omega
      have hcv := conv_row hown
      have HC' : Hid (cur = hexOf s.data.toList) := by show _ = _; rw [HC.out, List.take_of_length_le (by simp)]
      go_wp2_with fail
      go_ret
      exact ⟨by rw [← HC'.out]; rfl, hb⟩
end Go.Proofs.YtedibkcempcpnaaDoor
