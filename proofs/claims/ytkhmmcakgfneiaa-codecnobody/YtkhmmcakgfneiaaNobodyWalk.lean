/-
  The walk of CodecNobody: whatever the write, the call returns true, and turns nothing that was there.
-/
import Derived.Test.YtkhmmcakgfneiaaNilw
namespace Go.Proofs.Ytkhmmcakgfneiaa
open Go.RowKit
theorem wrap64_bd (x : Int) : -9223372036854775808 ≤ wrap64 x ∧ wrap64 x ≤ 9223372036854775807 := by unfold wrap64; omega
set_option maxRecDepth 100000 in
set_option maxHeartbeats 2000000 in
theorem nobody_walk (kd : Int) (n : Nat) (s : ByteArray) (w : World) (hn : n < 18446744073709551616) (hs : s.size ≤ 9223372036854775807) :
    Calls Try.prog 3 #[.agg #[.int .i64 kd, .int .u64 n, .string s]] w fun r w' => r = .returned (.bool true) ∧ Below w.heap.size w w' := by
  go_enter Try.func3, Try.ntmps3
  go_wp2_with fail
  refine (write_nil kd n s _ hn hs).mono ?_
  rintro e w1 ⟨rfl, b1⟩
  go_wp2_with fail
  refine (wdone_nil).mono ?_
  rintro e w2 ⟨rfl, rfl⟩
  go_wp2_with fail
  refine (awake_any _).mono ?_
  rintro e w3 ⟨rfl, b3⟩
  have hz : w.heap.size < w2.heap.size := by have := b1.size; simp at this; omega
  have c1 : w3.cell? ⟨w.heap.size, 1, none⟩ = some (.int .u64 n) := by
    rw [b3.cell (p := ⟨w.heap.size, 1, none⟩) hz, b1.cell (p := ⟨w.heap.size, 1, none⟩) (by simp)]
    simp [go_sem]
  go_wp2_with (first
    | (go_at_call 12; refine (wlen_nil).mono ?_; rintro e w' ⟨rfl, rfl⟩)
    | (go_at_call 13; refine (u8_nil _).mono ?_; rintro e w' ⟨rfl, rfl⟩)
    | (go_at_call 14; refine (u16_nil _).mono ?_; rintro e w' ⟨rfl, rfl⟩)
    | (go_at_call 15; refine (u32_nil _).mono ?_; rintro e w' ⟨rfl, rfl⟩)
    | (go_at_call 16; refine (u64_nil _).mono ?_; rintro e w' ⟨rfl, rfl⟩)
    | (go_at_call 17; refine (varint_nil _).mono ?_; rintro e w' ⟨rfl, rfl⟩)
    | (go_at_call 18; refine (text_nil _).mono ?_; rintro e w' ⟨rfl, rfl⟩))
  refine (raw_nil _ _ (wrap64_bd n).1 (wrap64_bd n).2).mono ?_
  rintro e w4 ⟨rfl, rfl⟩
  go_wp2_with (first
    | (go_at_call 20; refine (left_nil _).mono ?_; rintro e w' ⟨rfl, rfl⟩)
    | (go_at_call 21; refine (err_nil _).mono ?_; rintro e w' ⟨rfl, rfl⟩)
    | (go_at_call 22; refine (rdone_nil _).mono ?_; rintro e w' ⟨rfl, rfl⟩))
  go_ret
  exact ⟨rfl, (((Below.refl _ _).alloc (Nat.le_refl _) _).trans (b1.mono (by simp))).trans (b3.mono (by omega))⟩
end Go.Proofs.Ytkhmmcakgfneiaa
