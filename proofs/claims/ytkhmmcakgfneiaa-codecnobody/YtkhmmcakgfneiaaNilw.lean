/-
  The contracts of a nil writer that is written to: nothing is done.
-/
import Derived.Test.YtkhmmcakgfneiaaAwake
namespace Go.Proofs.Ytkhmmcakgfneiaa
open Go.RowKit
section
variable {w : World}
theorem wtext_nil' (s : ByteArray) (hl : s.size ≤ 9223372036854775807) :
    Calls Try.prog 37 #[.pointer none, .string s] w fun r w' => r = .returned (.tuple #[]) ∧ w' = w := by
  go_enter Try.func37, Try.ntmps37
  go_wp2_with fail
  refine (varintWidth_any s.size _ (by omega)).mono ?_
  rintro e w1 ⟨rfl, rfl⟩
  go_wp2_with fail
  refine (room_nil _).mono ?_
  rintro e w2 ⟨rfl, rfl⟩
  go_wp2_with fail
  go_end0
  exact ⟨rfl, rfl⟩
theorem put8_nil (n : Int) : Calls Try.prog 55 #[.pointer none, .int .u8 n] w fun r w' => r = .returned (.tuple #[]) ∧ w' = w := by
  go_enter Try.func55, Try.ntmps55
  go_wp2_with (first | (go_at_call 59; refine (width8 _).mono ?_; rintro e w' ⟨rfl, rfl⟩) | (go_at_call 48; refine (room_nil _).mono ?_; rintro e w' ⟨rfl, rfl⟩))
  exact bodyPost_ret (results_none rfl _ _ _) rfl ⟨rfl, rfl⟩
theorem wu8_nil (n : Int) : Calls Try.prog 33 #[.pointer none, .int .u8 n] w fun r w' => r = .returned (.tuple #[]) ∧ w' = w := by
  go_enter Try.func33, Try.ntmps33
  go_wp2_with (go_at_call 55; refine (put8_nil _).mono ?_; rintro e w' ⟨rfl, rfl⟩)
  go_end0
  exact ⟨rfl, rfl⟩
theorem put16_nil (n : Int) : Calls Try.prog 56 #[.pointer none, .int .u16 n] w fun r w' => r = .returned (.tuple #[]) ∧ w' = w := by
  go_enter Try.func56, Try.ntmps56
  go_wp2_with (first | (go_at_call 60; refine (width16 _).mono ?_; rintro e w' ⟨rfl, rfl⟩) | (go_at_call 48; refine (room_nil _).mono ?_; rintro e w' ⟨rfl, rfl⟩))
  exact bodyPost_ret (results_none rfl _ _ _) rfl ⟨rfl, rfl⟩
theorem wu16_nil (n : Int) : Calls Try.prog 34 #[.pointer none, .int .u16 n] w fun r w' => r = .returned (.tuple #[]) ∧ w' = w := by
  go_enter Try.func34, Try.ntmps34
  go_wp2_with (go_at_call 56; refine (put16_nil _).mono ?_; rintro e w' ⟨rfl, rfl⟩)
  go_end0
  exact ⟨rfl, rfl⟩
theorem put32_nil (n : Int) : Calls Try.prog 57 #[.pointer none, .int .u32 n] w fun r w' => r = .returned (.tuple #[]) ∧ w' = w := by
  go_enter Try.func57, Try.ntmps57
  go_wp2_with (first | (go_at_call 61; refine (width32 _).mono ?_; rintro e w' ⟨rfl, rfl⟩) | (go_at_call 48; refine (room_nil _).mono ?_; rintro e w' ⟨rfl, rfl⟩))
  exact bodyPost_ret (results_none rfl _ _ _) rfl ⟨rfl, rfl⟩
theorem wu32_nil (n : Int) : Calls Try.prog 35 #[.pointer none, .int .u32 n] w fun r w' => r = .returned (.tuple #[]) ∧ w' = w := by
  go_enter Try.func35, Try.ntmps35
  go_wp2_with (go_at_call 57; refine (put32_nil _).mono ?_; rintro e w' ⟨rfl, rfl⟩)
  go_end0
  exact ⟨rfl, rfl⟩
theorem put64_nil (n : Int) : Calls Try.prog 58 #[.pointer none, .int .u64 n] w fun r w' => r = .returned (.tuple #[]) ∧ w' = w := by
  go_enter Try.func58, Try.ntmps58
  go_wp2_with (first | (go_at_call 62; refine (width64 _).mono ?_; rintro e w' ⟨rfl, rfl⟩) | (go_at_call 48; refine (room_nil _).mono ?_; rintro e w' ⟨rfl, rfl⟩))
  exact bodyPost_ret (results_none rfl _ _ _) rfl ⟨rfl, rfl⟩
theorem wu64_nil (n : Int) : Calls Try.prog 36 #[.pointer none, .int .u64 n] w fun r w' => r = .returned (.tuple #[]) ∧ w' = w := by
  go_enter Try.func36, Try.ntmps36
  go_wp2_with (go_at_call 58; refine (put64_nil _).mono ?_; rintro e w' ⟨rfl, rfl⟩)
  go_end0
  exact ⟨rfl, rfl⟩
end
set_option maxHeartbeats 1000000 in
theorem write_nil (kd : Int) (n : Nat) (s : ByteArray) (w : World) (hn : n < 18446744073709551616) (hs : s.size ≤ 9223372036854775807) :
    Calls Try.prog 9 #[.pointer none, .agg #[.int .i64 kd, .int .u64 n, .string s]] w fun r w' => r = .returned (.tuple #[]) ∧ Below w.heap.size w w' := by
  go_enter Try.func9, Try.ntmps9
  go_wp2_with (first
    | (go_at_call 33; refine (wu8_nil _).mono ?_; rintro e w' ⟨rfl, rfl⟩)
    | (go_at_call 34; refine (wu16_nil _).mono ?_; rintro e w' ⟨rfl, rfl⟩)
    | (go_at_call 35; refine (wu32_nil _).mono ?_; rintro e w' ⟨rfl, rfl⟩)
    | (go_at_call 36; refine (wu64_nil _).mono ?_; rintro e w' ⟨rfl, rfl⟩)
    | (go_at_call 28; refine (wvarint_nil n hn).mono ?_; rintro e w' ⟨rfl, rfl⟩)
    | (go_at_call 37; refine (wtext_nil' s hs).mono ?_; rintro e w' ⟨rfl, rfl⟩)
    | (go_at_call 38; refine (wraw_nil s).mono ?_; rintro e w' ⟨rfl, rfl⟩))
  all_goals (go_end0; exact ⟨rfl, (Below.refl _ _).alloc (Nat.le_refl _) _⟩)
end Go.Proofs.Ytkhmmcakgfneiaa
