/-
  The contract of ror: a word turned right by n bits.
-/
import Derived.Test.YtedibkcempcpnaaDoorBase
import Derived.Deep.QuietTactic
import Derived.BigQuiet
namespace Go.Proofs.YtedibkcempcpnaaDoor
open Go.RowKit
/-- A word turned right by n bits. -/
def rorN (n x : Nat) : Nat := (x * 2 ^ (32 - n)) % 4294967296 ||| x / 2 ^ n
theorem rorN_lt {n x : Nat} (hx : x < 4294967296) : rorN n x < 4294967296 :=
  Nat.or_lt_two_pow (n := 32) (Nat.mod_lt _ (by decide)) (Nat.lt_of_le_of_lt (Nat.div_le_self _ _) hx)
theorem ror_form {x a b n : Nat} (hx : x < 4294967296) (ha : a = 2 ^ (32 - n)) (hb : b = 2 ^ n) : bits BinOp.or IntKind.u32 ((x : Int) * (a : Int) % 4294967296) ((x : Int) / (b : Int)) = ((rorN n x : Nat) : Int) := by
  have e1 : (x : Int) * (a : Int) % 4294967296 = ((x * a % 4294967296 : Nat) : Int) := by rw [Int.natCast_emod, Int.natCast_mul]; rfl
  have e2 : (x : Int) / (b : Int) = ((x / b : Nat) : Int) := by rw [Int.natCast_ediv]
  rw [e1, e2, u32_or_nat _ _ (Nat.mod_lt _ (by decide)) (Nat.lt_of_le_of_lt (Nat.div_le_self _ _) hx), ha, hb]
  rfl
theorem ror_form' {x a b n : Nat} (hx : x < 4294967296) (ha : a = 2 ^ (32 - n)) (hb : b = 2 ^ n) : bits BinOp.or IntKind.u32 ((x : Int) / (b : Int)) ((x : Int) * (a : Int) % 4294967296) = ((rorN n x : Nat) : Int) := by
  have e1 : (x : Int) * (a : Int) % 4294967296 = ((x * a % 4294967296 : Nat) : Int) := by rw [Int.natCast_emod, Int.natCast_mul]; rfl
  have e2 : (x : Int) / (b : Int) = ((x / b : Nat) : Int) := by rw [Int.natCast_ediv]
  rw [e1, e2, u32_or_nat _ _ (Nat.lt_of_le_of_lt (Nat.div_le_self _ _) hx) (Nat.mod_lt _ (by decide)), ha, hb, Nat.or_comm]
  rfl
theorem rot7 {x : Nat} (hx : x < 4294967296) (w : World) : Calls Tryd.prog 81 #[.int .u32 x, .int .i64 (-7)] w fun e w' => e = .returned (.int .u32 (rorN 7 x)) ∧ w' = w := by
  have h1 : bits BinOp.and IntKind.u64 (IntKind.u64.wrap (-7)) 31 = 25 := by decide +kernel
  go_enter Tryd.func81, Tryd.ntmps81
  go_wp2
  go_ret
  exact ⟨ret_int (ror_form (a := 33554432) (b := 128) hx rfl rfl), rfl⟩
theorem ror7 {x : Nat} (hx : x < 4294967296) (w : World) : Calls Tryd.prog 70 #[.int .u32 x, .int .i64 7] w fun e w' => e = .returned (.int .u32 (rorN 7 x)) ∧ w' = w := by
  go_enter Tryd.func70, Tryd.ntmps70
  go_wp2_with (go_at_call 81; refine (rot7 hx _).mono ?_; rintro e w' ⟨rfl, rfl⟩)
  go_ret
  exact ⟨rfl, rfl⟩
theorem xror7 {x : Nat} (hx : x < 4294967296) (w : World) : Calls Tryd.prog 72 #[.int .u32 x, .int .i64 7] w fun e w' => e = .returned (.int .u32 (rorN 7 x)) ∧ ∃ m, w' = w.drewN m := by
  go_enter Tryd.func72, Tryd.ntmps72
  go_wp2
  go_quiet (fail)
  go_wp2
  go_ret
  exact ⟨ret_int (ror_form' (a := 33554432) (b := 128) hx rfl rfl), _, rfl⟩
theorem rot18 {x : Nat} (hx : x < 4294967296) (w : World) : Calls Tryd.prog 81 #[.int .u32 x, .int .i64 (-18)] w fun e w' => e = .returned (.int .u32 (rorN 18 x)) ∧ w' = w := by
  have h1 : bits BinOp.and IntKind.u64 (IntKind.u64.wrap (-18)) 31 = 14 := by decide +kernel
  go_enter Tryd.func81, Tryd.ntmps81
  go_wp2
  go_ret
  exact ⟨ret_int (ror_form (a := 16384) (b := 262144) hx rfl rfl), rfl⟩
theorem ror18 {x : Nat} (hx : x < 4294967296) (w : World) : Calls Tryd.prog 70 #[.int .u32 x, .int .i64 18] w fun e w' => e = .returned (.int .u32 (rorN 18 x)) ∧ w' = w := by
  go_enter Tryd.func70, Tryd.ntmps70
  go_wp2_with (go_at_call 81; refine (rot18 hx _).mono ?_; rintro e w' ⟨rfl, rfl⟩)
  go_ret
  exact ⟨rfl, rfl⟩
theorem xror18 {x : Nat} (hx : x < 4294967296) (w : World) : Calls Tryd.prog 72 #[.int .u32 x, .int .i64 18] w fun e w' => e = .returned (.int .u32 (rorN 18 x)) ∧ ∃ m, w' = w.drewN m := by
  go_enter Tryd.func72, Tryd.ntmps72
  go_wp2
  go_quiet (fail)
  go_wp2
  go_ret
  exact ⟨ret_int (ror_form' (a := 16384) (b := 262144) hx rfl rfl), _, rfl⟩
theorem rot17 {x : Nat} (hx : x < 4294967296) (w : World) : Calls Tryd.prog 81 #[.int .u32 x, .int .i64 (-17)] w fun e w' => e = .returned (.int .u32 (rorN 17 x)) ∧ w' = w := by
  have h1 : bits BinOp.and IntKind.u64 (IntKind.u64.wrap (-17)) 31 = 15 := by decide +kernel
  go_enter Tryd.func81, Tryd.ntmps81
  go_wp2
  go_ret
  exact ⟨ret_int (ror_form (a := 32768) (b := 131072) hx rfl rfl), rfl⟩
theorem ror17 {x : Nat} (hx : x < 4294967296) (w : World) : Calls Tryd.prog 70 #[.int .u32 x, .int .i64 17] w fun e w' => e = .returned (.int .u32 (rorN 17 x)) ∧ w' = w := by
  go_enter Tryd.func70, Tryd.ntmps70
  go_wp2_with (go_at_call 81; refine (rot17 hx _).mono ?_; rintro e w' ⟨rfl, rfl⟩)
  go_ret
  exact ⟨rfl, rfl⟩
theorem xror17 {x : Nat} (hx : x < 4294967296) (w : World) : Calls Tryd.prog 72 #[.int .u32 x, .int .i64 17] w fun e w' => e = .returned (.int .u32 (rorN 17 x)) ∧ ∃ m, w' = w.drewN m := by
  go_enter Tryd.func72, Tryd.ntmps72
  go_wp2
  go_quiet (fail)
  go_wp2
  go_ret
  exact ⟨ret_int (ror_form' (a := 32768) (b := 131072) hx rfl rfl), _, rfl⟩
theorem rot19 {x : Nat} (hx : x < 4294967296) (w : World) : Calls Tryd.prog 81 #[.int .u32 x, .int .i64 (-19)] w fun e w' => e = .returned (.int .u32 (rorN 19 x)) ∧ w' = w := by
  have h1 : bits BinOp.and IntKind.u64 (IntKind.u64.wrap (-19)) 31 = 13 := by decide +kernel
  go_enter Tryd.func81, Tryd.ntmps81
  go_wp2
  go_ret
  exact ⟨ret_int (ror_form (a := 8192) (b := 524288) hx rfl rfl), rfl⟩
theorem ror19 {x : Nat} (hx : x < 4294967296) (w : World) : Calls Tryd.prog 70 #[.int .u32 x, .int .i64 19] w fun e w' => e = .returned (.int .u32 (rorN 19 x)) ∧ w' = w := by
  go_enter Tryd.func70, Tryd.ntmps70
  go_wp2_with (go_at_call 81; refine (rot19 hx _).mono ?_; rintro e w' ⟨rfl, rfl⟩)
  go_ret
  exact ⟨rfl, rfl⟩
theorem xror19 {x : Nat} (hx : x < 4294967296) (w : World) : Calls Tryd.prog 72 #[.int .u32 x, .int .i64 19] w fun e w' => e = .returned (.int .u32 (rorN 19 x)) ∧ ∃ m, w' = w.drewN m := by
  go_enter Tryd.func72, Tryd.ntmps72
  go_wp2
  go_quiet (fail)
  go_wp2
  go_ret
  exact ⟨ret_int (ror_form' (a := 8192) (b := 524288) hx rfl rfl), _, rfl⟩
theorem rot6 {x : Nat} (hx : x < 4294967296) (w : World) : Calls Tryd.prog 81 #[.int .u32 x, .int .i64 (-6)] w fun e w' => e = .returned (.int .u32 (rorN 6 x)) ∧ w' = w := by
  have h1 : bits BinOp.and IntKind.u64 (IntKind.u64.wrap (-6)) 31 = 26 := by decide +kernel
  go_enter Tryd.func81, Tryd.ntmps81
  go_wp2
  go_ret
  exact ⟨ret_int (ror_form (a := 67108864) (b := 64) hx rfl rfl), rfl⟩
theorem ror6 {x : Nat} (hx : x < 4294967296) (w : World) : Calls Tryd.prog 70 #[.int .u32 x, .int .i64 6] w fun e w' => e = .returned (.int .u32 (rorN 6 x)) ∧ w' = w := by
  go_enter Tryd.func70, Tryd.ntmps70
  go_wp2_with (go_at_call 81; refine (rot6 hx _).mono ?_; rintro e w' ⟨rfl, rfl⟩)
  go_ret
  exact ⟨rfl, rfl⟩
theorem xror6 {x : Nat} (hx : x < 4294967296) (w : World) : Calls Tryd.prog 72 #[.int .u32 x, .int .i64 6] w fun e w' => e = .returned (.int .u32 (rorN 6 x)) ∧ ∃ m, w' = w.drewN m := by
  go_enter Tryd.func72, Tryd.ntmps72
  go_wp2
  go_quiet (fail)
  go_wp2
  go_ret
  exact ⟨ret_int (ror_form' (a := 67108864) (b := 64) hx rfl rfl), _, rfl⟩
theorem rot11 {x : Nat} (hx : x < 4294967296) (w : World) : Calls Tryd.prog 81 #[.int .u32 x, .int .i64 (-11)] w fun e w' => e = .returned (.int .u32 (rorN 11 x)) ∧ w' = w := by
  have h1 : bits BinOp.and IntKind.u64 (IntKind.u64.wrap (-11)) 31 = 21 := by decide +kernel
  go_enter Tryd.func81, Tryd.ntmps81
  go_wp2
  go_ret
  exact ⟨ret_int (ror_form (a := 2097152) (b := 2048) hx rfl rfl), rfl⟩
theorem ror11 {x : Nat} (hx : x < 4294967296) (w : World) : Calls Tryd.prog 70 #[.int .u32 x, .int .i64 11] w fun e w' => e = .returned (.int .u32 (rorN 11 x)) ∧ w' = w := by
  go_enter Tryd.func70, Tryd.ntmps70
  go_wp2_with (go_at_call 81; refine (rot11 hx _).mono ?_; rintro e w' ⟨rfl, rfl⟩)
  go_ret
  exact ⟨rfl, rfl⟩
theorem xror11 {x : Nat} (hx : x < 4294967296) (w : World) : Calls Tryd.prog 72 #[.int .u32 x, .int .i64 11] w fun e w' => e = .returned (.int .u32 (rorN 11 x)) ∧ ∃ m, w' = w.drewN m := by
  go_enter Tryd.func72, Tryd.ntmps72
  go_wp2
  go_quiet (fail)
  go_wp2
  go_ret
  exact ⟨ret_int (ror_form' (a := 2097152) (b := 2048) hx rfl rfl), _, rfl⟩
theorem rot25 {x : Nat} (hx : x < 4294967296) (w : World) : Calls Tryd.prog 81 #[.int .u32 x, .int .i64 (-25)] w fun e w' => e = .returned (.int .u32 (rorN 25 x)) ∧ w' = w := by
  have h1 : bits BinOp.and IntKind.u64 (IntKind.u64.wrap (-25)) 31 = 7 := by decide +kernel
  go_enter Tryd.func81, Tryd.ntmps81
  go_wp2
  go_ret
  exact ⟨ret_int (ror_form (a := 128) (b := 33554432) hx rfl rfl), rfl⟩
theorem ror25 {x : Nat} (hx : x < 4294967296) (w : World) : Calls Tryd.prog 70 #[.int .u32 x, .int .i64 25] w fun e w' => e = .returned (.int .u32 (rorN 25 x)) ∧ w' = w := by
  go_enter Tryd.func70, Tryd.ntmps70
  go_wp2_with (go_at_call 81; refine (rot25 hx _).mono ?_; rintro e w' ⟨rfl, rfl⟩)
  go_ret
  exact ⟨rfl, rfl⟩
theorem xror25 {x : Nat} (hx : x < 4294967296) (w : World) : Calls Tryd.prog 72 #[.int .u32 x, .int .i64 25] w fun e w' => e = .returned (.int .u32 (rorN 25 x)) ∧ ∃ m, w' = w.drewN m := by
  go_enter Tryd.func72, Tryd.ntmps72
  go_wp2
  go_quiet (fail)
  go_wp2
  go_ret
  exact ⟨ret_int (ror_form' (a := 128) (b := 33554432) hx rfl rfl), _, rfl⟩
theorem rot2 {x : Nat} (hx : x < 4294967296) (w : World) : Calls Tryd.prog 81 #[.int .u32 x, .int .i64 (-2)] w fun e w' => e = .returned (.int .u32 (rorN 2 x)) ∧ w' = w := by
  have h1 : bits BinOp.and IntKind.u64 (IntKind.u64.wrap (-2)) 31 = 30 := by decide +kernel
  go_enter Tryd.func81, Tryd.ntmps81
  go_wp2
  go_ret
  exact ⟨ret_int (ror_form (a := 1073741824) (b := 4) hx rfl rfl), rfl⟩
theorem ror2 {x : Nat} (hx : x < 4294967296) (w : World) : Calls Tryd.prog 70 #[.int .u32 x, .int .i64 2] w fun e w' => e = .returned (.int .u32 (rorN 2 x)) ∧ w' = w := by
  go_enter Tryd.func70, Tryd.ntmps70
  go_wp2_with (go_at_call 81; refine (rot2 hx _).mono ?_; rintro e w' ⟨rfl, rfl⟩)
  go_ret
  exact ⟨rfl, rfl⟩
theorem xror2 {x : Nat} (hx : x < 4294967296) (w : World) : Calls Tryd.prog 72 #[.int .u32 x, .int .i64 2] w fun e w' => e = .returned (.int .u32 (rorN 2 x)) ∧ ∃ m, w' = w.drewN m := by
  go_enter Tryd.func72, Tryd.ntmps72
  go_wp2
  go_quiet (fail)
  go_wp2
  go_ret
  exact ⟨ret_int (ror_form' (a := 1073741824) (b := 4) hx rfl rfl), _, rfl⟩
theorem rot13 {x : Nat} (hx : x < 4294967296) (w : World) : Calls Tryd.prog 81 #[.int .u32 x, .int .i64 (-13)] w fun e w' => e = .returned (.int .u32 (rorN 13 x)) ∧ w' = w := by
  have h1 : bits BinOp.and IntKind.u64 (IntKind.u64.wrap (-13)) 31 = 19 := by decide +kernel
  go_enter Tryd.func81, Tryd.ntmps81
  go_wp2
  go_ret
  exact ⟨ret_int (ror_form (a := 524288) (b := 8192) hx rfl rfl), rfl⟩
theorem ror13 {x : Nat} (hx : x < 4294967296) (w : World) : Calls Tryd.prog 70 #[.int .u32 x, .int .i64 13] w fun e w' => e = .returned (.int .u32 (rorN 13 x)) ∧ w' = w := by
  go_enter Tryd.func70, Tryd.ntmps70
  go_wp2_with (go_at_call 81; refine (rot13 hx _).mono ?_; rintro e w' ⟨rfl, rfl⟩)
  go_ret
  exact ⟨rfl, rfl⟩
theorem xror13 {x : Nat} (hx : x < 4294967296) (w : World) : Calls Tryd.prog 72 #[.int .u32 x, .int .i64 13] w fun e w' => e = .returned (.int .u32 (rorN 13 x)) ∧ ∃ m, w' = w.drewN m := by
  go_enter Tryd.func72, Tryd.ntmps72
  go_wp2
  go_quiet (fail)
  go_wp2
  go_ret
  exact ⟨ret_int (ror_form' (a := 524288) (b := 8192) hx rfl rfl), _, rfl⟩
theorem rot22 {x : Nat} (hx : x < 4294967296) (w : World) : Calls Tryd.prog 81 #[.int .u32 x, .int .i64 (-22)] w fun e w' => e = .returned (.int .u32 (rorN 22 x)) ∧ w' = w := by
  have h1 : bits BinOp.and IntKind.u64 (IntKind.u64.wrap (-22)) 31 = 10 := by decide +kernel
  go_enter Tryd.func81, Tryd.ntmps81
  go_wp2
  go_ret
  exact ⟨ret_int (ror_form (a := 1024) (b := 4194304) hx rfl rfl), rfl⟩
theorem ror22 {x : Nat} (hx : x < 4294967296) (w : World) : Calls Tryd.prog 70 #[.int .u32 x, .int .i64 22] w fun e w' => e = .returned (.int .u32 (rorN 22 x)) ∧ w' = w := by
  go_enter Tryd.func70, Tryd.ntmps70
  go_wp2_with (go_at_call 81; refine (rot22 hx _).mono ?_; rintro e w' ⟨rfl, rfl⟩)
  go_ret
  exact ⟨rfl, rfl⟩
theorem xror22 {x : Nat} (hx : x < 4294967296) (w : World) : Calls Tryd.prog 72 #[.int .u32 x, .int .i64 22] w fun e w' => e = .returned (.int .u32 (rorN 22 x)) ∧ ∃ m, w' = w.drewN m := by
  go_enter Tryd.func72, Tryd.ntmps72
  go_wp2
  go_quiet (fail)
  go_wp2
  go_ret
  exact ⟨ret_int (ror_form' (a := 1024) (b := 4194304) hx rfl rfl), _, rfl⟩
end Go.Proofs.YtedibkcempcpnaaDoor
