/-
  The contracts of Mix and of its twin: whatever the number, the same one is told.
-/
import Derived.Test.YtoopgddhkdekmaaCrc
import Derived.Laws.Bits64
namespace Go.Proofs.Ytoopgddhkdekmaa
open Go.RowKit
/-- A number, mixed. -/
def mixA (x : Nat) : Nat := (x ^^^ x / 1073741824) * 13787848793156543929 % 18446744073709551616
def mixB (x : Nat) : Nat := (x ^^^ x / 134217728) * 10723151780598845931 % 18446744073709551616
def mixC (x : Nat) : Nat := x ^^^ x / 2147483648
def mixN (x : Nat) : Nat := mixC (mixB (mixA x))
theorem mixA_lt (x : Nat) : mixA x < 18446744073709551616 := Nat.mod_lt _ (by decide)
theorem mixB_lt (x : Nat) : mixB x < 18446744073709551616 := Nat.mod_lt _ (by decide)
theorem mixC_lt {x : Nat} (h : x < 18446744073709551616) : mixC x < 18446744073709551616 := Nat.xor_lt_two_pow (n := 64) (by omega) (by omega)
theorem mixN_lt (x : Nat) : mixN x < 18446744073709551616 := mixC_lt (mixB_lt _)
theorem mixA_run {x : Nat} (h : x < 18446744073709551616) : IntKind.u64.wrap (bits BinOp.xor IntKind.u64 (x : Int) ((x : Int) / 1073741824) * 13787848793156543929) = (mixA x : Int) := by
  have e := xorShift_u64 x 1073741824 h
  rw [show ((1073741824 : Nat) : Int) = 1073741824 from rfl] at e
  rw [e, IntKind.wrap_u64]
  unfold mixA
  omega
theorem mixB_run {x : Nat} (h : x < 18446744073709551616) : IntKind.u64.wrap (bits BinOp.xor IntKind.u64 (x : Int) ((x : Int) / 134217728) * 10723151780598845931) = (mixB x : Int) := by
  have e := xorShift_u64 x 134217728 h
  rw [show ((134217728 : Nat) : Int) = 134217728 from rfl] at e
  rw [e, IntKind.wrap_u64]
  unfold mixB
  omega
theorem mixC_run {x : Nat} (h : x < 18446744073709551616) : bits BinOp.xor IntKind.u64 (x : Int) ((x : Int) / 2147483648) = (mixC x : Int) := by
  have e := xorShift_u64 x 2147483648 h
  rw [show ((2147483648 : Nat) : Int) = 2147483648 from rfl] at e
  rw [e]
  rfl
theorem mix_any (x : Nat) (w : World) (hx : x < 18446744073709551616) : Calls Try.prog 68 #[.int .u64 x] w fun r w' => r = .returned (.int .u64 (mixN x)) ∧ w' = w := by
  have h1 := mixA_run hx
  have h2 := mixB_run (mixA_lt x)
  have h3 := mixC_run (mixB_lt (mixA x))
  go_enter Try.func68, Try.ntmps68
  go_wp2
  go_ret
  exact ⟨rfl, rfl⟩
theorem rmix_any (x : Nat) (w : World) (hx : x < 18446744073709551616) : Calls Try.prog 69 #[.int .u64 x] w fun r w' => r = .returned (.int .u64 (mixN x)) ∧ w' = w := by
  have h1 := mixA_run hx
  have h2 := mixB_run (mixA_lt x)
  have h3 := mixC_run (mixB_lt (mixA x))
  go_enter Try.func69, Try.ntmps69
  go_wp2
  go_ret
  exact ⟨rfl, rfl⟩
end Go.Proofs.Ytoopgddhkdekmaa
