/-
  The contract of find: the fragment behind so many bytes of a log, or how the log ends.
-/
import Derived.Test.YtefigcnfcbdecaaSmall
import Derived.Laws.CopyOwn
import Derived.Deep.RegionWith
import Derived.Deep.Cut
import Derived.Stop.BytesEq
namespace Go.Proofs.Ytefigcnfcbdecaa
open Go.RowKit
def errV (e : Nat) : Value := .tuple #[.agg #[.int .u8 0, .slice none 0 0, .int .i64 0], .int .i64 (e : Nat)]
theorem szOf5 (W : World) : (sizeOf 5).run Try.prog W = .ok 1 W := by kernel_rfl
theorem eq7 (x0 x1 x2 x3 x4 x5 x6 y0 y1 y2 y3 y4 y5 y6 : UInt8) (W : World) : (Op.equalIn 10000 71 (.agg #[.int .u8 x0.toNat, .int .u8 x1.toNat, .int .u8 x2.toNat, .int .u8 x3.toNat, .int .u8 x4.toNat, .int .u8 x5.toNat, .int .u8 x6.toNat]) (.agg #[.int .u8 y0.toNat, .int .u8 y1.toNat, .int .u8 y2.toNat, .int .u8 y3.toNat, .int .u8 y4.toNat, .int .u8 y5.toNat, .int .u8 y6.toNat])).run Try.prog W = .ok ([x0, x1, x2, x3, x4, x5, x6] == [y0, y1, y2, y3, y4, y5, y6]) W :=
  run_equalIn_bytes W 9998 71 5 7 Try.underlying71 Try.underlying5 szOf5 [x0, x1, x2, x3, x4, x5, x6] [y0, y1, y2, y3, y4, y5, y6] rfl rfl
theorem size5 : (Try.prog.info? 5).map (·.size) = some 1 := by kernel_rfl
theorem setRow_alloc_new (W : World) (c cs : Array Value) (t : TypeId) : (W.alloc (.cells c t)).setRow W.heap.size cs = W.alloc (.cells cs t) := by
  have hh : ((W.alloc (.cells c t)).setRow W.heap.size cs).heap = (W.alloc (.cells cs t)).heap := by
    apply Array.ext_getElem?
    intro i
    by_cases hi : i = W.heap.size
    · subst hi
      rw [setRow_heap _ _ _ _ _ _ (World.alloc_heap_new W _)]
      exact (World.alloc_heap_new W _).symm
    · rw [setRow_other _ _ _ _ hi]
      by_cases hl : i < W.heap.size
      · rw [Below.heap_alloc _ _ _ hl, Below.heap_alloc _ _ _ hl]
      · rw [Array.getElem?_eq_none (by simp; omega), Array.getElem?_eq_none (by simp; omega)]
  have e : (W.alloc (.cells c t)).setRow W.heap.size cs = { (W.alloc (.cells cs t)) with heap := ((W.alloc (.cells c t)).setRow W.heap.size cs).heap } := rfl
  rw [e, hh]
def z7 : Array Value := #[.int .u8 0, .int .u8 0, .int .u8 0, .int .u8 0, .int .u8 0, .int .u8 0, .int .u8 0]
theorem copy7 (W : World) (src : Addr) (R C : Nat) (_hR : 7 ≤ R) (x0 x1 x2 x3 x4 x5 x6 : UInt8) (hx : ∀ j v, [u8v x0, u8v x1, u8v x2, u8v x3, u8v x4, u8v x5, u8v x6][j]? = some v → (W.alloc (.cells z7 71)).cell? (src.add j) = some v) :
    (Builtin.copy_ #[33, 33] 3 #[.slice (some ⟨W.heap.size, 0, none⟩) 7 7, .slice (some src) R C]).run Try.prog (W.alloc (.cells z7 71)) = .ok (.int .i64 7) (W.alloc (.cells #[u8v x0, u8v x1, u8v x2, u8v x3, u8v x4, u8v x5, u8v x6] 71)) := by
  have h := run_copy_row (P := Try.prog) (W.alloc (.cells z7 71)) 33 33 3 5 W.heap.size 0 7 7 src R C z7 71 [u8v x0, u8v x1, u8v x2, u8v x3, u8v x4, u8v x5, u8v x6] Try.underlying33 size5 (World.alloc_heap_new _ _) (by show 7 = min R 7; omega) hx (by show 0 + 7 ≤ 7; omega) (by intro v hv; simp at hv; rcases hv with rfl | rfl | rfl | rfl | rfl | rfl | rfl <;> rfl)
  rw [setRow_alloc_new] at h
  exact h
theorem i64_or_nat (a b : Nat) (ha : a < 9223372036854775808) (hb : b < 9223372036854775808) : bits .or .i64 (a : Int) (b : Int) = ((a ||| b : Nat) : Int) := by
  have hx : a ||| b < 2 ^ 63 := Nat.or_lt_two_pow (by omega) (by omega)
  show IntKind.i64.wrap ((BitVec.ofInt 64 (a : Int) ||| BitVec.ofInt 64 (b : Int)).toNat : Int) = _
  rw [BitVec.toNat_or, ofInt_u64 a (by omega), ofInt_u64 b (by omega), IntKind.wrap_i64]
  omega
theorem or_bytes (a b : UInt8) : bits BinOp.or IntKind.i64 (wrap64 (wrap64 (a.toNat : Int) * 256)) (wrap64 (b.toNat : Int)) = ((a.toNat * 256 + b.toNat : Nat) : Int) := by
  have ha := UInt8.toNat_lt a
  have hb := UInt8.toNat_lt b
  have w1 : wrap64 (a.toNat : Int) = (a.toNat : Int) := by unfold wrap64; omega
  have w2 : wrap64 (b.toNat : Int) = (b.toNat : Int) := by unfold wrap64; omega
  have w3 : wrap64 ((a.toNat : Int) * 256) = (a.toNat : Int) * 256 := by unfold wrap64; omega
  rw [w1, w2, w3]
  have h := i64_or_nat (a.toNat * 256) b.toNat (by omega) (by omega)
  rw [show ((a.toNat * 256 : Nat) : Int) = (a.toNat : Int) * 256 from by omega] at h
  rw [h, show a.toNat * 256 = 2 ^ 8 * a.toNat by omega, ← Nat.two_pow_add_eq_or_of_lt (i := 8) hb]
end Go.Proofs.Ytefigcnfcbdecaa
