/-
  MergeOrders, with what is called ahead.
-/
import Derived.Test.YtohamjoiohfoiaaMOrd
import Derived.Test.YtohamjoiohfoiaaAwake
namespace Go.Proofs.Ytohamjoiohfoiaa
open Go.RowKit
theorem morders_any (p q : Cl) (a : Option Addr) (m cp : Nat) (l : List Cl) (w : World) (hca : CA w.heap.size w a l) (hl : l.length = m) (hmx : m < 1000000000000000) :
    Calls Try.prog 3 #[.agg #[.string p.key, .int .u64 (p.seq : Nat), .string p.val, .bool p.gone], .agg #[.string q.key, .int .u64 (q.seq : Nat), .string q.val, .bool q.gone], .slice a m cp] w fun r w' => r = .returned (.bool true) ∧ Below w.heap.size w w' :=
  morders_gen p.key p.val q.key q.val p.seq q.seq p.gone q.gone a m cp l w (lessC p q) (lessC q p) (sortedC l) rfl rfl rfl (by
    cases h : lessC p q with
    | false => rfl
    | true => rw [lessC_asym h]; rfl) awake_any hca hl hmx
end Go.Proofs.Ytohamjoiohfoiaa
