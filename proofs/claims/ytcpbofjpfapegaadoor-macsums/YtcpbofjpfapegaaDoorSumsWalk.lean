/-
  The walk of MacSums: a text's sum is the twin's.
-/
import Derived.Test.YtcpbofjpfapegaaDoorRefSum
import Derived.Test.YtcpbofjpfapegaaDoorAwake
namespace Go.Proofs.YtcpbofjpfapegaaDoor
open Go.RowKit
theorem sums_walk (s : ByteArray) (w : World) (hK : GK w) (hs : s.size ≤ 140737488351232) :
    Calls Tryd.prog 3 #[.string s] w fun e w' => e = .returned (.bool true) ∧ Below w.heap.size w w' := by
  have HK : Hid (GK w) := hK
  clear hK
  go_enter Tryd.func3, Tryd.ntmps3
  go_wp2_with fail
  refine (awake_any w HK.out).mono ?_
  rintro e1 w1 ⟨rfl, B1⟩
  have HK1 : Hid (GK w1) := HK.out.below B1
  have z1 := B1.size
  go_wp2_with fail
  refine (sum_any s w1 HK1.out (by omega)).mono ?_
  rintro e2 w2 ⟨rfl, B2⟩
  have z2 := B2.size
  go_wp2_with fail
  refine (refSum_any s w2 hs).mono ?_
  rintro e3 w3 ⟨rfl, B3⟩
  have HB : Hid (Below w.heap.size w w3) := (B1.trans (B2.mono (by omega))).trans (B3.mono (by omega))
  go_wp2_with fail
  go_ret
  exact ⟨rfl, HB.out⟩
end Go.Proofs.YtcpbofjpfapegaaDoor
