/-
  The contract of the twin's Target.
-/
import Derived.Test.YtbpfggpljfpfcaaDoorQta
import Derived.Test.YtbpfggpljfpfcaaDoorQtb
import Derived.Test.YtbpfggpljfpfcaaDoorQtc
import Derived.Test.YtbpfggpljfpfcaaDoorQtd
namespace Go.Proofs.YtbpfggpljfpfcaaDoor
open Go.RowKit
theorem qtarget_any (y : Rt) (h0 : -9223372036854775808 ≤ y.frm) (h1 : y.frm ≤ 9223372036854775807) (ht : y.token.length ≤ 10000000) (hu : y.user.length ≤ 10000000) (w : World) :
    Calls Tryd.prog 19 #[.agg #[.int .i64 y.kind, .string (bOf y.token), .string (bOf y.user), .int .i64 y.frm, .bool y.me]] w (TgP w (tgtR y)) := by
  obtain ⟨yk, ya, yb, yf, ym⟩ := y
  simp only at *
  by_cases k1 : yk = 1
  · exact qt_1 yk ya yb yf ym h0 h1 ht hu k1 w
  by_cases k2 : yk = 2
  · cases hm : ym with
    | true => rw [← hm]; exact qt_2t yk ya yb yf ym h0 h1 ht hu k2 hm w
    | false => rw [← hm]; exact qt_2f yk ya yb yf ym h0 h1 ht hu k2 hm w
  by_cases k3 : yk = 3
  · exact qt_3 yk ya yb yf ym h0 h1 ht hu k3 w
  by_cases k4 : yk = 4
  · exact qt_4 yk ya yb yf ym h0 h1 ht hu k4 w
  by_cases k5 : yk = 5
  · exact qt_5 yk ya yb yf ym h0 h1 ht hu k5 w
  by_cases k6 : yk = 6
  · exact qt_6 yk ya yb yf ym h0 h1 ht hu k6 w
  by_cases k7 : yk = 7
  · exact qt_7 yk ya yb yf ym h0 h1 ht hu k7 w
  by_cases k8 : yk = 8
  · exact qt_8 yk ya yb yf ym h0 h1 ht hu k8 w
  by_cases k9 : yk = 9
  · exact qt_9 yk ya yb yf ym h0 h1 ht hu k9 w
  exact qt_d yk ya yb yf ym h0 h1 ht hu k1 k2 k3 k4 k5 k6 k7 k8 k9 w
end Go.Proofs.YtbpfggpljfpfcaaDoor
