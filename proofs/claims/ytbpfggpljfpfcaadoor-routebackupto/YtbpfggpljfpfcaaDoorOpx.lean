/-
  A route that is handed in, opened; the table of powers of ten, as the row lists it.
-/
import Derived.Test.YtbpfggpljfpfcaaDoorOpens
import Derived.Test.YtbpfggpljfpfcaaDoorPrt
import Derived.Lib.SmallJoins
import Derived.Deep.Strs
import Derived.Lib.LaidTab
import Derived.LaidHandle
namespace Go.Proofs.YtbpfggpljfpfcaaDoor
open Go.RowKit Go.Deep Go.ChangeShapes
theorem cells9' : Tryd.prog.cellsOf 9 = 1 := by kernel_rfl
theorem cells4' : Tryd.prog.cellsOf 4 = 1 := by kernel_rfl
theorem cells3' : Tryd.prog.cellsOf 3 = 1 := by kernel_rfl
theorem cellsRt : Tryd.prog.cellsOf 23 = 5 := by kernel_rfl
theorem size_listB (s : ByteArray) : s.data.toList.length = s.size := by rw [Array.length_toList]; rfl
theorem trod_struct5 {H : Type} {enc : TypeId × Value → H} {P : Program} {w : World} {base : Nat} {spare : Nat → Bool} {held : Bool} {t : TypeId} {f0 f1 f2 f3 f4 : Field} {fuel : Nat} {cs : List Value} {x : DataW H × List MemPlace} (ht : P.underlying t = some (.struct #[f0, f1, f2, f3, f4])) (h : DataW.trod enc P w base spare held fuel t cs = some x) :
    ∃ y0 y1 y2 y3 y4 n, x.1 = .agg [y0.1, y1.1, y2.1, y3.1, y4.1] ∧ cs.length = P.cellsOf t ∧ DataW.trod enc P w base spare held n f0.type ((cs.drop f0.offset).take (P.cellsOf f0.type)) = some y0 ∧
      DataW.trod enc P w base spare held n f1.type ((cs.drop f1.offset).take (P.cellsOf f1.type)) = some y1 ∧ DataW.trod enc P w base spare held n f2.type ((cs.drop f2.offset).take (P.cellsOf f2.type)) = some y2 ∧
      DataW.trod enc P w base spare held n f3.type ((cs.drop f3.offset).take (P.cellsOf f3.type)) = some y3 ∧ DataW.trod enc P w base spare held n f4.type ((cs.drop f4.offset).take (P.cellsOf f4.type)) = some y4 := by
  obtain ⟨xs, n, _, rfl, hl, hlen, hf⟩ := DataW.trod_struct ht h
  match xs, hlen with
  | [y0, y1, y2, y3, y4], _ => exact ⟨y0, y1, y2, y3, y4, n, by simp, hl, by simpa using hf 0 f0 rfl, by simpa using hf 1 f1 rfl, by simpa using hf 2 f2 rfl, by simpa using hf 3 f3 rfl, by simpa using hf 4 f4 rfl⟩
def rtD {H : Type} (x : Rt) : DataW H := .agg [.lit (.int .i64 x.kind), .lit (.string x.token), .lit (.string x.user), .lit (.int .i64 x.frm), .lit (.bool x.me)]
set_option maxRecDepth 100000 in
theorem route_open {H : Type} {enc : TypeId × Value → H} {W : World} {cs : List Value} {fuel : Nat} {x : DataW H × List MemPlace} (hf : DataW.trod enc Tryd.prog W 0 (fun _ => true) true fuel 23 cs = some x) : ∃ y : Rt, cs = (rtA y).toList ∧ x.1 = rtD y ∧ -9223372036854775808 ≤ y.frm ∧ y.frm ≤ 9223372036854775807 := by
  obtain ⟨y0, y1, y2, y3, y4, k, hD, hlen, g0, g1, g2, g3, g4⟩ := trod_struct5 Tryd.underlying23 hf
  rw [cellsRt] at hlen
  match cs, hlen with
  | [v0, v1, v2, v3, v4], _ =>
    simp [cells9', cells4', cells3'] at g0 g1 g2 g3 g4
    obtain ⟨a0, e0, d0, _⟩ := DataW.trod_int Tryd.underlying3 g0
    obtain ⟨a1, e1, d1, _⟩ := DataW.trod_string Tryd.underlying9 g1
    obtain ⟨a2, e2, d2, _⟩ := DataW.trod_string Tryd.underlying9 g2
    obtain ⟨a3, e3, d3, w3⟩ := DataW.trod_int Tryd.underlying3 g3
    obtain ⟨a4, e4, d4⟩ := DataW.trod_bool Tryd.underlying4 g4
    simp at e0 e1 e2 e3 e4
    subst e0 e1 e2 e3 e4
    refine ⟨⟨a0, a1.data.toList, a2.data.toList, a3, a4⟩, rfl, ?_, (i64_of_wf w3).1, (i64_of_wf w3).2⟩
    rw [hD, d0, d1, d2, d3, d4]
    rfl
theorem route_small {H : Type} {x : Rt} {N : Nat} (h : Rows.uptoBulk (rtD (H := H) x) ≤ N) : x.token.length ≤ N ∧ x.user.length ≤ N := by
  simp only [rtD, Rows.uptoBulk, Rows.uptoBulkAll] at h
  exact ⟨by omega, by omega⟩
theorem laidMet_tail {P : Program} {x : String × DataW Unit} {r : List (String × DataW Unit)} {W : World} (h : laidMet P (x :: r) W) : laidMet P r W := by
  obtain ⟨ps, hv, hnd, hc⟩ := h
  obtain ⟨n, d⟩ := x
  obtain ⟨g, t, cs, fuel, p, q, _, _, _, _, hq, rfl⟩ := hv
  refine ⟨q, hq, (List.nodup_append.1 hnd).2.1, fun b off hb => hc b off (List.mem_append_right _ hb)⟩
theorem tab_eq : Rows.laid_internal_strconv_uint64pow10 (H := Unit) = Lib.tabData .u64 Lib.pow10Tab := by kernel_rfl
theorem tabP_of {W : World} (h : laidMetH Tryd.prog [("math/bits.deBruijn32tab", Rows.laid_math_bits_deBruijn32tab), ("math/bits.deBruijn64tab", Rows.laid_math_bits_deBruijn64tab), ("internal/strconv.uint64pow10", Rows.laid_internal_strconv_uint64pow10), ("unicode/utf8.acceptRanges", Rows.laid_unicode_utf8_acceptRanges), ("unicode/utf8.first", Rows.laid_unicode_utf8_first)] W) : TabP W := by
  have h1 : laidMet Tryd.prog [("math/bits.deBruijn32tab", Rows.laid_math_bits_deBruijn32tab), ("math/bits.deBruijn64tab", Rows.laid_math_bits_deBruijn64tab), ("internal/strconv.uint64pow10", Rows.laid_internal_strconv_uint64pow10), ("unicode/utf8.acceptRanges", Rows.laid_unicode_utf8_acceptRanges), ("unicode/utf8.first", Rows.laid_unicode_utf8_first)] W := h
  have h2 := laidMet_tail (laidMet_tail h1)
  rw [tab_eq] at h2
  unfold TabP
  exact Lib.tabIs_of_head (g := 3) (t := 132) (e := 100) (n := 20) (by kernel_rfl) (by kernel_rfl) Tryd.underlying132 Tryd.underlying100 (by kernel_rfl) (by kernel_rfl) h2
end Go.Proofs.YtbpfggpljfpfcaaDoor
