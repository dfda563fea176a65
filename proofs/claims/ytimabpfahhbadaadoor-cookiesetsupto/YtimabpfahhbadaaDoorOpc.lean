/-
  A cookie that is handed in, opened; the table of powers of ten, as the row lists it.
-/
import Derived.Test.YtimabpfahhbadaaDoorOpk
import Derived.Test.YtimabpfahhbadaaDoorSeW
import Derived.Lib.LaidTab
import Derived.LaidHandle
namespace Go.Proofs.YtimabpfahhbadaaDoor
open Go.RowKit Go.Deep Go.ChangeShapes
theorem trod_struct8 {H : Type} {enc : TypeId × Value → H} {P : Program} {w : World} {base : Nat} {spare : Nat → Bool} {held : Bool} {t : TypeId} {f0 f1 f2 f3 f4 f5 f6 f7 : Field} {fuel : Nat} {cs : List Value} {x : DataW H × List MemPlace} (ht : P.underlying t = some (.struct #[f0, f1, f2, f3, f4, f5, f6, f7])) (h : DataW.trod enc P w base spare held fuel t cs = some x) :
    ∃ y0 y1 y2 y3 y4 y5 y6 y7 n, x.1 = .agg [y0.1, y1.1, y2.1, y3.1, y4.1, y5.1, y6.1, y7.1] ∧ cs.length = P.cellsOf t ∧ DataW.trod enc P w base spare held n f0.type ((cs.drop f0.offset).take (P.cellsOf f0.type)) = some y0 ∧ DataW.trod enc P w base spare held n f1.type ((cs.drop f1.offset).take (P.cellsOf f1.type)) = some y1 ∧ DataW.trod enc P w base spare held n f2.type ((cs.drop f2.offset).take (P.cellsOf f2.type)) = some y2 ∧ DataW.trod enc P w base spare held n f3.type ((cs.drop f3.offset).take (P.cellsOf f3.type)) = some y3 ∧ DataW.trod enc P w base spare held n f4.type ((cs.drop f4.offset).take (P.cellsOf f4.type)) = some y4 ∧ DataW.trod enc P w base spare held n f5.type ((cs.drop f5.offset).take (P.cellsOf f5.type)) = some y5 ∧ DataW.trod enc P w base spare held n f6.type ((cs.drop f6.offset).take (P.cellsOf f6.type)) = some y6 ∧ DataW.trod enc P w base spare held n f7.type ((cs.drop f7.offset).take (P.cellsOf f7.type)) = some y7 := by
  obtain ⟨xs, n, _, rfl, hl, hlen, hf⟩ := DataW.trod_struct ht h
  match xs, hlen with
  | [y0, y1, y2, y3, y4, y5, y6, y7], _ => exact ⟨y0, y1, y2, y3, y4, y5, y6, y7, n, by simp, hl, by simpa using hf 0 f0 rfl, by simpa using hf 1 f1 rfl, by simpa using hf 2 f2 rfl, by simpa using hf 3 f3 rfl, by simpa using hf 4 f4 rfl, by simpa using hf 5 f5 rfl, by simpa using hf 6 f6 rfl, by simpa using hf 7 f7 rfl⟩
theorem cellsCk : Tryd.prog.cellsOf 37 = 8 := by kernel_rfl
def ckD {H : Type} (c : Ck) : DataW H := .agg [.lit (.string c.name.data.toList), .lit (.string c.value.data.toList), .lit (.string c.path.data.toList), .lit (.int .i64 c.age), .lit (.bool c.has), .lit (.bool c.http), .lit (.bool c.sec), .lit (.string c.same.data.toList)]
set_option maxRecDepth 100000 in
theorem cookie_open {H : Type} {enc : TypeId × Value → H} {W : World} {cs : List Value} {fuel : Nat} {x : DataW H × List MemPlace} (hf : DataW.trod enc Tryd.prog W 0 (fun _ => true) true fuel 37 cs = some x) : ∃ c : Ck, cs = ckL c ∧ x.1 = ckD c := by
  obtain ⟨y0, y1, y2, y3, y4, y5, y6, y7, k, hD, hlen, g0, g1, g2, g3, g4, g5, g6, g7⟩ := trod_struct8 Tryd.underlying37 hf
  rw [cellsCk] at hlen
  match cs, hlen with
  | [v0, v1, v2, v3, v4, v5, v6, v7], _ =>
    simp [cells9', cells4', cells3'] at g0 g1 g2 g3 g4 g5 g6 g7
    obtain ⟨a0, e0, d0, _⟩ := DataW.trod_string Tryd.underlying9 g0
    obtain ⟨a1, e1, d1, _⟩ := DataW.trod_string Tryd.underlying9 g1
    obtain ⟨a2, e2, d2, _⟩ := DataW.trod_string Tryd.underlying9 g2
    obtain ⟨a3, e3, d3, _⟩ := DataW.trod_int Tryd.underlying3 g3
    obtain ⟨a4, e4, d4⟩ := DataW.trod_bool Tryd.underlying4 g4
    obtain ⟨a5, e5, d5⟩ := DataW.trod_bool Tryd.underlying4 g5
    obtain ⟨a6, e6, d6⟩ := DataW.trod_bool Tryd.underlying4 g6
    obtain ⟨a7, e7, d7, _⟩ := DataW.trod_string Tryd.underlying9 g7
    simp at e0 e1 e2 e3 e4 e5 e6 e7
    subst e0 e1 e2 e3 e4 e5 e6 e7
    refine ⟨⟨a0, a1, a2, a3, a4, a5, a6, a7⟩, rfl, ?_⟩
    rw [hD, d0, d1, d2, d3, d4, d5, d6, d7]
    rfl
theorem cookie_small {H : Type} {c : Ck} {N : Nat} (h : Rows.uptoBulk (ckD (H := H) c) ≤ N) : ckZ N c := by
  simp only [ckD, Rows.uptoBulk, Rows.uptoBulkAll, size_list] at h
  exact ⟨by omega, by omega, by omega, by omega⟩
theorem laidMet_tail {P : Program} {x : String × DataW Unit} {r : List (String × DataW Unit)} {W : World} (h : laidMet P (x :: r) W) : laidMet P r W := by
  obtain ⟨ps, hv, hnd, hc⟩ := h
  obtain ⟨n, d⟩ := x
  obtain ⟨g, t, cs, fuel, p, q, _, _, _, _, hq, rfl⟩ := hv
  refine ⟨q, hq, (List.nodup_append.1 hnd).2.1, fun b off hb => hc b off (List.mem_append_right _ hb)⟩
theorem tab_eq : Rows.laid_internal_strconv_uint64pow10 (H := Unit) = Lib.tabData .u64 Lib.pow10Tab := by kernel_rfl
theorem tabP_of {W : World} (h : laidMetH Tryd.prog [("math/bits.deBruijn32tab", Rows.laid_math_bits_deBruijn32tab), ("math/bits.deBruijn64tab", Rows.laid_math_bits_deBruijn64tab), ("internal/strconv.uint64pow10", Rows.laid_internal_strconv_uint64pow10), ("unicode/utf8.acceptRanges", Rows.laid_unicode_utf8_acceptRanges), ("unicode/utf8.first", Rows.laid_unicode_utf8_first)] W) : TabP W := by
  have h1 : laidMet Tryd.prog [("math/bits.deBruijn32tab", Rows.laid_math_bits_deBruijn32tab), ("math/bits.deBruijn64tab", Rows.laid_math_bits_deBruijn64tab), ("internal/strconv.uint64pow10", Rows.laid_internal_strconv_uint64pow10), ("unicode/utf8.acceptRanges", Rows.laid_unicode_utf8_acceptRanges), ("unicode/utf8.first", Rows.laid_unicode_utf8_first)] W := h
  have h2 := laidMet_tail (laidMet_tail h1)
  rw [tab_eq] at h2
  unfold TabP
  exact Lib.tabIs_of_head (g := 3) (t := 107) (e := 94) (n := 20) (by kernel_rfl) (by kernel_rfl) Tryd.underlying107 Tryd.underlying94 (by kernel_rfl) (by kernel_rfl) h2
end Go.Proofs.YtimabpfahhbadaaDoor
