/-
  What is handed in, opened: a reply; the table of powers of ten, as the row lists it.
-/
import Derived.Test.YtdkbgbhcnbmlfaaDoorOpens
import Derived.Test.YtdkbgbhcnbmlfaaDoorChk
import Derived.Lib.SmallJoins
import Derived.Lib.LaidTab
import Derived.LaidHandle
import Derived.Deep.Strs
import Derived.WideShapes
namespace Go.Proofs.YtdkbgbhcnbmlfaaDoor
open Go.RowKit Go.Deep Go.ChangeShapes
theorem cells9' : Tryd.prog.cellsOf 9 = 1 := by kernel_rfl
theorem cells3' : Tryd.prog.cellsOf 3 = 1 := by kernel_rfl
theorem cells4' : Tryd.prog.cellsOf 4 = 1 := by kernel_rfl
theorem cellsRp : Tryd.prog.cellsOf 23 = 4 := by kernel_rfl
theorem trod_struct4 {H : Type} {enc : TypeId × Value → H} {P : Program} {w : World} {base : Nat} {spare : Nat → Bool} {held : Bool} {t : TypeId} {f0 f1 f2 f3 : Field} {fuel : Nat} {cs : List Value} {x : DataW H × List MemPlace} (ht : P.underlying t = some (.struct #[f0, f1, f2, f3])) (h : DataW.trod enc P w base spare held fuel t cs = some x) :
    ∃ y0 y1 y2 y3 n, x.1 = .agg [y0.1, y1.1, y2.1, y3.1] ∧ cs.length = P.cellsOf t ∧ DataW.trod enc P w base spare held n f0.type ((cs.drop f0.offset).take (P.cellsOf f0.type)) = some y0 ∧
      DataW.trod enc P w base spare held n f1.type ((cs.drop f1.offset).take (P.cellsOf f1.type)) = some y1 ∧ DataW.trod enc P w base spare held n f2.type ((cs.drop f2.offset).take (P.cellsOf f2.type)) = some y2 ∧
      DataW.trod enc P w base spare held n f3.type ((cs.drop f3.offset).take (P.cellsOf f3.type)) = some y3 := by
  obtain ⟨xs, n, _, rfl, hl, hlen, hf⟩ := DataW.trod_struct ht h
  match xs, hlen with
  | [y0, y1, y2, y3], _ => exact ⟨y0, y1, y2, y3, n, by simp, hl, by simpa using hf 0 f0 rfl, by simpa using hf 1 f1 rfl, by simpa using hf 2 f2 rfl, by simpa using hf 3 f3 rfl⟩
def rpD {H : Type} (c : Rp) : DataW H := .agg [.lit (.int .i64 c.status), .lit (.string c.body), .lit (.string c.cookie), .lit (.bool c.close)]
theorem wf_lo {n : Int} (h : (Lit.int .i64 n).wf = true) : -9223372036854775808 ≤ n := by
  simp [Lit.wf, IntKind.min, IntKind.max, IntKind.signed, IntKind.bits] at h
  omega
theorem wf_hi {n : Int} (h : (Lit.int .i64 n).wf = true) : n ≤ 9223372036854775807 := by
  simp [Lit.wf, IntKind.min, IntKind.max, IntKind.signed, IntKind.bits] at h
  omega
set_option maxRecDepth 100000 in
theorem reply_open {H : Type} {enc : TypeId × Value → H} {W : World} {cs : List Value} {fuel : Nat} {x : DataW H × List MemPlace} (hf : DataW.trod enc Tryd.prog W 0 (fun _ => true) true fuel 23 cs = some x) : ∃ c : Rp, cs = [.int .i64 c.status, .string (mkB c.body), .string (mkB c.cookie), .bool c.close] ∧ x.1 = rpD c ∧ (Lit.int .i64 c.status).wf = true := by
  obtain ⟨y0, y1, y2, y3, k, hD, hlen, g0, g1, g2, g3⟩ := trod_struct4 Tryd.underlying23 hf
  rw [cellsRp] at hlen
  match cs, hlen with
  | [v0, v1, v2, v3], _ =>
    simp [cells9', cells4', cells3'] at g0 g1 g2 g3
    obtain ⟨a0, e0, d0, w0⟩ := DataW.trod_int Tryd.underlying3 g0
    obtain ⟨a1, e1, d1, _⟩ := DataW.trod_string Tryd.underlying9 g1
    obtain ⟨a2, e2, d2, _⟩ := DataW.trod_string Tryd.underlying9 g2
    obtain ⟨a3, e3, d3⟩ := DataW.trod_bool Tryd.underlying4 g3
    simp at e0 e1 e2 e3
    subst e0 e1 e2 e3
    refine ⟨⟨a0, a1.data.toList, a2.data.toList, a3⟩, by simp only [list_mkB], ?_, w0⟩
    rw [hD, d0, d1, d2, d3]
    rfl
theorem reply_weigh {H : Type} {c : Rp} {d : DataW H} (hd : d = rpD c) (hw : (Lit.int .i64 c.status).wf = true) (hsz : ∀ n ∈ d.weights Tryd.prog 23, n ≤ reachBytes) : rpZ c := by
  subst hd
  have h3 := hsz c.body.length (by simp [rpD, DataW.weights, Tryd.underlying23, DataW.weightsEach])
  have h4 := hsz c.cookie.length (by simp [rpD, DataW.weights, Tryd.underlying23, DataW.weightsEach])
  have hrb : reachBytes < 140737488355328 := by decide
  exact ⟨wf_lo hw, wf_hi hw, by omega, by omega⟩
theorem bulks.bound {H : Type} {ds : List (DataW H)} (h : Rows.uptoSmall H ds = true) : Rows.uptoBulkAll ds ≤ 1048576 := of_decide_eq_true h
theorem laidMet_tail {P : Program} {x : String × DataW Unit} {r : List (String × DataW Unit)} {W : World} (h : laidMet P (x :: r) W) : laidMet P r W := by
  obtain ⟨ps, hv, hnd, hc⟩ := h
  obtain ⟨n, d⟩ := x
  obtain ⟨g, t, cs, fuel, p, q, _, _, _, _, hq, rfl⟩ := hv
  refine ⟨q, hq, (List.nodup_append.1 hnd).2.1, fun b off hb => hc b off (List.mem_append_right _ hb)⟩
theorem tab_eq : Rows.laid_internal_strconv_uint64pow10 (H := Unit) = Lib.tabData .u64 Lib.pow10Tab := by kernel_rfl
theorem tabP_of {W : World} (h : laidMetH Tryd.prog [("math/bits.deBruijn32tab", Rows.laid_math_bits_deBruijn32tab), ("math/bits.deBruijn64tab", Rows.laid_math_bits_deBruijn64tab), ("internal/strconv.uint64pow10", Rows.laid_internal_strconv_uint64pow10)] W) : TabP W := by
  have h1 : laidMet Tryd.prog [("math/bits.deBruijn32tab", Rows.laid_math_bits_deBruijn32tab), ("math/bits.deBruijn64tab", Rows.laid_math_bits_deBruijn64tab), ("internal/strconv.uint64pow10", Rows.laid_internal_strconv_uint64pow10)] W := h
  have h2 := laidMet_tail (laidMet_tail h1)
  rw [tab_eq] at h2
  unfold TabP
  exact Lib.tabIs_of_head (g := 0) (t := 97) (e := 87) (n := 20) (by kernel_rfl) (by kernel_rfl) Tryd.underlying97 Tryd.underlying87 (by kernel_rfl) (by kernel_rfl) h2
end Go.Proofs.YtdkbgbhcnbmlfaaDoor
