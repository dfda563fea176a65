/-
  The contract of slices.Clone, of cells.
-/
import Derived.Test.YtohamjoiohfoiaaApp
import Derived.Test.YtohamjoiohfoiaaDrp
import Derived.Lib.SliceRun
namespace Go.Proofs.Ytohamjoiohfoiaa
open Go.RowKit
theorem ca_none {B : Nat} {w : World} {l : List Cl} (h : CA B w none l) : l = [] := by
  cases l with
  | nil => rfl
  | cons c l => obtain ⟨_, _, e, _⟩ := h 0 c rfl; cases e
theorem ca_flat' {B : Nat} {w : World} {ad : Addr} {l : List Cl} (h : CA B w (some ad) l) : ∀ j u, (flC l)[j]? = some u → w.cell? (ad.add j) = some u := fun j u hj => by
  cases l with
  | nil => simp [flC] at hj
  | cons c l =>
    obtain ⟨b, off, e, _⟩ := h 0 c rfl
    cases e
    exact ca_flat h j u hj
set_option maxRecDepth 100000 in
set_option maxHeartbeats 1000000 in
theorem clone_any (a : Option Addr) (m cp : Nat) (l : List Cl) (w : World) (hca : CA w.heap.size w a l) (hl : l.length = m) (hmx : m * 48 ≤ 140737488355328) :
    Calls Try.prog 27 #[.slice a m cp] w fun r w' => ∃ v, r = .returned v ∧ w'.ownsRow w.heap.size 24 4 v m (flC l) ∧ Below w.heap.size w w' := by
  obtain ⟨i0, hi, hz0, hz1, hz2⟩ := info_parts info24
  have hq : ∀ (w : World) (a : Option Addr) (n c n' c' : Nat), (binOp .eql 25 (.slice a n c) (.slice none n' c')).run Try.prog w = .ok (.bool a.isNone) w := fun w a n c n' c' => Lib.run_eql_slice_nil w _ _ a n c n' c' Try.underlying25
  cases a with
  | none =>
    obtain rfl := ca_none hca
    obtain rfl : 0 = m := hl
    clear hca hmx
    go_enter Try.func27, Try.ntmps27
    go_wp2_with fail
    go_ret
    exact ⟨_, rfl, World.ownsRow_nil _ _ _ _, Below.refl _ _⟩
  | some ad =>
    have b1 : Below w.heap.size w (w.alloc (.cells #[] 24)) := (Below.refl _ w).alloc (Nat.le_refl _) _
    have HB1 : Hid (Below w.heap.size w (w.alloc (.cells #[] 24))) := b1
    have HRX : Hid ((w.alloc (.cells #[] 24)).ownsRow w.heap.size 24 4 (.slice (some ⟨w.heap.size, 0, none⟩) 0 0) 0 []) := ⟨rfl, Or.inr ⟨w.heap.size, 0, #[], rfl, Nat.le_refl _, World.alloc_heap_new _ _, Nat.le_refl _, Nat.zero_le _, rfl, rfl⟩⟩
    have HNC : Hid (∀ j u, (flC l)[j]? = some u → (w.alloc (.cells #[] 24)).cell? (ad.add j) = some u) := ca_flat' (hca.below (fun b hb => b1.block b hb))
    have HLF : Hid ((flC l).length = m * 4) := by rw [Hid, flC_len, hl]
    have h1 : 0 + m ≤ maxLen := by unfold maxLen; omega
    have h2 : (0 + m) * 48 ≤ 140737488355328 := by omega
    have h3 : w.heap.size ≤ (w.alloc (.cells #[] 24)).heap.size := by simp
    clear hca hl hmx b1
    go_enter Try.func27, Try.ntmps27
    go_wp2_with (at_builtin; refine wpList_append_own _ rfl _ _ 25 rfl w.heap.size 24 i0 (.agg #[.string ByteArray.empty, .int .u64 0, .string ByteArray.empty, .bool false]) 4 48 Try.underlying25 hi hz0 hz1 hz2 rfl (by decide) _ _ _ rfl HRX.out ad m cp (flC l) rfl HLF.out HNC.out (flC_one l) h1 h2 h3 ?_; intro v2 w3 hown2 hg2 _; obtain ⟨va, vc, rfl⟩ := row_form4 hown2; have HE : Hid (w3.ownsRow w.heap.size 24 4 (.slice va m vc) m (flC l) ∧ Below w.heap.size w w3) := ⟨(by rw [List.nil_append] at hown2; have := hown2; simpa using this), HB1.out.grown hg2 h3 (fun k e => (World.ownsRow.lt HRX.out k e).1)⟩; clear hown2 hg2)
    go_ret
    exact ⟨_, rfl, HE.out⟩
end Go.Proofs.Ytohamjoiohfoiaa
