/-
  What is handed in, opened: a slice of runes.
-/
import Derived.Test.YtbhlpiilklgnkaaSame
import Derived.ProofKit
import Derived.OpenShut
import Derived.ChangeOld
import Derived.Below
import Derived.Deep.Slices
namespace Go.Proofs.Ytbhlpiilklgnkaa
open Go.RowKit Go.Deep
theorem cells21 : Try.prog.cellsOf 21 = 1 := by kernel_rfl
theorem bulk_one {H : Type} (d : DataW H) : 1 ≤ Rows.uptoBulk d := by
  cases d with
  | lit x => cases x <;> simp [Rows.uptoBulk]
  | nil => simp [Rows.uptoBulk]
  | ptr d => simp [Rows.uptoBulk]
  | slice elems spare => simp [Rows.uptoBulk]
  | agg parts => simp [Rows.uptoBulk]
  | iface t d => simp [Rows.uptoBulk]
  | map entries => simp [Rows.uptoBulk]
  | held h => simp [Rows.uptoBulk]
theorem bulk_len {H : Type} (l : List (DataW H)) : l.length ≤ Rows.uptoBulkAll l := by
  induction l with
  | nil => simp [Rows.uptoBulkAll]
  | cons x r ih => have := bulk_one x; simp only [Rows.uptoBulkAll, List.length_cons]; omega
theorem i32_of_wf {x : Int} (h : (Lit.int .i32 x).wf = true) : -2147483648 ≤ x ∧ x ≤ 2147483647 := by
  simp [Lit.wf, IntKind.min, IntKind.max, IntKind.signed, IntKind.bits] at h
  omega
theorem runes_small {H : Type} {enc : TypeId × Value → H} {W : World} {a : Option Addr} {len cap fuel : Nat} {t : TypeId} {x : DataW H × List MemPlace} (ht : Try.prog.underlying t = some (.slice 21))
    (hf : DataW.trod enc Try.prog W 0 (fun _ => true) true fuel t [.slice a len cap] = some x) (hsz : Rows.uptoBulk x.1 ≤ 1048576) :
    ∃ rs : List Int, rs.length = len ∧ RunesAt W a rs ∧ len ≤ 1048576 ∧ (a = none → cap = 0) ∧ (∀ z ∈ rs, -2147483648 ≤ z ∧ z ≤ 2147483647) := by
  rcases open_slice1 ht cells21 hf with ⟨hcs, _⟩ | ⟨y, l, c, m, n, V, D, Pl, hcs, _, hl, hm, hmm, hxd, hx⟩
  · simp at hcs
    obtain ⟨rfl, rfl, rfl⟩ := hcs
    exact ⟨[], rfl, fun j s h => by simp at h, by decide, fun _ => rfl, fun z h => by simp at h⟩
  · simp only [List.cons.injEq, Value.slice.injEq, and_true] at hcs
    obtain ⟨rfl, rfl, rfl⟩ := hcs
    have hmm' : m = cap := by simpa using hmm
    subst hmm'
    have hlen : len ≤ 1048576 := by
      rw [hxd] at hsz
      have h2 := bulk_len ((List.range len).map D)
      simp only [List.length_map, List.length_range] at h2
      simp only [Rows.uptoBulk] at hsz
      omega
    have each : ∀ i, ∃ q : Int, (i < len → W.cell? (y.add i) = some (.int .i32 q)) ∧ -2147483648 ≤ q ∧ q ≤ 2147483647 := by
      intro i
      by_cases hi : i < len
      · obtain ⟨h1, h2⟩ := hx i (by omega)
        obtain ⟨k, e2, _, wf⟩ := DataW.trod_int Try.underlying21 h2
        simp at e2
        have hk := i32_of_wf wf
        exact ⟨k, fun _ => by rw [h1, e2], hk.1, hk.2⟩
      · exact ⟨0, fun h => absurd h hi, by decide, by decide⟩
    obtain ⟨q, hq⟩ := Classical.axiomOfChoice each
    refine ⟨(List.range len).map q, by simp, ?_, hlen, fun e => (by cases e), fun z hz => ?_⟩
    · intro j s hj
      rw [List.getElem?_map] at hj
      by_cases hi : j < len
      · rw [List.getElem?_range hi] at hj
        simp only [Option.map_some, Option.some.injEq] at hj
        subst hj
        obtain ⟨b, off, spot⟩ := y
        have hs0 := (hq j).1 hi
        have hspot : spot = none := by simpa [Addr.add] using World.cell?_spot ((hq 0).1 (by omega))
        subst hspot
        rw [add_off] at hs0
        exact ⟨b, off, rfl, World.block_lt_of_cell? W _ hs0, hs0⟩
      · rw [List.getElem?_eq_none (by simp; omega)] at hj
        cases hj
    · obtain ⟨i, _, rfl⟩ := List.mem_map.1 hz
      exact (hq i).2
end Go.Proofs.Ytbhlpiilklgnkaa
