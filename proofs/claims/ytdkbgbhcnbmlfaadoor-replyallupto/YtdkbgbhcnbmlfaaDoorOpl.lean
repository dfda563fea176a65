/-
  What is handed in, opened: a slice of replies.
-/
import Derived.Test.YtdkbgbhcnbmlfaaDoorOpr
import Derived.Test.YtdkbgbhcnbmlfaaDoorAlp
namespace Go.Proofs.YtdkbgbhcnbmlfaaDoor
open Go.RowKit Go.Deep Go.ChangeShapes
theorem addr_add2 (b off i : Nat) : (⟨b, off, none⟩ : Addr).add i = ⟨b, off + i, none⟩ := by
  unfold Addr.add
  by_cases hi : i = 0 <;> simp [hi]
theorem add_add2 (y : Addr) (i j : Nat) : (y.add i).add j = y.add (i + j) := by
  obtain ⟨b, off, spot⟩ := y
  unfold Addr.add
  by_cases hi : i = 0 <;> by_cases hj : j = 0 <;> simp [hi, hj, Nat.add_assoc]
set_option maxRecDepth 100000 in
/-- A slice of replies, opened: its cells, and its datum. -/
theorem replies_open {H : Type} {enc : TypeId × Value → H} {W : World} {v : Value} {fuel : Nat} {x : DataW H × List MemPlace} (hf : DataW.trod enc Tryd.prog W 0 (fun _ => true) true fuel 34 [v] = some x) :
    ∃ (a : Option Addr) (c : Nat) (l : List Rp), v = .slice a l.length c ∧ RA W.heap.size W a l ∧ (∀ r ∈ l, (Lit.int .i64 r.status).wf = true) ∧ ((l = [] ∧ x.1 = .nil) ∨ ∃ sp, x.1 = .slice (l.map rpD) sp) := by
  rcases open_slice Tryd.underlying34 hf with ⟨hcs, hx⟩ | ⟨y, l, c, m, n, D, Pl, hcs, _, hl, hm, hmm, hxd, hx⟩
  · simp at hcs
    exact ⟨none, 0, [], hcs, RA.nil _ _ _, fun r hr => absurd hr List.not_mem_nil, Or.inl ⟨rfl, by rw [hx]⟩⟩
  · simp only [List.cons.injEq, and_true] at hcs
    have hmm' : m = c := by simpa using hmm
    subst hmm'
    have each : ∀ i, ∃ q : Rp, i < l → W.cell? (y.add (4 * i)) = some (.int .i64 q.status) ∧ W.cell? (y.add (4 * i + 1)) = some (.string (mkB q.body)) ∧ W.cell? (y.add (4 * i + 2)) = some (.string (mkB q.cookie)) ∧ W.cell? (y.add (4 * i + 3)) = some (.bool q.close) ∧ D i = rpD q ∧ (Lit.int .i64 q.status).wf = true := by
      intro i
      by_cases hi : i < l
      · obtain ⟨cs', h1, h2⟩ := hx i (by omega)
        rw [cellsRp] at h1
        obtain ⟨_, hlen, hcell⟩ := World.cells?_some h1
        obtain ⟨q, rfl, hD, hwf⟩ := reply_open h2
        have c0 := hcell 0 (by omega)
        have c1 := hcell 1 (by omega)
        have c2 := hcell 2 (by omega)
        have c3 := hcell 3 (by omega)
        rw [add_add2, Nat.mul_comm] at c0 c1 c2 c3
        exact ⟨q, fun _ => ⟨by simpa using c0, by simpa using c1, by simpa using c2, by simpa using c3, hD, hwf⟩⟩
      · exact ⟨⟨0, [], [], false⟩, fun h => absurd h hi⟩
    obtain ⟨q, hq⟩ := Classical.axiomOfChoice each
    refine ⟨some y, m, (List.range l).map q, by rw [List.length_map, List.length_range]; exact hcs, fun j z hj => ?_, fun r hr => ?_, Or.inr ⟨(List.range (m - l)).map fun j => D (l + j), ?_⟩⟩
    · rw [List.getElem?_map] at hj
      by_cases hi : j < l
      · rw [List.getElem?_range hi] at hj
        simp only [Option.map_some, Option.some.injEq] at hj
        subst hj
        obtain ⟨b, off, spot⟩ := y
        obtain ⟨h0, h1, h2, h3, _⟩ := hq j hi
        have hspot : spot = none := by simpa [Addr.add] using World.cell?_spot (hq 0 (by omega)).1
        subst hspot
        rw [addr_add2] at h0 h1 h2 h3
        rw [Nat.mul_comm] at h0 h1 h2 h3
        exact ⟨b, off, rfl, World.block_lt_of_cell? W _ h0, h0, h1, h2, h3⟩
      · rw [List.getElem?_eq_none (by simp; omega)] at hj
        cases hj
    · obtain ⟨i, hi, rfl⟩ := List.mem_map.1 hr
      exact (hq i (List.mem_range.1 hi)).2.2.2.2.2
    · rw [hxd]
      show DataW.slice _ _ = DataW.slice _ _
      congr 1
      rw [List.map_map]
      refine List.map_congr_left fun i hi => ?_
      exact (hq i (List.mem_range.1 hi)).2.2.2.2.1
theorem bulk_rps {H : Type} : ∀ l : List Rp, l.length ≤ Rows.uptoBulkAll (l.map (rpD (H := H))) ∧ ∀ f ∈ l, f.body.length ≤ Rows.uptoBulkAll (l.map (rpD (H := H))) ∧ f.cookie.length ≤ Rows.uptoBulkAll (l.map (rpD (H := H)))
  | [] => ⟨Nat.zero_le _, fun f hf => by cases hf⟩
  | x :: l => by
    obtain ⟨h2, h3⟩ := bulk_rps (H := H) l
    have hb : x.body.length + x.cookie.length + 1 ≤ Rows.uptoBulk (rpD (H := H) x) := by simp only [rpD, Rows.uptoBulk, Rows.uptoBulkAll]; omega
    rw [List.map_cons, Rows.uptoBulkAll, List.length_cons]
    refine ⟨by omega, fun f hf => ?_⟩
    rcases List.mem_cons.1 hf with rfl | hf
    · omega
    · have := h3 f hf; omega
theorem replies_small {H : Type} {l : List Rp} {d : DataW H} (hd : (l = [] ∧ d = .nil) ∨ ∃ sp, d = .slice (l.map rpD) sp) (hw : ∀ r ∈ l, (Lit.int .i64 r.status).wf = true) (hsz : Rows.uptoBulk d ≤ 1048576) : l.length ≤ 1048576 ∧ ∀ f ∈ l, rpZ f := by
  rcases hd with ⟨rfl, rfl⟩ | ⟨sp, rfl⟩
  · exact ⟨Nat.zero_le _, fun f hf => by cases hf⟩
  · simp only [Rows.uptoBulk] at hsz
    obtain ⟨h2, h3⟩ := bulk_rps (H := H) l
    exact ⟨by omega, fun f hf => ⟨wf_lo (hw f hf), wf_hi (hw f hf), by have := h3 f hf; omega, by have := h3 f hf; omega⟩⟩
end Go.Proofs.YtdkbgbhcnbmlfaaDoor
