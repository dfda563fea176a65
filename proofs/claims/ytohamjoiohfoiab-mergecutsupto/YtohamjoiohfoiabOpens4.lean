/-
  What is handed in, opened, where it is small: with the bytes of its cells.
-/
import Derived.Test.YtohamjoiohfoiabOpens3
import Derived.Test.YtohamjoiohfoiabRCut0
namespace Go.Proofs.Ytohamjoiohfoiab
open Go.RowKit Go.Deep Go.ChangeShapes
theorem bulk_app {H : Type} : ∀ (a b : List (DataW H)), Rows.uptoBulkAll (a ++ b) = Rows.uptoBulkAll a + Rows.uptoBulkAll b
  | [], b => by simp [Rows.uptoBulkAll]
  | x :: a, b => by rw [List.cons_append, Rows.uptoBulkAll, Rows.uptoBulkAll, bulk_app a b]; omega
theorem cells_weigh {H : Type} {enc : TypeId × Value → H} {W : World} {v : Value} {fuel : Nat} {x : DataW H × List MemPlace} (hf : DataW.trod enc Try.prog W 0 (fun _ => true) true fuel 22 [v] = some x) (hsz : Rows.uptoBulk x.1 ≤ 1048576) :
    ∃ (a : Option Addr) (c : Nat) (l : List Cl), v = .slice a l.length c ∧ CA W.heap.size W a l ∧ l.length ≤ c ∧ (a = none → c = 0) ∧ l.length ≤ 1048576 ∧ wN l < 4000000000000000000 := by
  rcases open_slice Try.underlying22 hf with ⟨hcs, _⟩ | ⟨y, l, c, m, n, D, Pl, hcs, _, hl, hm, hmm, hxd, hx⟩
  · simp at hcs
    exact ⟨none, 0, [], hcs, CA.nil _ _ _, Nat.le_refl _, fun _ => rfl, by decide, by decide⟩
  · simp only [List.cons.injEq, and_true] at hcs
    have hmm' : m = c := by simpa using hmm
    subst hmm'
    have each : ∀ i, ∃ q : Cl, i < l → W.cell? (y.add (4 * i)) = some (.string q.key) ∧ W.cell? (y.add (4 * i + 1)) = some (.int .u64 (q.seq : Nat)) ∧ W.cell? (y.add (4 * i + 2)) = some (.string q.val) ∧ W.cell? (y.add (4 * i + 3)) = some (.bool q.gone) ∧ q.key.size + q.val.size + 5 ≤ Rows.uptoBulk (D i) := by
      intro i
      by_cases hi : i < l
      · obtain ⟨cs', h1, h2⟩ := hx i (by omega)
        rw [cells24] at h1
        obtain ⟨_, hlen, hcell⟩ := World.cells?_some h1
        obtain ⟨y0, y1, y2, y3, k, hD, _, g0, g1, g2, g3⟩ := Go.Joins.trod_struct4 Try.underlying29 h2
        match cs', hlen with
        | [v0, v1, v2, v3], _ =>
          simp [cells9, cells22, cells4] at g0 g1 g2 g3
          obtain ⟨a0, e0, d0, _⟩ := DataW.trod_string Try.underlying9 g0
          obtain ⟨a1, e1, d1, w1⟩ := DataW.trod_int Try.underlying27 g1
          obtain ⟨a2, e2, d2, _⟩ := DataW.trod_string Try.underlying9 g2
          obtain ⟨a3, e3, d3⟩ := DataW.trod_bool Try.underlying4 g3
          have hbk : a0.size + a2.size + 5 ≤ Rows.uptoBulk (D i) := by
            have hDi : D i = .agg [y0.1, y1.1, y2.1, y3.1] := congrArg Prod.fst hD
            rw [hDi, d0, d2]
            have b1 := bulk_one y1.1
            have b3 := bulk_one y3.1
            have s0 : a0.data.toList.length = a0.size := by simp
            have s2 : a2.data.toList.length = a2.size := by simp
            simp only [Rows.uptoBulk, Rows.uptoBulkAll]
            omega
          simp at e0 e1 e2 e3
          subst e0 e1 e2 e3
          obtain ⟨sq, rfl, _⟩ := u64_nat w1
          have c0 := hcell 0 (by omega)
          have c1 := hcell 1 (by omega)
          have c2 := hcell 2 (by omega)
          have c3 := hcell 3 (by omega)
          rw [add_add, Nat.mul_comm] at c0 c1 c2 c3
          exact ⟨⟨a0, sq, a2, a3⟩, fun _ => ⟨by simpa using c0, by simpa using c1, by simpa using c2, by simpa using c3, hbk⟩⟩
      · exact ⟨⟨ByteArray.empty, 0, ByteArray.empty, false⟩, fun h => absurd h hi⟩
    obtain ⟨q, hq⟩ := Classical.axiomOfChoice each
    have hw : l ≤ 1048576 := by
      rw [hxd] at hsz
      have h2 := bulk_len ((List.range l).map D)
      simp only [List.length_map, List.length_range] at h2
      simp only [Rows.uptoBulk] at hsz
      omega
    refine ⟨some y, m, (List.range l).map q, by rw [List.length_map, List.length_range]; exact hcs, fun j z hj => ?_, by rw [List.length_map, List.length_range]; exact hl, (fun e => by cases e), by rw [List.length_map, List.length_range]; exact hw, ?_⟩
    rotate_left
    · have hall : ∀ k, k ≤ l → wN ((List.range k).map q) ≤ Rows.uptoBulkAll ((List.range k).map D) + 16 * k := by
        intro k
        induction k with
        | zero => intro _; simp [wN]
        | succ k ih =>
          intro hk
          have h1 := ih (by omega)
          have h2 := (hq k (by omega)).2.2.2.2
          rw [List.range_succ, List.map_append, List.map_append, wN_app, bulk_app]
          have h3 : wN ([k].map q) = (q k).key.size + (q k).val.size + 16 := by simp [wN]
          have h4 : Rows.uptoBulkAll ([k].map D) = Rows.uptoBulk (D k) := by simp [Rows.uptoBulkAll]
          omega
      have h5 := hall l (Nat.le_refl _)
      rw [hxd] at hsz
      simp only [Rows.uptoBulk] at hsz
      omega
    rw [List.getElem?_map] at hj
    by_cases hi : j < l
    · rw [List.getElem?_range hi] at hj
      simp only [Option.map_some, Option.some.injEq] at hj
      subst hj
      obtain ⟨b, off, spot⟩ := y
      obtain ⟨h0, h1, h2, h3, _⟩ := hq j hi
      have hspot : spot = none := by simpa [Addr.add] using World.cell?_spot (hq 0 (by omega)).1
      subst hspot
      rw [addr_add] at h0 h1 h2 h3
      rw [Nat.mul_comm] at h0 h1 h2 h3
      exact ⟨b, off, rfl, World.block_lt_of_cell? W _ h0, h0, h1, h2, h3⟩
    · rw [List.getElem?_eq_none (by simp; omega)] at hj
      cases hj
end Go.Proofs.Ytohamjoiohfoiab
