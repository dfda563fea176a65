/-
  What is handed in, opened, where it is small: requests.
-/
import Derived.Test.YthhhoppmbimeiaaDoorOpR2
import Derived.Test.YthhhoppmbimeiaaDoorPip
namespace Go.Proofs.YthhhoppmbimeiaaDoor
open Go.RowKit Go.Deep Go.ChangeShapes
/-- A request's datum. -/
def RqD {H : Type} (d : DataW H) (r : Rq) : Prop := ∃ fd : DataW H, ((r.fs = [] ∧ fd = .nil) ∨ ∃ sp, fd = .slice (r.fs.map fdD) sp) ∧ d = .agg [.lit (.string r.met.data.toList), .lit (.string r.tar.data.toList), fd, .lit (.string r.body.data.toList), .lit (.bool r.shut)]
theorem rqd_small {H : Type} {d : DataW H} {r : Rq} (h : RqD d r) {N : Nat} (hN : N ≤ 1048576) (hsz : Rows.uptoBulk d ≤ N) : rqSm r ∧ (prR r).size ≤ 16 * Rows.uptoBulk d := by
  obtain ⟨fd, hfd, hd⟩ := h
  obtain ⟨q1, q2, q3⟩ := req_small (N := Rows.uptoBulk d) hfd hd (Nat.le_refl _)
  have hh := hdB_size r.met r.tar r.fs
  have h1 : 1 ≤ Rows.uptoBulk d := by rw [hd]; simp [Rows.uptoBulk]
  refine ⟨⟨⟨by omega, fun f hf => ⟨by have := (q3 f hf).1; omega, by have := (q3 f hf).2; omega⟩⟩, by omega, by omega, by omega, by omega, by omega⟩, ?_⟩
  unfold prR printR
  split
  · rw [size_app]; omega
  · exact Nat.zero_le _
theorem all_small {H : Type} {D : Nat → DataW H} {q : Nat → Rq} : ∀ (is : List Nat), (∀ i ∈ is, RqD (D i) (q i)) → Rows.uptoBulkAll (is.map D) ≤ 1048576 → (allR (is.map q)).length ≤ 16 * Rows.uptoBulkAll (is.map D) ∧ ∀ i ∈ is, rqSm (q i)
  | [], _, _ => ⟨Nat.zero_le _, fun i hi => by cases hi⟩
  | i :: is, h, hz => by
    rw [List.map_cons, Rows.uptoBulkAll] at hz
    obtain ⟨h1, h2⟩ := all_small is (fun j hj => h j (List.mem_cons_of_mem _ hj)) (by omega)
    obtain ⟨h3, h4⟩ := rqd_small (h i (List.mem_cons_self ..)) (N := 1048576) (Nat.le_refl _) (by omega)
    rw [List.map_cons, List.map_cons, Rows.uptoBulkAll]
    refine ⟨?_, fun j hj => ?_⟩
    · unfold allR okR at h1 ⊢
      by_cases hc : ckR (q i) = 0
      · rw [List.filter_cons_of_pos (by simp [hc]), List.flatMap_cons, List.length_append, show (byts (prR (q i))).length = (prR (q i)).size from size_list' _]
        omega
      · rw [List.filter_cons_of_neg (by simp [hc])]
        omega
    · rcases List.mem_cons.1 hj with rfl | hj
      · exact h3
      · exact h2 j hj
set_option maxRecDepth 100000 in
theorem reqs_open {H : Type} {enc : TypeId × Value → H} {W : World} {v : Value} {fuel : Nat} {x : DataW H × List MemPlace} (hf : DataW.trod enc Tryd.prog W 0 (fun _ => true) true fuel 41 [v] = some x) (hsz : Rows.uptoBulk x.1 ≤ 1048576) :
    ∃ (a : Option Addr) (c : Nat) (l : List Rq), v = .slice a l.length c ∧ RA W a l ∧ (∀ r ∈ l, FA W.heap.size W r.a r.fs) ∧ l.length ≤ 1048576 ∧ (∀ r ∈ l, rqSm r) ∧ (allR l).length ≤ 16777216 := by
  rcases open_slice Tryd.underlying41 hf with ⟨hcs, hx⟩ | ⟨y, len, c, m, n, D, Pl, hcs, _, hl, hm, hmm, hxd, hx⟩
  · simp at hcs
    exact ⟨none, 0, [], hcs, (fun j r hj => by simp at hj), (fun r hr => by cases hr), (by decide), (fun r hr => by cases hr), (by decide)⟩
  · simp only [List.cons.injEq, and_true] at hcs
    have hmm' : m = c := by simpa using hmm
    subst hmm'
    have each : ∀ i, ∃ q : Rq, i < len → W.cell? (y.add (5 * i)) = some (.string q.met) ∧ W.cell? (y.add (5 * i + 1)) = some (.string q.tar) ∧ W.cell? (y.add (5 * i + 2)) = some (.slice q.a q.fs.length q.c) ∧ W.cell? (y.add (5 * i + 3)) = some (.string q.body) ∧ W.cell? (y.add (5 * i + 4)) = some (.bool q.shut) ∧ FA W.heap.size W q.a q.fs ∧ RqD (D i) q := by
      intro i
      by_cases hi : i < len
      · obtain ⟨cs', h1, h2⟩ := hx i (by omega)
        rw [cellsRq] at h1
        obtain ⟨_, hlen, hcell⟩ := World.cells?_some h1
        obtain ⟨met, tar, a, c, fs, body, shut, fd, e, hfa, hfd, hD⟩ := req_open h2
        subst e
        have c0 := hcell 0 (by omega)
        have c1 := hcell 1 (by omega)
        have c2 := hcell 2 (by omega)
        have c3 := hcell 3 (by omega)
        have c4 := hcell 4 (by omega)
        rw [add_add2, Nat.mul_comm] at c0 c1 c2 c3 c4
        exact ⟨⟨met, tar, a, c, fs, body, shut⟩, fun _ => ⟨by simpa using c0, by simpa using c1, by simpa using c2, by simpa using c3, by simpa using c4, hfa, fd, hfd, hD⟩⟩
      · exact ⟨⟨ByteArray.empty, ByteArray.empty, none, 0, [], ByteArray.empty, false⟩, fun h => absurd h hi⟩
    obtain ⟨q, hq⟩ := Classical.axiomOfChoice each
    have hb : Rows.uptoBulkAll ((List.range len).map D) ≤ 1048576 := by
      rw [hxd] at hsz
      simp only [Rows.uptoBulk] at hsz
      omega
    obtain ⟨s1, s2⟩ := all_small (q := q) (List.range len) (fun i hi => (hq i (List.mem_range.1 hi)).2.2.2.2.2.2) hb
    have hll : ∀ t : List (DataW H), t.length ≤ Rows.uptoBulkAll t := by
      intro t
      induction t with
      | nil => exact Nat.zero_le _
      | cons d t ih =>
        have : 1 ≤ Rows.uptoBulk d := by
          cases d with
          | lit z => cases z <;> simp [Rows.uptoBulk]
          | _ => simp [Rows.uptoBulk]
        rw [Rows.uptoBulkAll, List.length_cons]
        omega
    have hln := hll ((List.range len).map D)
    rw [List.length_map, List.length_range] at hln
    refine ⟨some y, m, (List.range len).map q, by rw [List.length_map, List.length_range]; exact hcs, fun j z hj => ?_, fun r hr => ?_, by rw [List.length_map, List.length_range]; omega, fun r hr => ?_, by omega⟩
    · rw [List.getElem?_map] at hj
      by_cases hi : j < len
      · rw [List.getElem?_range hi] at hj
        simp only [Option.map_some, Option.some.injEq] at hj
        subst hj
        obtain ⟨b, off, spot⟩ := y
        obtain ⟨h0, h1, h2, h3, h4, _⟩ := hq j hi
        have hspot : spot = none := by simpa [Addr.add] using World.cell?_spot (hq 0 (by omega)).1
        subst hspot
        rw [addr_add2] at h0 h1 h2 h3 h4
        rw [Nat.mul_comm] at h0 h1 h2 h3 h4
        exact ⟨b, off, rfl, World.block_lt_of_cell? W _ h0, h0, h1, h2, h3, h4⟩
      · rw [List.getElem?_eq_none (by simp; omega)] at hj
        cases hj
    · obtain ⟨i, hi, rfl⟩ := List.mem_map.1 hr
      exact (hq i (List.mem_range.1 hi)).2.2.2.2.2.1
    · obtain ⟨i, hi, rfl⟩ := List.mem_map.1 hr
      exact s2 i hi
end Go.Proofs.YthhhoppmbimeiaaDoor
