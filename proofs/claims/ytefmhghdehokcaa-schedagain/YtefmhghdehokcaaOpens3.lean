/-
  What is handed in, opened: lists of acts, with how long they may be.
-/
import Derived.Test.YtefmhghdehokcaaOpens2
namespace Go.Proofs.Ytefmhghdehokcaa
open Go.RowKit Go.Deep Go.ChangeShapes
theorem bytesOf54 : Try.prog.bytesOf 54 = 16 := by kernel_rfl
theorem weights_all {H : Type} {P : Program} {e : TypeId} {d : DataW H} {n : Nat} : ∀ {l : List (DataW H)}, d ∈ l → n ∈ d.weights P e → n ∈ DataW.weightsAll P e l
  | d0 :: l, h, hn => by
    rw [DataW.weightsAll, List.mem_append]
    rcases List.mem_cons.1 h with rfl | h
    · exact Or.inl hn
    · exact Or.inr (weights_all h hn)
theorem weights_of {H : Type} {P : Program} {ts : List TypeId} {ds : List (DataW H)} (h : (DataW.weightsEach P ts ds).all (· ≤ reachBytes) = true) {j : Nat} {t : TypeId} {d : DataW H} (ht : ts[j]? = some t) (hd : ds[j]? = some d) : ∀ n ∈ d.weights P t, n ≤ reachBytes := fun n hn => by
  simpa using List.all_eq_true.1 h _ (DataW.weights_mem_each ht hd n hn)
theorem acts_argW {H : Type} {enc : TypeId × Value → H} {W : World} {v : Value} {fuel : Nat} {x : DataW H × List MemPlace} (hf : DataW.trod enc Try.prog W 0 (fun _ => true) true fuel 32 [v] = some x) (hsz : ∀ n ∈ x.1.weights Try.prog 32, n ≤ reachBytes) : ∃ la, TaskArg W v la ∧ (∀ a n c, v = .slice a n c → a = none → c = 0 ∧ n = 0) ∧ la.length * 16 ≤ 140737488355328 := by
  rcases open_slice Try.underlying32 hf with ⟨hcs, _⟩ | ⟨y, l, c, m, n, D, Pl, hcs, _, hl, hm, hmm, hxd, hx⟩
  · simp at hcs
    exact ⟨[], ⟨none, 0, hcs, fun j y h => by simp at h⟩, fun a n c e _ => (by rw [hcs] at e; cases e; exact ⟨rfl, rfl⟩), by decide⟩
  · simp only [List.cons.injEq, and_true] at hcs
    have hmm' : m = c := by simpa using hmm
    subst hmm'
    have each : ∀ i, ∃ q : Int × Int, i < l → W.cell? (y.add (2 * i)) = some (.int .i64 q.1) ∧ W.cell? (y.add (2 * i + 1)) = some (.int .i64 q.2) := by
      intro i
      by_cases hi : i < l
      · obtain ⟨cs', h1, h2⟩ := hx i (by omega)
        rw [cells54] at h1
        obtain ⟨_, hlen, hcell⟩ := World.cells?_some h1
        obtain ⟨y0, y1, k, hD, _, g0, g1⟩ := trod_struct2 Try.underlying54 h2
        match cs', hlen with
        | [v0, v1], _ =>
          simp [cells3] at g0 g1
          obtain ⟨a0, e0, _, _⟩ := DataW.trod_int Try.underlying3 g0
          obtain ⟨a1, e1, _, _⟩ := DataW.trod_int Try.underlying3 g1
          simp at e0 e1
          subst e0 e1
          have c0 := hcell 0 (by omega)
          have c1 := hcell 1 (by omega)
          rw [add_add, Nat.mul_comm] at c0 c1
          exact ⟨(a0, a1), fun _ => ⟨by simpa using c0, by simpa using c1⟩⟩
      · exact ⟨(0, 0), fun h => absurd h hi⟩
    obtain ⟨q, hq⟩ := Classical.axiomOfChoice each
    have hw := hsz (m * 16) (by rw [hxd]; simp [DataW.weights, Try.underlying32, bytesOf54]; left; omega)
    have hrb : reachBytes < 140737488355328 := by decide
    refine ⟨(List.range l).map q, ⟨some y, m, by rw [List.length_map, List.length_range]; exact hcs, fun j z hj => ?_⟩, fun a n c e e2 => (by rw [hcs, e2] at e; cases e), by rw [List.length_map, List.length_range]; omega⟩
    rw [List.getElem?_map] at hj
    by_cases hi : j < l
    · rw [List.getElem?_range hi] at hj
      simp only [Option.map_some, Option.some.injEq] at hj
      subst hj
      obtain ⟨b, off, spot⟩ := y
      obtain ⟨h0, h1⟩ := hq j hi
      have hspot : spot = none := by simpa [Addr.add] using World.cell?_spot (hq 0 (by omega)).1
      subst hspot
      rw [addr_add] at h0 h1
      exact ⟨b, off, rfl, World.block_lt_of_cell? W _ h0, h0, h1⟩
    · rw [List.getElem?_eq_none (by simp; omega)] at hj
      cases hj
theorem tasks_argW {H : Type} {enc : TypeId × Value → H} {W : World} {v : Value} {fuel : Nat} {x : DataW H × List MemPlace} (hf : DataW.trod enc Try.prog W 0 (fun _ => true) true fuel 26 [v] = some x) (hsz : ∀ n ∈ x.1.weights Try.prog 26, n ≤ reachBytes) :
    ∃ (a : Option Addr) (c : Nat) (tv : List (Value × List (Int × Int))), v = .slice a tv.length c ∧ VA W.heap.size W a (tv.map (·.1)) ∧ (∀ y ∈ tv, TaskArg W y.1 y.2 ∧ (∀ a n c, y.1 = .slice a n c → a = none → c = 0 ∧ n = 0) ∧ y.2.length * 16 ≤ 140737488355328) ∧ tv.length ≤ 9223372036854775807 := by
  rcases open_slice1 Try.underlying26 cells32 hf with ⟨hcs, _⟩ | ⟨y, l, c, m, n, V, D, Pl, hcs, _, hl, hm, hmm, hxd, hx⟩
  · simp at hcs
    exact ⟨none, 0, [], hcs, fun j y h => by simp at h, fun y h => by simp at h, by decide⟩
  · simp only [List.cons.injEq, and_true] at hcs
    have hmm' : m = c := by simpa using hmm
    subst hmm'
    have each : ∀ i, ∃ q : List (Int × Int), i < l → TaskArg W (V i) q ∧ (∀ a n c, V i = .slice a n c → a = none → c = 0 ∧ n = 0) ∧ q.length * 16 ≤ 140737488355328 := by
      intro i
      by_cases hi : i < l
      · obtain ⟨h1, h2⟩ := hx i (by omega)
        obtain ⟨la, h3⟩ := acts_argW h2 (fun n hn => hsz n (by
          rw [hxd]
          have hmem : D i ∈ (List.range l).map D := List.mem_map.2 ⟨i, List.mem_range.2 hi, rfl⟩
          simp only [DataW.weights, Try.underlying26, List.mem_cons, List.mem_append]
          exact Or.inr (Or.inl (weights_all hmem hn))))
        exact ⟨la, fun _ => h3⟩
      · exact ⟨[], fun h => absurd h hi⟩
    obtain ⟨q, hq⟩ := Classical.axiomOfChoice each
    refine ⟨some y, m, (List.range l).map (fun i => (V i, q i)), by rw [List.length_map, List.length_range]; exact hcs, fun j s hj => ?_, fun z hz => ?_, by rw [List.length_map, List.length_range]; have h1 := hm; unfold maxLen at h1; omega⟩
    · rw [List.getElem?_map, List.getElem?_map] at hj
      by_cases hi : j < l
      · rw [List.getElem?_range hi] at hj
        simp only [Option.map_some, Option.some.injEq] at hj
        subst hj
        obtain ⟨b, off, spot⟩ := y
        have hs0 := (hx j (by omega)).1
        have hspot : spot = none := by simpa [Addr.add] using World.cell?_spot (hx 0 (by omega)).1
        subst hspot
        rw [addr_add] at hs0
        exact ⟨b, off, rfl, World.block_lt_of_cell? W _ hs0, hs0⟩
      · rw [List.getElem?_eq_none (by simp; omega)] at hj
        cases hj
    · obtain ⟨j, hj, rfl⟩ := List.mem_map.1 hz
      exact hq j (List.mem_range.1 hj)
end Go.Proofs.Ytefmhghdehokcaa
