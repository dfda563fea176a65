/-
  What is handed in, opened: a slice of numbers.
  What is handed in, opened: a timing, lists of acts.
  What is handed in, opened: lists of acts, with how long they may be.
  What is handed in, opened: a list of calls.
  Two loops that stand the same.
  SchedPlays: where both begin; tasks and calls that are handed in.
  The walk of SchedPlays: whatever the timing, tasks and calls, the call returns true, and turns nothing that was there.
-/
import Derived.Test.YtefmhghdehokcaaBase
import Derived.ProofKit
import Derived.OpenShut
import Derived.ShutString
import Derived.ChangeOld
import Derived.Below
import Derived.SizedLaws
import Derived.JoinedCond
import Derived.Deep.Slices
import Derived.Deep.Strs
import Derived.Test.YtefmhghdehokcaaNews
import Derived.Test.YtefmhghdehokcaaArgs
import Derived.ChangeSame
import Derived.Test.YtefmhghdehokcaaTwin
import Derived.Test.YtefmhghdehokcaaTwo
import Derived.Test.YtefmhghdehokcaaRuns
import Derived.Test.YtefmhghdehokcaaPlayA
import Derived.Test.YtefmhghdehokcaaPlayZ
import Derived.Test.YtefmhghdehokcaaNewsL
namespace Go.Proofs.Ytefmhghdehokcaa
open Go.RowKit Go.Deep
theorem cells3 : Try.prog.cellsOf 3 = 1 := by kernel_rfl
theorem ints_open {H : Type} {enc : TypeId × Value → H} {W : World} {a : Option Addr} {len cap fuel : Nat} {t : TypeId} {x : DataW H × List MemPlace} (ht : Try.prog.underlying t = some (.slice 3))
    (hf : DataW.trod enc Try.prog W 0 (fun _ => true) true fuel t [.slice a len cap] = some x) :
    ∃ ks : List Int, ks.length = len ∧ VA W.heap.size W a (ks.map iV) ∧ (∀ k ∈ ks, (Lit.int .i64 k).wf = true) ∧ len ≤ cap ∧ (a = none → cap = 0) := by
  rcases open_slice1 ht cells3 hf with ⟨hcs, _⟩ | ⟨y, l, c, m, n, V, D, Pl, hcs, _, hl, hm, hmm, hxd, hx⟩
  · simp at hcs
    obtain ⟨rfl, rfl, rfl⟩ := hcs
    exact ⟨[], rfl, fun j s h => by simp at h, fun s h => by simp at h, Nat.le_refl _, fun _ => rfl⟩
  · simp only [List.cons.injEq, Value.slice.injEq, and_true] at hcs
    obtain ⟨rfl, rfl, rfl⟩ := hcs
    have hmm' : m = cap := by simpa using hmm
    subst hmm'
    have each : ∀ i, ∃ q : Int, i < len → W.cell? (y.add i) = some (.int .i64 q) ∧ (Lit.int .i64 q).wf = true := by
      intro i
      by_cases hi : i < len
      · obtain ⟨h1, h2⟩ := hx i (by omega)
        obtain ⟨a2, e2, f2, w2⟩ := DataW.trod_int Try.underlying3 h2
        simp at e2
        rw [e2] at h1
        exact ⟨a2, fun _ => ⟨h1, w2⟩⟩
      · exact ⟨0, fun h => absurd h hi⟩
    obtain ⟨q, hq⟩ := Classical.axiomOfChoice each
    refine ⟨(List.range len).map q, by simp, ?_, ?_, hl, fun e => by cases e⟩
    · intro j s hj
      rw [List.getElem?_map, List.getElem?_map] at hj
      by_cases hi : j < len
      · rw [List.getElem?_range hi] at hj
        simp only [Option.map_some, Option.some.injEq] at hj
        subst hj
        obtain ⟨b, off, spot⟩ := y
        have hs0 := (hq j hi).1
        have hspot : spot = none := by simpa [Addr.add] using World.cell?_spot (hq 0 (by omega)).1
        subst hspot
        rw [addr_add] at hs0
        exact ⟨b, off, rfl, World.block_lt_of_cell? W _ hs0, hs0⟩
      · rw [List.getElem?_eq_none (by simp; omega)] at hj
        cases hj
    · intro s hs
      obtain ⟨j, hj, rfl⟩ := List.mem_map.1 hs
      exact (hq j (List.mem_range.1 hj)).2
end Go.Proofs.Ytefmhghdehokcaa
namespace Go.Proofs.Ytefmhghdehokcaa
open Go.RowKit Go.Deep Go.ChangeShapes
theorem cells45 : Try.prog.cellsOf 45 = 1 := by kernel_rfl
theorem cells22 : Try.prog.cellsOf 22 = 1 := by kernel_rfl
theorem cells23 : Try.prog.cellsOf 23 = 1 := by kernel_rfl
theorem cells32 : Try.prog.cellsOf 32 = 1 := by kernel_rfl
theorem cells54 : Try.prog.cellsOf 54 = 2 := by kernel_rfl
theorem cells25 : Try.prog.cellsOf 25 = 3 := by kernel_rfl
theorem ints_arg {H : Type} {enc : TypeId × Value → H} {W : World} {v : Value} {fuel : Nat} {t : TypeId} {x : DataW H × List MemPlace} (ht : Try.prog.underlying t = some (.slice 3))
    (hf : DataW.trod enc Try.prog W 0 (fun _ => true) true fuel t [v] = some x) :
    ∃ (a : Option Addr) (len cap : Nat) (ks : List Int), v = .slice a len cap ∧ Arg W a len cap (ks.map iV) := by
  rcases open_slice1 ht cells3 hf with ⟨hcs, _⟩ | ⟨y, l, c, m, n, V, D, Pl, hcs, _, hl, hm, hmm, hxd, hx⟩
  · simp at hcs
    exact ⟨none, 0, 0, [], hcs, rfl, fun j s h => by simp at h, Nat.le_refl _, fun _ => rfl⟩
  · simp only [List.cons.injEq, and_true] at hcs
    have hmm' : m = c := by simpa using hmm
    subst hmm'
    have each : ∀ i, ∃ q : Int, i < l → W.cell? (y.add i) = some (.int .i64 q) := by
      intro i
      by_cases hi : i < l
      · obtain ⟨h1, h2⟩ := hx i (by omega)
        obtain ⟨a2, e2, f2, w2⟩ := DataW.trod_int Try.underlying3 h2
        simp at e2
        rw [e2] at h1
        exact ⟨a2, fun _ => h1⟩
      · exact ⟨0, fun h => absurd h hi⟩
    obtain ⟨q, hq⟩ := Classical.axiomOfChoice each
    refine ⟨some y, l, m, (List.range l).map q, hcs, by simp, ?_, hl, fun e => by cases e⟩
    intro j s hj
    rw [List.getElem?_map, List.getElem?_map] at hj
    by_cases hi : j < l
    · rw [List.getElem?_range hi] at hj
      simp only [Option.map_some, Option.some.injEq] at hj
      subst hj
      obtain ⟨b, off, spot⟩ := y
      have hs0 := hq j hi
      have hspot : spot = none := by simpa [Addr.add] using World.cell?_spot (hq 0 (by omega))
      subst hspot
      rw [addr_add] at hs0
      exact ⟨b, off, rfl, World.block_lt_of_cell? W _ hs0, hs0⟩
    · rw [List.getElem?_eq_none (by simp; omega)] at hj
      cases hj
theorem u64s_arg {H : Type} {enc : TypeId × Value → H} {W : World} {v : Value} {fuel : Nat} {t : TypeId} {x : DataW H × List MemPlace} (ht : Try.prog.underlying t = some (.slice 45))
    (hf : DataW.trod enc Try.prog W 0 (fun _ => true) true fuel t [v] = some x) :
    ∃ (a : Option Addr) (len cap : Nat) (ks : List Int), v = .slice a len cap ∧ Arg W a len cap (ks.map nV) := by
  rcases open_slice1 ht cells45 hf with ⟨hcs, _⟩ | ⟨y, l, c, m, n, V, D, Pl, hcs, _, hl, hm, hmm, hxd, hx⟩
  · simp at hcs
    exact ⟨none, 0, 0, [], hcs, rfl, fun j s h => by simp at h, Nat.le_refl _, fun _ => rfl⟩
  · simp only [List.cons.injEq, and_true] at hcs
    have hmm' : m = c := by simpa using hmm
    subst hmm'
    have each : ∀ i, ∃ q : Int, i < l → W.cell? (y.add i) = some (.int .u64 q) := by
      intro i
      by_cases hi : i < l
      · obtain ⟨h1, h2⟩ := hx i (by omega)
        obtain ⟨a2, e2, f2, w2⟩ := DataW.trod_int Try.underlying45 h2
        simp at e2
        rw [e2] at h1
        exact ⟨a2, fun _ => h1⟩
      · exact ⟨0, fun h => absurd h hi⟩
    obtain ⟨q, hq⟩ := Classical.axiomOfChoice each
    refine ⟨some y, l, m, (List.range l).map q, hcs, by simp, ?_, hl, fun e => by cases e⟩
    intro j s hj
    rw [List.getElem?_map, List.getElem?_map] at hj
    by_cases hi : j < l
    · rw [List.getElem?_range hi] at hj
      simp only [Option.map_some, Option.some.injEq] at hj
      subst hj
      obtain ⟨b, off, spot⟩ := y
      have hs0 := hq j hi
      have hspot : spot = none := by simpa [Addr.add] using World.cell?_spot (hq 0 (by omega))
      subst hspot
      rw [addr_add] at hs0
      exact ⟨b, off, rfl, World.block_lt_of_cell? W _ hs0, hs0⟩
    · rw [List.getElem?_eq_none (by simp; omega)] at hj
      cases hj
theorem timing_arg {H : Type} {enc : TypeId × Value → H} {W : World} {cs : List Value} {fuel : Nat} {x : DataW H × List MemPlace} (hf : DataW.trod enc Try.prog W 0 (fun _ => true) true fuel 25 cs = some x) :
    ∃ (ap ak ad : Option Addr) (np nk nd cp ck cd : Nat) (picks ticks draws : List Int), cs = [.slice ap np cp, .slice ak nk ck, .slice ad nd cd] ∧ Arg W ap np cp (picks.map iV) ∧ Arg W ak nk ck (ticks.map iV) ∧ Arg W ad nd cd (draws.map nV) := by
  obtain ⟨y0, y1, y2, k, _, hl, g0, g1, g2⟩ := trod_struct3 Try.underlying25 hf
  rw [cells25] at hl
  match cs, hl with
  | [v0, v1, v2], _ =>
    simp [cells22, cells23] at g0 g1 g2
    obtain ⟨ap, np, cp, picks, rfl, h0⟩ := ints_arg Try.underlying22 g0
    obtain ⟨ak, nk, ck, ticks, rfl, h1⟩ := ints_arg Try.underlying22 g1
    obtain ⟨ad, nd, cd, draws, rfl, h2⟩ := u64s_arg Try.underlying23 g2
    exact ⟨ap, ak, ad, np, nk, nd, cp, ck, cd, picks, ticks, draws, rfl, h0, h1, h2⟩
theorem acts_arg {H : Type} {enc : TypeId × Value → H} {W : World} {v : Value} {fuel : Nat} {x : DataW H × List MemPlace} (hf : DataW.trod enc Try.prog W 0 (fun _ => true) true fuel 32 [v] = some x) : ∃ la, TaskArg W v la := by
  rcases open_slice Try.underlying32 hf with ⟨hcs, _⟩ | ⟨y, l, c, m, n, D, Pl, hcs, _, hl, hm, hmm, hxd, hx⟩
  · simp at hcs
    exact ⟨[], none, 0, hcs, fun j y h => by simp at h⟩
  · simp only [List.cons.injEq, and_true] at hcs
    have hmm' : m = c := by simpa using hmm
    subst hmm'
    have each : ∀ i, ∃ q : Int × Int, i < l → W.cell? (y.add (2 * i)) = some (.int .i64 q.1) ∧ W.cell? (y.add (2 * i + 1)) = some (.int .i64 q.2) := by
      intro i
      by_cases hi : i < l
      · obtain ⟨cs', h1, h2⟩ := hx i (by omega)
        rw [cells54] at h1
        obtain ⟨_, hlen, hcell⟩ := World.cells?_some h1
        obtain ⟨y0, y1, k, hD, _, g0, g1⟩ := trod_struct2 Try.underlying54 h2
        match cs', hlen with
        | [v0, v1], _ =>
          simp [cells3] at g0 g1
          obtain ⟨a0, e0, _, _⟩ := DataW.trod_int Try.underlying3 g0
          obtain ⟨a1, e1, _, _⟩ := DataW.trod_int Try.underlying3 g1
          simp at e0 e1
          subst e0 e1
          have c0 := hcell 0 (by omega)
          have c1 := hcell 1 (by omega)
          rw [add_add, Nat.mul_comm] at c0 c1
          exact ⟨(a0, a1), fun _ => ⟨by simpa using c0, by simpa using c1⟩⟩
      · exact ⟨(0, 0), fun h => absurd h hi⟩
    obtain ⟨q, hq⟩ := Classical.axiomOfChoice each
    refine ⟨(List.range l).map q, some y, m, by rw [List.length_map, List.length_range]; exact hcs, fun j z hj => ?_⟩
    rw [List.getElem?_map] at hj
    by_cases hi : j < l
    · rw [List.getElem?_range hi] at hj
      simp only [Option.map_some, Option.some.injEq] at hj
      subst hj
      obtain ⟨b, off, spot⟩ := y
      obtain ⟨h0, h1⟩ := hq j hi
      have hspot : spot = none := by simpa [Addr.add] using World.cell?_spot (hq 0 (by omega)).1
      subst hspot
      rw [addr_add] at h0 h1
      exact ⟨b, off, rfl, World.block_lt_of_cell? W _ h0, h0, h1⟩
    · rw [List.getElem?_eq_none (by simp; omega)] at hj
      cases hj
theorem tasks_arg {H : Type} {enc : TypeId × Value → H} {W : World} {v : Value} {fuel : Nat} {x : DataW H × List MemPlace} (hf : DataW.trod enc Try.prog W 0 (fun _ => true) true fuel 26 [v] = some x) :
    ∃ (a : Option Addr) (c : Nat) (tv : List (Value × List (Int × Int))), v = .slice a tv.length c ∧ VA W.heap.size W a (tv.map (·.1)) ∧ ∀ y ∈ tv, TaskArg W y.1 y.2 := by
  rcases open_slice1 Try.underlying26 cells32 hf with ⟨hcs, _⟩ | ⟨y, l, c, m, n, V, D, Pl, hcs, _, hl, hm, hmm, hxd, hx⟩
  · simp at hcs
    exact ⟨none, 0, [], hcs, fun j y h => by simp at h, fun y h => by simp at h⟩
  · simp only [List.cons.injEq, and_true] at hcs
    have hmm' : m = c := by simpa using hmm
    subst hmm'
    have each : ∀ i, ∃ q : List (Int × Int), i < l → TaskArg W (V i) q := by
      intro i
      by_cases hi : i < l
      · obtain ⟨h1, h2⟩ := hx i (by omega)
        obtain ⟨la, h3⟩ := acts_arg h2
        exact ⟨la, fun _ => h3⟩
      · exact ⟨[], fun h => absurd h hi⟩
    obtain ⟨q, hq⟩ := Classical.axiomOfChoice each
    refine ⟨some y, m, (List.range l).map (fun i => (V i, q i)), by rw [List.length_map, List.length_range]; exact hcs, fun j s hj => ?_, fun z hz => ?_⟩
    · rw [List.getElem?_map, List.getElem?_map] at hj
      by_cases hi : j < l
      · rw [List.getElem?_range hi] at hj
        simp only [Option.map_some, Option.some.injEq] at hj
        subst hj
        obtain ⟨b, off, spot⟩ := y
        have hs0 := (hx j (by omega)).1
        have hspot : spot = none := by simpa [Addr.add] using World.cell?_spot (hx 0 (by omega)).1
        subst hspot
        rw [addr_add] at hs0
        exact ⟨b, off, rfl, World.block_lt_of_cell? W _ hs0, hs0⟩
      · rw [List.getElem?_eq_none (by simp; omega)] at hj
        cases hj
    · obtain ⟨j, hj, rfl⟩ := List.mem_map.1 hz
      exact hq j (List.mem_range.1 hj)
end Go.Proofs.Ytefmhghdehokcaa
namespace Go.Proofs.Ytefmhghdehokcaa
open Go.RowKit Go.Deep Go.ChangeShapes
theorem bytesOf54 : Try.prog.bytesOf 54 = 16 := by kernel_rfl
theorem weights_all {H : Type} {P : Program} {e : TypeId} {d : DataW H} {n : Nat} : ∀ {l : List (DataW H)}, d ∈ l → n ∈ d.weights P e → n ∈ DataW.weightsAll P e l
  | d0 :: l, h, hn => by
    rw [DataW.weightsAll, List.mem_append]
    rcases List.mem_cons.1 h with rfl | h
    · exact Or.inl hn
    · exact Or.inr (weights_all h hn)
theorem weights_of {H : Type} {P : Program} {ts : List TypeId} {ds : List (DataW H)} (h : (DataW.weightsEach P ts ds).all (· ≤ reachBytes) = true) {j : Nat} {t : TypeId} {d : DataW H} (ht : ts[j]? = some t) (hd : ds[j]? = some d) : ∀ n ∈ d.weights P t, n ≤ reachBytes := fun n hn => by
  simpa using List.all_eq_true.1 h _ (DataW.weights_mem_each ht hd n hn)
theorem acts_argW {H : Type} {enc : TypeId × Value → H} {W : World} {v : Value} {fuel : Nat} {x : DataW H × List MemPlace} (hf : DataW.trod enc Try.prog W 0 (fun _ => true) true fuel 32 [v] = some x) (hsz : ∀ n ∈ x.1.weights Try.prog 32, n ≤ reachBytes) : ∃ la, TaskArg W v la ∧ (∀ a n c, v = .slice a n c → a = none → c = 0 ∧ n = 0) ∧ la.length * 16 ≤ 140737488355328 := by
  rcases open_slice Try.underlying32 hf with ⟨hcs, _⟩ | ⟨y, l, c, m, n, D, Pl, hcs, _, hl, hm, hmm, hxd, hx⟩
  · simp at hcs
    exact ⟨[], ⟨none, 0, hcs, fun j y h => by simp at h⟩, fun a n c e _ => (by rw [hcs] at e; cases e; exact ⟨rfl, rfl⟩), by decide⟩
  · simp only [List.cons.injEq, and_true] at hcs
    have hmm' : m = c := by simpa using hmm
    subst hmm'
    have each : ∀ i, ∃ q : Int × Int, i < l → W.cell? (y.add (2 * i)) = some (.int .i64 q.1) ∧ W.cell? (y.add (2 * i + 1)) = some (.int .i64 q.2) := by
      intro i
      by_cases hi : i < l
      · obtain ⟨cs', h1, h2⟩ := hx i (by omega)
        rw [cells54] at h1
        obtain ⟨_, hlen, hcell⟩ := World.cells?_some h1
        obtain ⟨y0, y1, k, hD, _, g0, g1⟩ := trod_struct2 Try.underlying54 h2
        match cs', hlen with
        | [v0, v1], _ =>
          simp [cells3] at g0 g1
          obtain ⟨a0, e0, _, _⟩ := DataW.trod_int Try.underlying3 g0
          obtain ⟨a1, e1, _, _⟩ := DataW.trod_int Try.underlying3 g1
          simp at e0 e1
          subst e0 e1
          have c0 := hcell 0 (by omega)
          have c1 := hcell 1 (by omega)
          rw [add_add, Nat.mul_comm] at c0 c1
          exact ⟨(a0, a1), fun _ => ⟨by simpa using c0, by simpa using c1⟩⟩
      · exact ⟨(0, 0), fun h => absurd h hi⟩
    obtain ⟨q, hq⟩ := Classical.axiomOfChoice each
    have hw := hsz (m * 16) (by rw [hxd]; simp [DataW.weights, Try.underlying32, bytesOf54]; left; omega)
    have hrb : reachBytes < 140737488355328 := by decide
    refine ⟨(List.range l).map q, ⟨some y, m, by rw [List.length_map, List.length_range]; exact hcs, fun j z hj => ?_⟩, fun a n c e e2 => (by rw [hcs, e2] at e; cases e), by rw [List.length_map, List.length_range]; omega⟩
    rw [List.getElem?_map] at hj
    by_cases hi : j < l
    · rw [List.getElem?_range hi] at hj
      simp only [Option.map_some, Option.some.injEq] at hj
      subst hj
      obtain ⟨b, off, spot⟩ := y
      obtain ⟨h0, h1⟩ := hq j hi
      have hspot : spot = none := by simpa [Addr.add] using World.cell?_spot (hq 0 (by omega)).1
      subst hspot
      rw [addr_add] at h0 h1
      exact ⟨b, off, rfl, World.block_lt_of_cell? W _ h0, h0, h1⟩
    · rw [List.getElem?_eq_none (by simp; omega)] at hj
      cases hj
theorem tasks_argW {H : Type} {enc : TypeId × Value → H} {W : World} {v : Value} {fuel : Nat} {x : DataW H × List MemPlace} (hf : DataW.trod enc Try.prog W 0 (fun _ => true) true fuel 26 [v] = some x) (hsz : ∀ n ∈ x.1.weights Try.prog 26, n ≤ reachBytes) :
    ∃ (a : Option Addr) (c : Nat) (tv : List (Value × List (Int × Int))), v = .slice a tv.length c ∧ VA W.heap.size W a (tv.map (·.1)) ∧ (∀ y ∈ tv, TaskArg W y.1 y.2 ∧ (∀ a n c, y.1 = .slice a n c → a = none → c = 0 ∧ n = 0) ∧ y.2.length * 16 ≤ 140737488355328) ∧ tv.length ≤ 9223372036854775807 := by
  rcases open_slice1 Try.underlying26 cells32 hf with ⟨hcs, _⟩ | ⟨y, l, c, m, n, V, D, Pl, hcs, _, hl, hm, hmm, hxd, hx⟩
  · simp at hcs
    exact ⟨none, 0, [], hcs, fun j y h => by simp at h, fun y h => by simp at h, by decide⟩
  · simp only [List.cons.injEq, and_true] at hcs
    have hmm' : m = c := by simpa using hmm
    subst hmm'
    have each : ∀ i, ∃ q : List (Int × Int), i < l → TaskArg W (V i) q ∧ (∀ a n c, V i = .slice a n c → a = none → c = 0 ∧ n = 0) ∧ q.length * 16 ≤ 140737488355328 := by
      intro i
      by_cases hi : i < l
      · obtain ⟨h1, h2⟩ := hx i (by omega)
        obtain ⟨la, h3⟩ := acts_argW h2 (fun n hn => hsz n (by
          rw [hxd]
          have hmem : D i ∈ (List.range l).map D := List.mem_map.2 ⟨i, List.mem_range.2 hi, rfl⟩
          simp only [DataW.weights, Try.underlying26, List.mem_cons, List.mem_append]
          exact Or.inr (Or.inl (weights_all hmem hn))))
        exact ⟨la, fun _ => h3⟩
      · exact ⟨[], fun h => absurd h hi⟩
    obtain ⟨q, hq⟩ := Classical.axiomOfChoice each
    refine ⟨some y, m, (List.range l).map (fun i => (V i, q i)), by rw [List.length_map, List.length_range]; exact hcs, fun j s hj => ?_, fun z hz => ?_, by rw [List.length_map, List.length_range]; have h1 := hm; unfold maxLen at h1; omega⟩
    · rw [List.getElem?_map, List.getElem?_map] at hj
      by_cases hi : j < l
      · rw [List.getElem?_range hi] at hj
        simp only [Option.map_some, Option.some.injEq] at hj
        subst hj
        obtain ⟨b, off, spot⟩ := y
        have hs0 := (hx j (by omega)).1
        have hspot : spot = none := by simpa [Addr.add] using World.cell?_spot (hx 0 (by omega)).1
        subst hspot
        rw [addr_add] at hs0
        exact ⟨b, off, rfl, World.block_lt_of_cell? W _ hs0, hs0⟩
      · rw [List.getElem?_eq_none (by simp; omega)] at hj
        cases hj
    · obtain ⟨j, hj, rfl⟩ := List.mem_map.1 hz
      exact hq j (List.mem_range.1 hj)
end Go.Proofs.Ytefmhghdehokcaa
namespace Go.Proofs.Ytefmhghdehokcaa
open Go.RowKit Go.Deep Go.ChangeShapes
theorem cells35 : Try.prog.cellsOf 35 = 3 := by kernel_rfl
theorem bytesOf35 : Try.prog.bytesOf 35 = 40 := by kernel_rfl
/-- A call that is handed in: its kind, its number, its acts and where they lie. -/
structure OpV where
  kk : Int
  nn : Int
  v : Value
  la : List (Int × Int)
def OpsAt (w : World) (a : Option Addr) (l : List OpV) : Prop := ∀ (j : Nat) y, l[j]? = some y → ∃ b off, a = some ⟨b, off, none⟩ ∧ b < w.heap.size ∧ w.cell? ⟨b, off + 3 * j, none⟩ = some (.int .i64 y.kk) ∧ w.cell? ⟨b, off + 3 * j + 1, none⟩ = some (.int .i64 y.nn) ∧ w.cell? ⟨b, off + 3 * j + 2, none⟩ = some y.v
def OpOk (w : World) (y : OpV) : Prop := TaskArg w y.v y.la ∧ (∀ a n c, y.v = .slice a n c → a = none → c = 0 ∧ n = 0) ∧ y.la.length * 16 ≤ 140737488355328
theorem ops_argW {H : Type} {enc : TypeId × Value → H} {W : World} {v : Value} {fuel : Nat} {x : DataW H × List MemPlace} (hf : DataW.trod enc Try.prog W 0 (fun _ => true) true fuel 27 [v] = some x) (hsz : ∀ n ∈ x.1.weights Try.prog 27, n ≤ reachBytes) :
    ∃ (a : Option Addr) (c : Nat) (ov : List OpV), v = .slice a ov.length c ∧ OpsAt W a ov ∧ (∀ y ∈ ov, OpOk W y) ∧ ov.length * 40 ≤ 140737488355328 := by
  rcases open_slice Try.underlying27 hf with ⟨hcs, _⟩ | ⟨y, l, c, m, n, D, Pl, hcs, _, hl, hm, hmm, hxd, hx⟩
  · simp at hcs
    exact ⟨none, 0, [], hcs, fun j y h => by simp at h, fun y h => by simp at h, by decide⟩
  · simp only [List.cons.injEq, and_true] at hcs
    have hmm' : m = c := by simpa using hmm
    subst hmm'
    have each : ∀ i, ∃ q : OpV, i < l → (W.cell? (y.add (3 * i)) = some (.int .i64 q.kk) ∧ W.cell? (y.add (3 * i + 1)) = some (.int .i64 q.nn) ∧ W.cell? (y.add (3 * i + 2)) = some q.v) ∧ OpOk W q := by
      intro i
      by_cases hi : i < l
      · obtain ⟨cs', h1, h2⟩ := hx i (by omega)
        rw [cells35] at h1
        obtain ⟨_, hlen, hcell⟩ := World.cells?_some h1
        obtain ⟨y0, y1, y2, k, hD, _, g0, g1, g2⟩ := trod_struct3 Try.underlying35 h2
        match cs', hlen with
        | [v0, v1, v2], _ =>
          simp [cells3, cells32] at g0 g1 g2
          obtain ⟨a0, e0, _, _⟩ := DataW.trod_int Try.underlying3 g0
          obtain ⟨a1, e1, _, _⟩ := DataW.trod_int Try.underlying3 g1
          simp at e0 e1
          subst e0 e1
          have c0 := hcell 0 (by omega)
          have c1 := hcell 1 (by omega)
          have c2 := hcell 2 (by omega)
          rw [add_add, Nat.mul_comm] at c0 c1 c2
          obtain ⟨la, h3⟩ := acts_argW g2 (fun n hn => hsz n (by
            rw [hxd]
            have hmem : D i ∈ (List.range l).map D := List.mem_map.2 ⟨i, List.mem_range.2 hi, rfl⟩
            simp only [DataW.weights, Try.underlying27, List.mem_cons, List.mem_append]
            refine Or.inr (Or.inl (weights_all hmem ?_))
            have hD1 : D i = _ := congrArg Prod.fst hD
            rw [hD1]
            simp only [DataW.weights, Try.underlying35]
            exact DataW.weights_mem_each (j := 2) (t := 32) (d := y2.fst) rfl rfl n hn))
          exact ⟨⟨a0, a1, v2, la⟩, fun _ => ⟨⟨by simpa using c0, by simpa using c1, by simpa using c2⟩, h3⟩⟩
      · exact ⟨⟨0, 0, .slice none 0 0, []⟩, fun h => absurd h hi⟩
    obtain ⟨q, hq⟩ := Classical.axiomOfChoice each
    have hw := hsz (m * 40) (by rw [hxd]; simp [DataW.weights, Try.underlying27, bytesOf35]; left; omega)
    have hrb : reachBytes < 140737488355328 := by decide
    refine ⟨some y, m, (List.range l).map q, by rw [List.length_map, List.length_range]; exact hcs, fun j z hj => ?_, fun z hz => ?_, by rw [List.length_map, List.length_range]; omega⟩
    · rw [List.getElem?_map] at hj
      by_cases hi : j < l
      · rw [List.getElem?_range hi] at hj
        simp only [Option.map_some, Option.some.injEq] at hj
        subst hj
        obtain ⟨b, off, spot⟩ := y
        obtain ⟨⟨h0, h1, h2⟩, _⟩ := hq j hi
        have hspot : spot = none := by simpa [Addr.add] using World.cell?_spot (hq 0 (by omega)).1.1
        subst hspot
        rw [addr_add] at h0 h1 h2
        exact ⟨b, off, rfl, World.block_lt_of_cell? W _ h0, h0, h1, h2⟩
      · rw [List.getElem?_eq_none (by simp; omega)] at hj
        cases hj
    · obtain ⟨j, hj, rfl⟩ := List.mem_map.1 hz
      exact (hq j (List.mem_range.1 hj)).2
end Go.Proofs.Ytefmhghdehokcaa
namespace Go.Proofs.Ytefmhghdehokcaa
open Go.RowKit
theorem va_grow {w w' : World} {a : Option Addr} {vs : List Value} (h : VA w.heap.size w a vs) (k : Below w.heap.size w w') : VA w'.heap.size w' a vs := by
  intro j v hj
  obtain ⟨b, off, h1, h2, h3⟩ := (h.below (fun b hb => k.block b hb)) j v hj
  exact ⟨b, off, h1, by have := k.size; omega, h3⟩
theorem tl_of {picks ticks : List Int} {nd : Nat} (h : chkT picks ticks nd = 0) : ticks.length ≤ 65536 := by
  unfold chkT at h
  split at h
  · omega
  · rename_i hn
    omega
/-- What a loop is when it is new. -/
def P0 (picks ticks draws : List Int) : PS where
  picks := picks
  ticks := ticks
  tasks := []
  waits := []
  steps := 0
  now := 0
  draws := draws
  fu := 0
theorem P0_bd {picks ticks draws : List Int} (h1 : ∀ x ∈ picks, 0 ≤ x) (h2 : ∀ x ∈ ticks, 0 ≤ x ∧ x < 2147483648) (h3 : draws.length ≤ 65536) (h4 : ticks.length ≤ 65536) : Bd (P0 picks ticks draws) where
  len := by show ([] : List (List (Int × Int) × List Int)).length ≤ 64; decide
  wlen := rfl
  acts := fun x hx => by simp [P0] at hx
  fu := Nat.le_refl _
  draws := h3
  tlen := h4
  tcs := h2
  now0 := Int.le_refl _
  now1 := by show (0 : Int) ≤ _; simp [P0]
  pks := h1
theorem start_bx (ap ak ad : Option Addr) (np nk nd cp ck cd : Nat) (picks ticks draws : List Int) (w : World) (hp : Arg w ap np cp (picks.map iV)) (hk : Arg w ak nk ck (ticks.map iV)) (hd : Arg w ad nd cd (draws.map nV)) (hc : chkT picks ticks nd = 0) :
    Calls Try.prog 9 #[.agg #[.slice ap np cp, .slice ak nk ck, .slice ad nd cd]] w fun r w' => ∃ b p x S, r = .returned (.tuple #[.pointer (some ⟨b, 0, none⟩), .bool true]) ∧ BX w' b p x (.slice none 0 0) (.slice none 0 0) S ∧ S.ps = P0 picks ticks draws ∧ LoS w.heap.size S ∧ (∀ k, GF b p x (.slice none 0 0) (.slice none 0 0) S k → p ≤ k ∧ k < w'.heap.size) ∧ w.heap.size ≤ p ∧ Below w.heap.size w w' := by
  refine (start_okL ap ak ad np nk nd cp ck cd picks ticks draws w hp hk hd hc).mono ?_
  rintro r w' ⟨b, p, x, vp, vk, vd, rfl, h1, h2, h3, h4, h5, h6, h7, h8⟩
  have B : BX w' b p x (.slice none 0 0) (.slice none 0 0) (S0 vp picks vk ticks vd draws) := { hb := h1, hx := ⟨_, _, _, _, _, _, _, h2⟩, oa := ⟨[], World.ownsRow_nil _ _ _ _⟩, oT := ⟨[], World.ownsRow_nil _ _ _ _⟩, la := h3, pb := h6, px := h5 }
  exact ⟨b, p, x, _, rfl, B, rfl, h8, fun k e => ⟨(B.gf e).1, (B.gf e).2.1⟩, h4, h7⟩
/-- Two loops that stand the same. -/
def TwA (w : World) (b p x b' p' x' st : Nat) : Prop := ∃ va vT S lo va' vT' S' lo', Two w b p x va vT S lo b' p' x' va' vT' S' lo' ∧ S'.ps = S.ps ∧ Bd S.ps ∧ S.steps ≤ st
theorem TwA.below {w w' : World} {b p x b' p' x' st : Nat} (h : TwA w b p x b' p' x' st) (k : Below w.heap.size w w') : TwA w' b p x b' p' x' st := by
  obtain ⟨va, vT, S, lo, va', vT', S', lo', h1, h2⟩ := h
  exact ⟨va, vT, S, lo, va', vT', S', lo', h1.below k, h2⟩
theorem TwA.cells {w : World} {b p x b' p' x' st : Nat} (h : TwA w b p x b' p' x' st) : At43 w b p ∧ At43 w b' p' := by
  obtain ⟨va, vT, S, lo, va', vT', S', lo', h1, _⟩ := h
  exact ⟨⟨_, _, _, h1.one.hb⟩, ⟨_, _, _, h1.two.hb⟩⟩
theorem tw_add {w : World} {b p x b' p' x' st : Nat} (v : Value) (la : List (Int × Int)) (h : TwA w b p x b' p' x' st) (hl : la.length * 16 ≤ 140737488355328) (hs : Src w v la) :
    Calls Try.prog 10 #[.pointer (some ⟨b, 0, none⟩), v] w fun r w1 => r = .returned (.bool true) ∧ Below p w w1 ∧ (Src w1 v la → Calls Try.prog 10 #[.pointer (some ⟨b', 0, none⟩), v] w1 fun r w2 => r = .returned (.bool true) ∧ Below p' w1 w2 ∧ TwA w2 b p x b' p' x' st) := by
  obtain ⟨va, vT, S, lo, va', vT', S', lo', h1, h2, h3, h4⟩ := h
  refine (two_add v la h1 h3 hl hs).mono ?_
  rintro r w1 ⟨rfl, va1, vT1, S1, e1, e2, e3, e4⟩
  refine ⟨rfl, e4, fun hs1 => ?_⟩
  refine (two_add v la e3.symm (by rw [h2]; exact h3) hl hs1).mono ?_
  rintro r w2 ⟨rfl, va2, vT2, S2, f1, f2, f3, f4⟩
  exact ⟨rfl, f4, va1, vT1, S1, lo, va2, vT2, S2, lo', f3.symm, by rw [f1, e1, h2], by rw [e1]; exact h3.add la (by omega), by omega⟩
theorem tw_next {w : World} {b p x b' p' x' st : Nat} (h : TwA w b p x b' p' x' st) (hst : st < 300000) :
    ∃ (N : Nat) (B : Bool), Calls Try.prog 13 #[.pointer (some ⟨p, 0, none⟩)] w fun r w1 => r = .returned (.tuple #[.int .i64 (N : Nat), .bool B]) ∧ Below p w w1 ∧ At43 w1 b' p' ∧ Calls Try.prog 13 #[.pointer (some ⟨p', 0, none⟩)] w1 fun r w2 => r = .returned (.tuple #[.int .i64 (N : Nat), .bool B]) ∧ Below p' w1 w2 ∧ TwA w2 b p x b' p' x' (st + 1) := by
  obtain ⟨va, vT, S, lo, va', vT', S', lo', h1, h2, h3, h4⟩ := h
  refine ⟨nextN S.ps, nextB S.ps, (two_next h1 h3 (by omega)).mono ?_⟩
  rintro r w1 ⟨rfl, S1, e1, e2, e3⟩
  have hs' : S'.steps = S.steps := by
    have : S'.ps.steps = S.ps.steps := by rw [h2]
    exact this
  refine ⟨rfl, e3, ⟨_, _, _, e2.two.hb⟩, ?_⟩
  have := two_next e2.symm (by rw [h2]; exact h3) (by omega)
  rw [h2] at this
  refine this.mono ?_
  rintro r w2 ⟨rfl, S2, f1, f2, f3⟩
  refine ⟨rfl, f3, va, vT, S1, lo, va', vT', S2, lo', f2.symm, by rw [f1, e1], by rw [e1]; exact h3.next, ?_⟩
  have q1 := nextP_steps S.ps
  rw [← e1] at q1
  have q2 : S1.ps.steps = S1.steps := rfl
  have q3 : S.ps.steps = S.steps := rfl
  omega
theorem tw_looks {w : World} {b p x b' p' x' st : Nat} (h : TwA w b p x b' p' x' st) :
    ∃ (now : Int) (st' : Int) (ws : List Int), ws.length ≤ 64 ∧ (∀ W, Below w.heap.size w W → Calls Try.prog 14 #[.pointer (some ⟨p, 0, none⟩)] W (fun r w' => r = .returned (.int .u64 now) ∧ w' = W) ∧ Calls Try.prog 14 #[.pointer (some ⟨p', 0, none⟩)] W (fun r w' => r = .returned (.int .u64 now) ∧ w' = W) ∧
      Calls Try.prog 17 #[.pointer (some ⟨p, 0, none⟩)] W (fun r w' => r = .returned (.int .i64 st') ∧ w' = W) ∧ Calls Try.prog 17 #[.pointer (some ⟨p', 0, none⟩)] W (fun r w' => r = .returned (.int .i64 st') ∧ w' = W) ∧
      Calls Try.prog 16 #[.pointer (some ⟨p, 0, none⟩)] W (fun r w' => ∃ a c, r = .returned (.slice a ws.length c) ∧ VA w'.heap.size w' a (ws.map iV) ∧ Below W.heap.size W w') ∧ Calls Try.prog 16 #[.pointer (some ⟨p', 0, none⟩)] W (fun r w' => ∃ a c, r = .returned (.slice a ws.length c) ∧ VA w'.heap.size w' a (ws.map iV) ∧ Below W.heap.size W w')) := by
  obtain ⟨va, vT, S, lo, va', vT', S', lo', h1, h2, h3, h4⟩ := h
  have e1 : S'.now = S.now := by have : S'.ps.now = S.ps.now := by rw [h2]
                                 exact this
  have e2 : S'.steps = S.steps := by have : S'.ps.steps = S.ps.steps := by rw [h2]
                                     exact this
  have e3 : S'.waits = S.waits := by have : S'.ps.waits = S.ps.waits := by rw [h2]
                                     exact this
  have l1 : S.tks.length ≤ 64 := by have := h3.len; simpa [LS.ps] using this
  have l2 : S'.tks.length ≤ 64 := by have := h3.len; rw [← h2] at this; simpa [LS.ps] using this
  refine ⟨S.now, (S.steps : Nat), S.waits, by rw [h1.one.la.wlen']; exact l1, fun W k => ⟨now_any p _ _ _ _ _ _ _ _ W (h1.one.la.below k).hp, ?_, steps_any p _ _ _ _ _ _ _ _ W (h1.one.la.below k).hp, ?_, la_waits p S W (h1.one.la.below k) (by omega), ?_⟩⟩
  · have := now_any p' _ _ _ _ _ _ _ _ W (h1.two.la.below k).hp
    rw [e1] at this
    exact this
  · have := steps_any p' _ _ _ _ _ _ _ _ W (h1.two.la.below k).hp
    rw [e2] at this
    exact this
  · have := la_waits p' S' W (h1.two.la.below k) (by omega)
    rw [e3] at this
    exact this
theorem src_task {w : World} {v : Value} {la : List (Int × Int)} (h : TaskArg w v la) (hz : ∀ a n c, v = .slice a n c → a = none → c = 0 ∧ n = 0) : Src w v la := by
  obtain ⟨a, c, h1, h2⟩ := h
  cases a with
  | none =>
    obtain ⟨e1, e2⟩ := hz _ _ _ h1 rfl
    exact Or.inl ⟨by rw [h1, e1, e2], List.eq_nil_of_length_eq_zero e2⟩
  | some ad =>
    refine Or.inr ⟨ad, c, h1, fun j u hj => ?_⟩
    obtain ⟨i, y, e1, e2⟩ := flA_at la j u hj
    obtain ⟨b, off, f1, _, f3, f4⟩ := h2 i y e1
    cases f1
    rw [addr_add]
    rcases e2 with ⟨rfl, rfl⟩ | ⟨rfl, rfl⟩
    · exact f3
    · exact f4
end Go.Proofs.Ytefmhghdehokcaa
namespace Go.Proofs.Ytefmhghdehokcaa
open Go.RowKit
theorem low_of {w W : World} {v : Value} {la : List (Int × Int)} (h : TaskArg w v la) (k : Below w.heap.size w W) : ActsLow w.heap.size W v la := by
  obtain ⟨a, c, h1, h2⟩ := h
  refine ⟨a, c, h1, fun j y hj => ?_⟩
  obtain ⟨b, off, e1, e2, e3, e4⟩ := h2 j y hj
  exact ⟨b, off, e1, e2, (k.cell (p := ⟨b, off + 2 * j, none⟩) e2).trans e3, (k.cell (p := ⟨b, off + 2 * j + 1, none⟩) e2).trans e4⟩
theorem rowat_of {w0 W : World} {a : Option Addr} {n c : Nat} {l : List Value} (h : Arg w0 a n c l) (k : Below w0.heap.size w0 W) : RowAt w0.heap.size W (.slice a n c) l := by
  obtain ⟨h1, h2, h3, h4⟩ := h
  exact ⟨a, c, by rw [h1], h2.below (fun b hb => k.block b hb), by omega, h4⟩
theorem kb_below {lo : Nat} {w w' : World} (h : Kb (fun k => lo ≤ k) w w') (hl : lo ≤ w.heap.size) : Below lo w w' := ⟨h.os, h.tape, h.output, h.size, fun b hb => h.block b (by omega) (by omega)⟩
theorem pl_of {picks ticks : List Int} {nd : Nat} (h : chkT picks ticks nd = 0) : picks.length ≤ 65536 := by
  unfold chkT at h
  split at h
  · omega
  · rename_i hn
    omega
theorem px_start (ap ak ad : Option Addr) (np nk nd cp ck cd : Nat) (picks ticks draws : List Int) (w0 w : World) (k0 : Below w0.heap.size w0 w) (hp : Arg w0 ap np cp (picks.map iV)) (hk : Arg w0 ak nk ck (ticks.map iV)) (hd : Arg w0 ad nd cd (draws.map nV)) (hc : chkT picks ticks nd = 0) :
    Calls Try.prog 9 #[.agg #[.slice ap np cp, .slice ak nk ck, .slice ad nd cd]] w fun r w' => ∃ b p x, r = .returned (.tuple #[.pointer (some ⟨b, 0, none⟩), .bool true]) ∧ PX w' b p x w0.heap.size 0 ∧ Below w0.heap.size w0 w' := by
  refine (start_okL ap ak ad np nk nd cp ck cd picks ticks draws w (hp.below k0) (hk.below k0) (hd.below k0) hc).mono ?_
  rintro r w' ⟨b, p, x, vp, vk, vd, rfl, h1, h2, h3, h4, h5, h6, h7, _⟩
  have kw : Below w0.heap.size w0 w' := k0.trans (h7.mono k0.size)
  refine ⟨b, p, x, rfl, ?_, kw⟩
  have hsz := k0.size
  obtain ⟨g1, g2, g3⟩ := pk_of hc
  have hbd : Bd (P0 picks ticks draws) := P0_bd g1 g2 (by have := hd.1; rw [List.length_map] at this; omega) (tl_of hc)
  have hpl : picks.length ≤ 65536 := pl_of hc
  have hdl : draws.length ≤ 65536 := by have := hd.1; rw [List.length_map] at this; omega
  obtain ⟨T, hT⟩ : ∃ T : TS, { vP := .slice ap np cp, picks := picks, vK := .slice ak nk ck, ticks := ticks, vD := .slice ad nd cd, draws := draws, vT := .slice none 0 0, ts := [], clock := 0, count := 0, used := 0, drawn := 0 } = T := ⟨_, rfl⟩
  have tw : TW w' w0.heap.size x T := by
    rw [← hT]
    exact { hx := h2, lox := by omega, pk := rowat_of hp kw, tk := rowat_of hk kw, dr := rowat_of hd kw, row := World.ownsRow_nil _ _ _ _, each := fun i t hi => by simp at hi, apart := fun i j t t' _ hi => by simp at hi }
  have tf : ∀ k, TFoot x T k → k = x := fun k e => by
    rw [← hT] at e
    rcases e with e | e | ⟨i, t, hi, _⟩
    · exact e
    · cases e
    · simp at hi
  refine ⟨.slice none 0 0, S0 vp picks vk ticks vd draws, T, { hb := h1, oa := World.ownsRow_nil _ _ _ _, la := h3, tw := tw, tok := by rw [← hT]; exact ⟨fun t ht => by simp at ht, hdl⟩, pl := by rw [← hT]; exact hpl, ul := by rw [← hT]; exact Nat.zero_le _, pb := h6, px := h5, lop := by omega, tge := fun k e => by rw [tf k e]; omega, apart := fun k e1 e2 => ?_ }, ?_, hbd, fun y hy => by simp [S0, LS.ps] at hy, Nat.zero_le _⟩
  · rw [tf k e2] at e1
    obtain ⟨_, c, ty, e, _, n2, _⟩ := h3.foot e1
    rw [h2] at e
    simp only [Option.some.injEq, Obj.cells.injEq] at e
    exact n2 e.2.1.symm
  · rw [← hT]
    simp [TS.ps, S0, LS.ps]
theorem px_does (lo : Nat) (y : OpV) {w0 w : World} {b p x st : Nat} (hlo : lo = w0.heap.size) (k0 : Below w0.heap.size w0 w) (h : PX w b p x lo st) (hst : st < 7000000000000000) (ho : OpOk w0 y) :
    Calls Try.prog 11 #[.pointer (some ⟨b, 0, none⟩), .agg #[.int .i64 y.kk, .int .i64 y.nn, y.v]] w fun r w' => r = .returned (.bool true) ∧ Below w0.heap.size w0 w' ∧ PX w' b p x lo (st + 1000) := by
  obtain ⟨o1, o2, o3⟩ := ho
  have HL : ∀ W st, PX W b p x lo st → Calls Try.prog 12 #[.pointer (some ⟨b, 0, none⟩)] W fun r w' => r = .returned (.bool true) ∧ Below W.heap.size W w' := fun W st h => by
    obtain ⟨n, nr, ws, rs, now, cnt, d, aA, cA, aT, cT, g⟩ := h.lk
    exact looks_any b p x n nr ws rs now cnt d aA cA aT cT W g
  have HA : ∀ W st, Below w.heap.size w W → PX W b p x lo st → Calls Try.prog 10 #[.pointer (some ⟨b, 0, none⟩), y.v] W fun r w' => r = .returned (.bool true) ∧ Kb (D35 lo W) W w' ∧ PX w' b p x lo st := fun W st k h => by
    have kw : Below w0.heap.size w0 W := k0.trans (k.mono k0.size)
    exact h.add y.v y.la o3 (src_task (o1.below kw) o2) (by rw [hlo]; exact low_of o1 kw)
  have H34 : y.kk = 3 ∨ y.kk = 4 → Calls Try.prog 11 #[.pointer (some ⟨b, 0, none⟩), .agg #[.int .i64 y.kk, .int .i64 y.nn, y.v]] w fun r w' => r = .returned (.bool true) ∧ Kb (fun k => lo ≤ k) w w' ∧ PX w' b p x lo (st + 1000) := fun e => by
    rcases e with e | e
    · rw [e]; exact does_run lo b p x st y.nn y.v w h hst
    · rw [e]
      refine (does_wake lo b p x st y.nn y.v w h).mono ?_
      rintro r w' ⟨rfl, q1, q2⟩
      exact ⟨rfl, q1, q2.st (by omega)⟩
  refine (does_any lo b p x st y.kk y.nn y.v w h hst HA H34 HL).mono ?_
  rintro r w' ⟨rfl, q1, q2⟩
  have := kb_below q1 (by rw [hlo]; exact k0.size)
  rw [hlo] at this
  exact ⟨rfl, k0.trans this, q2⟩
end Go.Proofs.Ytefmhghdehokcaa
namespace Go.Proofs.Ytefmhghdehokcaa
open Go.RowKit
set_option maxRecDepth 100000 in
set_option maxHeartbeats 8000000 in
theorem plays_walk (ap ak ad a a2 : Option Addr) (np nk nd n n2 cp ck cd c c2 : Nat) (picks ticks draws : List Int) (tv : List (Value × List (Int × Int))) (ov : List OpV) (w : World) (hp : Arg w ap np cp (picks.map iV)) (hk : Arg w ak nk ck (ticks.map iV)) (hd : Arg w ad nd cd (draws.map nV))
    (hT : VA w.heap.size w a (tv.map (·.1))) (hn : tv.length = n) (hA : ∀ x ∈ tv, TaskArg w x.1 x.2 ∧ (∀ a n c, x.1 = .slice a n c → a = none → c = 0 ∧ n = 0) ∧ x.2.length * 16 ≤ 140737488355328) (hnn : n ≤ 9223372036854775807)
    (hO : OpsAt w a2 ov) (hn2 : ov.length = n2) (hOk : ∀ y ∈ ov, OpOk w y) (hnn2 : n2 * 40 ≤ 140737488355328) :
    Calls Try.prog 3 #[.agg #[.slice ap np cp, .slice ak nk ck, .slice ad nd cd], .slice a n c, .slice a2 n2 c2] w fun r w' => r = .returned (.bool true) ∧ Below w.heap.size w w' := by
  have A0 : Below w.heap.size w (w.alloc (.cells #[.slice ap np cp, .slice ak nk ck, .slice ad nd cd] 25)) := (Below.refl _ w).alloc (Nat.le_refl _) _
  have k0 : (w.alloc (.cells #[.slice ap np cp, .slice ak nk ck, .slice ad nd cd] 25)).heap[w.heap.size]? = some (.cells #[.slice ap np cp, .slice ak nk ck, .slice ad nd cd] 25 (0, 0)) := World.alloc_heap_new _ _
  have HA0 : Hid _ := A0
  have HK0 : Hid _ := k0
  have HT : Hid (VA w.heap.size w a (tv.map (·.1))) := hT
  have HN : Hid (tv.length = n) := hn
  have HA : Hid (∀ x ∈ tv, TaskArg w x.1 x.2 ∧ (∀ a n c, x.1 = .slice a n c → a = none → c = 0 ∧ n = 0) ∧ x.2.length * 16 ≤ 140737488355328) := hA
  have HO : Hid (OpsAt w a2 ov) := hO
  have HN2 : Hid (ov.length = n2) := hn2
  have HOK : Hid (∀ y ∈ ov, OpOk w y) := hOk
  by_cases hchk : chkT picks ticks nd = 0
  · have HS : Hid (∀ W, Below w.heap.size w W → Calls Try.prog 9 #[.agg #[.slice ap np cp, .slice ak nk ck, .slice ad nd cd]] W fun r w' => ∃ b p x, r = .returned (.tuple #[.pointer (some ⟨b, 0, none⟩), .bool true]) ∧ PX w' b p x w.heap.size 0 ∧ Below w.heap.size w w') := fun W k => px_start ap ak ad np nk nd cp ck cd picks ticks draws w W k hp hk hd hchk
    clear hp hk hd hT hn hA hO hn2 hOk hchk A0 k0
    go_enter Try.func3, Try.ntmps3
    go_wp2_with fail
    refine Calls.mono (HS.out _ HA0.out) ?_
    rintro e w1 ⟨b, p, x, rfl, X1, B1⟩
    have HX1 : Hid (PX w1 b p x w.heap.size 0) := X1
    have HB1 : Hid (Below w.heap.size w w1) := B1
    clear X1 B1 HS HA0 HK0
    go_wp2_with fail
    go_loopw [9] (fun s wr => ∃ i : Nat, i ≤ n ∧ s = .int .i64 (i : Nat) ∧ Hid (PX wr b p x w.heap.size 0) ∧ Hid (Below w.heap.size w wr)) (fun s _ => n - (intOf s).toNat)
    case atStart => exact ⟨0, by omega, rfl, HX1.out, HB1.out⟩
    case round =>
      clear HX1 HB1
      obtain ⟨i, hi, rfl, HXi, HBi⟩ := hrel
      by_cases hin : i < n
      · obtain ⟨⟨vi, la⟩, hti⟩ : ∃ t, tv[i]? = some t := ⟨tv[i]'(by rw [HN.out]; exact hin), List.getElem?_eq_getElem _⟩
        obtain ⟨gt, ot, rfl, hgt, ci⟩ := HT.out i vi (by rw [List.getElem?_map, hti]; rfl)
        obtain ⟨hta, htz, htl⟩ := HA.out _ (List.mem_of_getElem? hti)
        obtain ⟨ai, cpi, hvi, hcells⟩ := id hta
        have hvi' : vi = .slice ai la.length cpi := hvi
        have HAD : Hid (Calls Try.prog 10 #[.pointer (some ⟨b, 0, none⟩), vi] wr fun r w' => r = .returned (.bool true) ∧ Kb (D35 w.heap.size wr) wr w' ∧ PX w' b p x w.heap.size 0) := PX.add vi la HXi.out htl (src_task (TaskArg.below hta HBi.out) htz) (low_of hta HBi.out)
        obtain ⟨li, hli⟩ : ∃ li, la.length = li := ⟨_, rfl⟩
        rw [hli] at hvi'
        rw [hvi'] at HAD ci
        have ci2 : wr.cell? ⟨gt, ot + i, none⟩ = some (.slice ai li cpi) := (HBi.out.cell (p := ⟨gt, ot + i, none⟩) hgt).trans ci
        have hsz := HBi.out.size
        clear hta htz htl hvi hcells hti hli ci hvi'
        go_wp2_with fail
        refine Calls.mono HAD.out ?_
        rintro e w3 ⟨rfl, k3, h3⟩
        have HB3 : Hid (Below w.heap.size w w3) := HBi.out.trans (kb_below (k3.mono (fun k e => e.1)) hsz)
        have H3 : Hid (PX w3 b p x w.heap.size 0) := h3
        clear k3 h3 HAD HXi HBi ci2 hsz
        go_wp2_with fail
        go_roundw
        case rel => exact ⟨i + 1, by omega, by go_num, H3.out, HB3.out⟩
        case measure => simp [intOf]; omega
      · obtain rfl : i = n := by omega
        go_wp2_with fail
        obtain ⟨w2, hw2⟩ : ∃ w2, wr = w2 := ⟨_, rfl⟩
        rw [hw2]
        rw [hw2] at HXi HBi
        clear hw2
        go_loopw [10] (fun s wr => ∃ j : Nat, j ≤ n2 ∧ s = .int .i64 (j : Nat) ∧ Hid (PX wr b p x w.heap.size (j * 1000)) ∧ Hid (Below w.heap.size w wr)) (fun s _ => n2 - (intOf s).toNat)
        case atStart => exact ⟨0, by omega, rfl, by rw [Nat.zero_mul]; exact HXi.out, HBi.out⟩
        case round =>
          clear HXi HBi
          obtain ⟨j, hj, rfl, HXj, HBj⟩ := hrel
          by_cases hjn : j < n2
          · obtain ⟨y, hy⟩ : ∃ t, ov[j]? = some t := ⟨ov[j]'(by rw [HN2.out]; exact hjn), List.getElem?_eq_getElem _⟩
            obtain ⟨gt, ot, rfl, hgt, y0, y1, y2⟩ := HO.out j y hy
            have HDO : Hid (Calls Try.prog 11 #[.pointer (some ⟨b, 0, none⟩), .agg #[.int .i64 y.kk, .int .i64 y.nn, y.v]] wr fun r w' => r = .returned (.bool true) ∧ Below w.heap.size w w' ∧ PX w' b p x w.heap.size (j * 1000 + 1000)) := px_does w.heap.size y rfl HBj.out HXj.out (by omega) (HOK.out y (List.mem_of_getElem? hy))
            obtain ⟨ay, cy, hvy, _⟩ := (HOK.out y (List.mem_of_getElem? hy)).1
            obtain ⟨kk, hkk⟩ : ∃ kk, y.kk = kk := ⟨_, rfl⟩
            obtain ⟨nn, hnn⟩ : ∃ nn, y.nn = nn := ⟨_, rfl⟩
            obtain ⟨ly, hly⟩ : ∃ ly, y.la.length = ly := ⟨_, rfl⟩
            rw [hly] at hvy
            rw [hkk, hnn, hvy] at HDO
            rw [hkk] at y0
            rw [hnn] at y1
            rw [hvy] at y2
            have z0 : wr.cell? ⟨gt, ot + 3 * j, none⟩ = some (.int .i64 kk) := (HBj.out.cell (p := ⟨gt, ot + 3 * j, none⟩) hgt).trans y0
            have z1 : wr.cell? ⟨gt, ot + 3 * j + 1, none⟩ = some (.int .i64 nn) := (HBj.out.cell (p := ⟨gt, ot + 3 * j + 1, none⟩) hgt).trans y1
            have z2 : wr.cell? ⟨gt, ot + 3 * j + 2, none⟩ = some (.slice ay ly cy) := (HBj.out.cell (p := ⟨gt, ot + 3 * j + 2, none⟩) hgt).trans y2
            rw [Nat.mul_comm] at z0 z1 z2
            clear y0 y1 y2 hy hkk hnn hvy hly
            go_wp2_with fail
            refine Calls.mono HDO.out ?_
            rintro e w3 ⟨rfl, k3, h3⟩
            have HB3 : Hid (Below w.heap.size w w3) := k3
            have H3 : Hid (PX w3 b p x w.heap.size ((j + 1) * 1000)) := by rw [Nat.add_mul, Nat.one_mul]; exact h3
            clear k3 h3 HDO HXj HBj z0 z1 z2
            go_wp2_with fail
            go_roundw
            case rel => exact ⟨j + 1, by omega, by go_num, H3.out, HB3.out⟩
            case measure => simp [intOf]; omega
          · obtain rfl : j = n2 := by omega
            have HLK : Hid (Calls Try.prog 12 #[.pointer (some ⟨b, 0, none⟩)] wr fun r w' => r = .returned (.bool true) ∧ Below wr.heap.size wr w') := by
              obtain ⟨n, nr, ws, rs, now, cnt, d, aA, cA, aT, cT, g⟩ := PX.lk HXj.out
              exact looks_any b p x n nr ws rs now cnt d aA cA aT cT wr g
            go_wp2_with fail
            refine Calls.mono HLK.out ?_
            rintro e w3 ⟨rfl, b3⟩
            have HB3 : Hid (Below w.heap.size w w3) := HBj.out.trans (b3.mono HBj.out.size)
            clear b3
            go_wp2_with fail
            go_ret
            exact ⟨rfl, HB3.out⟩
  · have HS : Hid (∀ W, Below w.heap.size w W → Calls Try.prog 9 #[.agg #[.slice ap np cp, .slice ak nk ck, .slice ad nd cd]] W fun r w' => r = .returned (.tuple #[.pointer none, .bool true]) ∧ Below W.heap.size W w') := fun W k => start_bad ap ak ad np nk nd cp ck cd picks ticks _ W (hp.below k) (hk.below k) rfl hchk
    clear hp hk hd hT hn hA hchk A0 k0 hO hn2 hOk
    go_enter Try.func3, Try.ntmps3
    go_wp2_with fail
    refine Calls.mono (HS.out _ HA0.out) ?_
    rintro e w1 ⟨rfl, B1⟩
    have HB1 : Hid (Below w.heap.size w w1) := HA0.out.trans (B1.mono HA0.out.size)
    clear B1
    go_wp2_with fail
    go_ret
    exact ⟨rfl, HB1.out⟩
end Go.Proofs.Ytefmhghdehokcaa
