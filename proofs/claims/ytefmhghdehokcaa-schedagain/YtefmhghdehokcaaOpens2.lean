/-
  What is handed in, opened: a timing, lists of acts.
-/
import Derived.Test.YtefmhghdehokcaaOpens
import Derived.Test.YtefmhghdehokcaaNews
import Derived.Test.YtefmhghdehokcaaArgs
import Derived.ChangeSame
namespace Go.Proofs.Ytefmhghdehokcaa
open Go.RowKit Go.Deep Go.ChangeShapes
theorem cells45 : Try.prog.cellsOf 45 = 1 := by kernel_rfl
theorem cells22 : Try.prog.cellsOf 22 = 1 := by kernel_rfl
theorem cells23 : Try.prog.cellsOf 23 = 1 := by kernel_rfl
theorem cells32 : Try.prog.cellsOf 32 = 1 := by kernel_rfl
theorem cells54 : Try.prog.cellsOf 54 = 2 := by kernel_rfl
theorem cells25 : Try.prog.cellsOf 25 = 3 := by kernel_rfl
theorem ints_arg {H : Type} {enc : TypeId × Value → H} {W : World} {v : Value} {fuel : Nat} {t : TypeId} {x : DataW H × List MemPlace} (ht : Try.prog.underlying t = some (.slice 3))
    (hf : DataW.trod enc Try.prog W 0 (fun _ => true) true fuel t [v] = some x) :
    ∃ (a : Option Addr) (len cap : Nat) (ks : List Int), v = .slice a len cap ∧ Arg W a len cap (ks.map iV) := by
  rcases open_slice1 ht cells3 hf with ⟨hcs, _⟩ | ⟨y, l, c, m, n, V, D, Pl, hcs, _, hl, hm, hmm, hxd, hx⟩
  · simp at hcs
    exact ⟨none, 0, 0, [], hcs, rfl, fun j s h => by simp at h, Nat.le_refl _, fun _ => rfl⟩
  · simp only [List.cons.injEq, and_true] at hcs
    have hmm' : m = c := by simpa using hmm
    subst hmm'
    have each : ∀ i, ∃ q : Int, i < l → W.cell? (y.add i) = some (.int .i64 q) := by
      intro i
      by_cases hi : i < l
      · obtain ⟨h1, h2⟩ := hx i (by omega)
        obtain ⟨a2, e2, f2, w2⟩ := DataW.trod_int Try.underlying3 h2
        simp at e2
        rw [e2] at h1
        exact ⟨a2, fun _ => h1⟩
      · exact ⟨0, fun h => absurd h hi⟩
    obtain ⟨q, hq⟩ := Classical.axiomOfChoice each
    refine ⟨some y, l, m, (List.range l).map q, hcs, by simp, ?_, hl, fun e => by cases e⟩
    intro j s hj
    rw [List.getElem?_map, List.getElem?_map] at hj
    by_cases hi : j < l
    · rw [List.getElem?_range hi] at hj
      simp only [Option.map_some, Option.some.injEq] at hj
      subst hj
      obtain ⟨b, off, spot⟩ := y
      have hs0 := hq j hi
      have hspot : spot = none := by simpa [Addr.add] using World.cell?_spot (hq 0 (by omega))
      subst hspot
      rw [addr_add] at hs0
      exact ⟨b, off, rfl, World.block_lt_of_cell? W _ hs0, hs0⟩
    · rw [List.getElem?_eq_none (by simp; omega)] at hj
      cases hj
theorem u64s_arg {H : Type} {enc : TypeId × Value → H} {W : World} {v : Value} {fuel : Nat} {t : TypeId} {x : DataW H × List MemPlace} (ht : Try.prog.underlying t = some (.slice 45))
    (hf : DataW.trod enc Try.prog W 0 (fun _ => true) true fuel t [v] = some x) :
    ∃ (a : Option Addr) (len cap : Nat) (ks : List Int), v = .slice a len cap ∧ Arg W a len cap (ks.map nV) := by
  rcases open_slice1 ht cells45 hf with ⟨hcs, _⟩ | ⟨y, l, c, m, n, V, D, Pl, hcs, _, hl, hm, hmm, hxd, hx⟩
  · simp at hcs
    exact ⟨none, 0, 0, [], hcs, rfl, fun j s h => by simp at h, Nat.le_refl _, fun _ => rfl⟩
  · simp only [List.cons.injEq, and_true] at hcs
    have hmm' : m = c := by simpa using hmm
    subst hmm'
    have each : ∀ i, ∃ q : Int, i < l → W.cell? (y.add i) = some (.int .u64 q) := by
      intro i
      by_cases hi : i < l
      · obtain ⟨h1, h2⟩ := hx i (by omega)
        obtain ⟨a2, e2, f2, w2⟩ := DataW.trod_int Try.underlying45 h2
        simp at e2
        rw [e2] at h1
        exact ⟨a2, fun _ => h1⟩
      · exact ⟨0, fun h => absurd h hi⟩
    obtain ⟨q, hq⟩ := Classical.axiomOfChoice each
    refine ⟨some y, l, m, (List.range l).map q, hcs, by simp, ?_, hl, fun e => by cases e⟩
    intro j s hj
    rw [List.getElem?_map, List.getElem?_map] at hj
    by_cases hi : j < l
    · rw [List.getElem?_range hi] at hj
      simp only [Option.map_some, Option.some.injEq] at hj
      subst hj
      obtain ⟨b, off, spot⟩ := y
      have hs0 := hq j hi
      have hspot : spot = none := by simpa [Addr.add] using World.cell?_spot (hq 0 (by omega))
      subst hspot
      rw [addr_add] at hs0
      exact ⟨b, off, rfl, World.block_lt_of_cell? W _ hs0, hs0⟩
    · rw [List.getElem?_eq_none (by simp; omega)] at hj
      cases hj
theorem timing_arg {H : Type} {enc : TypeId × Value → H} {W : World} {cs : List Value} {fuel : Nat} {x : DataW H × List MemPlace} (hf : DataW.trod enc Try.prog W 0 (fun _ => true) true fuel 25 cs = some x) :
    ∃ (ap ak ad : Option Addr) (np nk nd cp ck cd : Nat) (picks ticks draws : List Int), cs = [.slice ap np cp, .slice ak nk ck, .slice ad nd cd] ∧ Arg W ap np cp (picks.map iV) ∧ Arg W ak nk ck (ticks.map iV) ∧ Arg W ad nd cd (draws.map nV) := by
  obtain ⟨y0, y1, y2, k, _, hl, g0, g1, g2⟩ := trod_struct3 Try.underlying25 hf
  rw [cells25] at hl
  match cs, hl with
  | [v0, v1, v2], _ =>
    simp [cells22, cells23] at g0 g1 g2
    obtain ⟨ap, np, cp, picks, rfl, h0⟩ := ints_arg Try.underlying22 g0
    obtain ⟨ak, nk, ck, ticks, rfl, h1⟩ := ints_arg Try.underlying22 g1
    obtain ⟨ad, nd, cd, draws, rfl, h2⟩ := u64s_arg Try.underlying23 g2
    exact ⟨ap, ak, ad, np, nk, nd, cp, ck, cd, picks, ticks, draws, rfl, h0, h1, h2⟩
theorem acts_arg {H : Type} {enc : TypeId × Value → H} {W : World} {v : Value} {fuel : Nat} {x : DataW H × List MemPlace} (hf : DataW.trod enc Try.prog W 0 (fun _ => true) true fuel 32 [v] = some x) : ∃ la, TaskArg W v la := by
  rcases open_slice Try.underlying32 hf with ⟨hcs, _⟩ | ⟨y, l, c, m, n, D, Pl, hcs, _, hl, hm, hmm, hxd, hx⟩
  · simp at hcs
    exact ⟨[], none, 0, hcs, fun j y h => by simp at h⟩
  · simp only [List.cons.injEq, and_true] at hcs
    have hmm' : m = c := by simpa using hmm
    subst hmm'
    have each : ∀ i, ∃ q : Int × Int, i < l → W.cell? (y.add (2 * i)) = some (.int .i64 q.1) ∧ W.cell? (y.add (2 * i + 1)) = some (.int .i64 q.2) := by
      intro i
      by_cases hi : i < l
      · obtain ⟨cs', h1, h2⟩ := hx i (by omega)
        rw [cells54] at h1
        obtain ⟨_, hlen, hcell⟩ := World.cells?_some h1
        obtain ⟨y0, y1, k, hD, _, g0, g1⟩ := trod_struct2 Try.underlying54 h2
        match cs', hlen with
        | [v0, v1], _ =>
          simp [cells3] at g0 g1
          obtain ⟨a0, e0, _, _⟩ := DataW.trod_int Try.underlying3 g0
          obtain ⟨a1, e1, _, _⟩ := DataW.trod_int Try.underlying3 g1
          simp at e0 e1
          subst e0 e1
          have c0 := hcell 0 (by omega)
          have c1 := hcell 1 (by omega)
          rw [add_add, Nat.mul_comm] at c0 c1
          exact ⟨(a0, a1), fun _ => ⟨by simpa using c0, by simpa using c1⟩⟩
      · exact ⟨(0, 0), fun h => absurd h hi⟩
    obtain ⟨q, hq⟩ := Classical.axiomOfChoice each
    refine ⟨(List.range l).map q, some y, m, by rw [List.length_map, List.length_range]; exact hcs, fun j z hj => ?_⟩
    rw [List.getElem?_map] at hj
    by_cases hi : j < l
    · rw [List.getElem?_range hi] at hj
      simp only [Option.map_some, Option.some.injEq] at hj
      subst hj
      obtain ⟨b, off, spot⟩ := y
      obtain ⟨h0, h1⟩ := hq j hi
      have hspot : spot = none := by simpa [Addr.add] using World.cell?_spot (hq 0 (by omega)).1
      subst hspot
      rw [addr_add] at h0 h1
      exact ⟨b, off, rfl, World.block_lt_of_cell? W _ h0, h0, h1⟩
    · rw [List.getElem?_eq_none (by simp; omega)] at hj
      cases hj
theorem tasks_arg {H : Type} {enc : TypeId × Value → H} {W : World} {v : Value} {fuel : Nat} {x : DataW H × List MemPlace} (hf : DataW.trod enc Try.prog W 0 (fun _ => true) true fuel 26 [v] = some x) :
    ∃ (a : Option Addr) (c : Nat) (tv : List (Value × List (Int × Int))), v = .slice a tv.length c ∧ VA W.heap.size W a (tv.map (·.1)) ∧ ∀ y ∈ tv, TaskArg W y.1 y.2 := by
  rcases open_slice1 Try.underlying26 cells32 hf with ⟨hcs, _⟩ | ⟨y, l, c, m, n, V, D, Pl, hcs, _, hl, hm, hmm, hxd, hx⟩
  · simp at hcs
    exact ⟨none, 0, [], hcs, fun j y h => by simp at h, fun y h => by simp at h⟩
  · simp only [List.cons.injEq, and_true] at hcs
    have hmm' : m = c := by simpa using hmm
    subst hmm'
    have each : ∀ i, ∃ q : List (Int × Int), i < l → TaskArg W (V i) q := by
      intro i
      by_cases hi : i < l
      · obtain ⟨h1, h2⟩ := hx i (by omega)
        obtain ⟨la, h3⟩ := acts_arg h2
        exact ⟨la, fun _ => h3⟩
      · exact ⟨[], fun h => absurd h hi⟩
    obtain ⟨q, hq⟩ := Classical.axiomOfChoice each
    refine ⟨some y, m, (List.range l).map (fun i => (V i, q i)), by rw [List.length_map, List.length_range]; exact hcs, fun j s hj => ?_, fun z hz => ?_⟩
    · rw [List.getElem?_map, List.getElem?_map] at hj
      by_cases hi : j < l
      · rw [List.getElem?_range hi] at hj
        simp only [Option.map_some, Option.some.injEq] at hj
        subst hj
        obtain ⟨b, off, spot⟩ := y
        have hs0 := (hx j (by omega)).1
        have hspot : spot = none := by simpa [Addr.add] using World.cell?_spot (hx 0 (by omega)).1
        subst hspot
        rw [addr_add] at hs0
        exact ⟨b, off, rfl, World.block_lt_of_cell? W _ hs0, hs0⟩
      · rw [List.getElem?_eq_none (by simp; omega)] at hj
        cases hj
    · obtain ⟨j, hj, rfl⟩ := List.mem_map.1 hz
      exact hq j (List.mem_range.1 hj)
end Go.Proofs.Ytefmhghdehokcaa
