/-
  What is handed in, opened: a list of cells.
-/
import Derived.Test.YtohamjoiohfoiaaBase
import Derived.ProofKit
import Derived.OpenShut
import Derived.ShutString
import Derived.ChangeOld
import Derived.ChangeSame
import Derived.Below
import Derived.SizedLaws
import Derived.JoinedCond
import Derived.Deep.Slices
import Derived.Deep.Strs
import Derived.Lib.SmallJoins
namespace Go.Proofs.Ytohamjoiohfoiaa
open Go.RowKit Go.Deep Go.ChangeShapes
theorem cells24 : Try.prog.cellsOf 24 = 4 := by kernel_rfl
theorem cells9 : Try.prog.cellsOf 9 = 1 := by kernel_rfl
theorem cells22 : Try.prog.cellsOf 22 = 1 := by kernel_rfl
theorem cells4 : Try.prog.cellsOf 4 = 1 := by kernel_rfl
theorem bytesOf24 : Try.prog.bytesOf 24 = 48 := by kernel_rfl
theorem u64_nat {x : Int} (h : (Lit.int .u64 x).wf = true) : ∃ n : Nat, x = n ∧ n < 18446744073709551616 := by
  simp [Lit.wf, IntKind.min, IntKind.max, IntKind.signed, IntKind.bits] at h
  exact ⟨x.toNat, by omega, by omega⟩
theorem weights_of {H : Type} {P : Program} {ts : List TypeId} {ds : List (DataW H)} (h : (DataW.weightsEach P ts ds).all (· ≤ reachBytes) = true) {j : Nat} {t : TypeId} {d : DataW H} (ht : ts[j]? = some t) (hd : ds[j]? = some d) : ∀ n ∈ d.weights P t, n ≤ reachBytes := fun n hn => by
  simpa using List.all_eq_true.1 h _ (DataW.weights_mem_each ht hd n hn)
theorem cells_arg {H : Type} {enc : TypeId × Value → H} {W : World} {v : Value} {fuel : Nat} {x : DataW H × List MemPlace} (hf : DataW.trod enc Try.prog W 0 (fun _ => true) true fuel 25 [v] = some x) (hsz : ∀ n ∈ x.1.weights Try.prog 25, n ≤ reachBytes) :
    ∃ (a : Option Addr) (c : Nat) (l : List Cl), v = .slice a l.length c ∧ CA W.heap.size W a l ∧ l.length ≤ c ∧ (a = none → c = 0) ∧ c * 48 ≤ 140737488355328 := by
  rcases open_slice Try.underlying25 hf with ⟨hcs, _⟩ | ⟨y, l, c, m, n, D, Pl, hcs, _, hl, hm, hmm, hxd, hx⟩
  · simp at hcs
    exact ⟨none, 0, [], hcs, CA.nil _ _ _, Nat.le_refl _, fun _ => rfl, by decide⟩
  · simp only [List.cons.injEq, and_true] at hcs
    have hmm' : m = c := by simpa using hmm
    subst hmm'
    have each : ∀ i, ∃ q : Cl, i < l → W.cell? (y.add (4 * i)) = some (.string q.key) ∧ W.cell? (y.add (4 * i + 1)) = some (.int .u64 (q.seq : Nat)) ∧ W.cell? (y.add (4 * i + 2)) = some (.string q.val) ∧ W.cell? (y.add (4 * i + 3)) = some (.bool q.gone) := by
      intro i
      by_cases hi : i < l
      · obtain ⟨cs', h1, h2⟩ := hx i (by omega)
        rw [cells24] at h1
        obtain ⟨_, hlen, hcell⟩ := World.cells?_some h1
        obtain ⟨y0, y1, y2, y3, k, hD, _, g0, g1, g2, g3⟩ := Go.Joins.trod_struct4 Try.underlying24 h2
        match cs', hlen with
        | [v0, v1, v2, v3], _ =>
          simp [cells9, cells22, cells4] at g0 g1 g2 g3
          obtain ⟨a0, e0, _, _⟩ := DataW.trod_string Try.underlying9 g0
          obtain ⟨a1, e1, _, w1⟩ := DataW.trod_int Try.underlying22 g1
          obtain ⟨a2, e2, _, _⟩ := DataW.trod_string Try.underlying9 g2
          obtain ⟨a3, e3, _⟩ := DataW.trod_bool Try.underlying4 g3
          simp at e0 e1 e2 e3
          subst e0 e1 e2 e3
          obtain ⟨sq, rfl, _⟩ := u64_nat w1
          have c0 := hcell 0 (by omega)
          have c1 := hcell 1 (by omega)
          have c2 := hcell 2 (by omega)
          have c3 := hcell 3 (by omega)
          rw [add_add, Nat.mul_comm] at c0 c1 c2 c3
          exact ⟨⟨a0, sq, a2, a3⟩, fun _ => ⟨by simpa using c0, by simpa using c1, by simpa using c2, by simpa using c3⟩⟩
      · exact ⟨⟨ByteArray.empty, 0, ByteArray.empty, false⟩, fun h => absurd h hi⟩
    obtain ⟨q, hq⟩ := Classical.axiomOfChoice each
    have hw := hsz (m * 48) (by rw [hxd]; simp [DataW.weights, Try.underlying25, bytesOf24]; left; omega)
    have hrb : reachBytes < 140737488355328 := by decide
    refine ⟨some y, m, (List.range l).map q, by rw [List.length_map, List.length_range]; exact hcs, fun j z hj => ?_, by rw [List.length_map, List.length_range]; exact hl, (fun e => by cases e), by omega⟩
    rw [List.getElem?_map] at hj
    by_cases hi : j < l
    · rw [List.getElem?_range hi] at hj
      simp only [Option.map_some, Option.some.injEq] at hj
      subst hj
      obtain ⟨b, off, spot⟩ := y
      obtain ⟨h0, h1, h2, h3⟩ := hq j hi
      have hspot : spot = none := by simpa [Addr.add] using World.cell?_spot (hq 0 (by omega)).1
      subst hspot
      rw [addr_add] at h0 h1 h2 h3
      rw [Nat.mul_comm] at h0 h1 h2 h3
      exact ⟨b, off, rfl, World.block_lt_of_cell? W _ h0, h0, h1, h2, h3⟩
    · rw [List.getElem?_eq_none (by simp; omega)] at hj
      cases hj
end Go.Proofs.Ytohamjoiohfoiaa
