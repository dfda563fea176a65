/-
  What is handed in, opened: a slice of strings, a slice of bytes.
-/
import Derived.Test.YtefigcnfcbdecaaBase
import Derived.ProofKit
import Derived.OpenShut
import Derived.ShutString
import Derived.ChangeOld
import Derived.Below
import Derived.SizedLaws
import Derived.Deep.Slices
import Derived.Deep.Strs
namespace Go.Proofs.Ytefigcnfcbdecaa
open Go.RowKit Go.Deep
theorem cells9 : Try.prog.cellsOf 9 = 1 := by kernel_rfl
theorem bytesOf9 : Try.prog.bytesOf 9 = 16 := by kernel_rfl
theorem weights_all {H : Type} {P : Program} {e : TypeId} {d : DataW H} {n : Nat} : ∀ {l : List (DataW H)}, d ∈ l → n ∈ d.weights P e → n ∈ DataW.weightsAll P e l
  | d0 :: l, h, hn => by
    rw [DataW.weightsAll, List.mem_append]
    rcases List.mem_cons.1 h with rfl | h
    · exact Or.inl hn
    · exact Or.inr (weights_all h hn)
theorem strs_open {H : Type} {enc : TypeId × Value → H} {W : World} {a : Option Addr} {len cap fuel : Nat} {t : TypeId} {x : DataW H × List MemPlace} (ht : Try.prog.underlying t = some (.slice 9))
    (hf : DataW.trod enc Try.prog W 0 (fun _ => true) true fuel t [.slice a len cap] = some x) (hsz : ∀ n ∈ x.1.weights Try.prog t, n ≤ reachBytes) :
    ∃ ks : List ByteArray, ks.length = len ∧ StrsAt W a ks ∧ (∀ s ∈ ks, s.size ≤ reachBytes) ∧ len * 16 ≤ reachBytes ∧ cap * 16 ≤ reachBytes ∧ len ≤ cap := by
  rcases open_slice1 ht cells9 hf with ⟨hcs, _⟩ | ⟨y, l, c, m, n, V, D, Pl, hcs, _, hl, hm, hmm, hxd, hx⟩
  · simp at hcs
    obtain ⟨rfl, rfl, rfl⟩ := hcs
    exact ⟨[], rfl, fun j s h => by simp at h, fun s h => by simp at h, by decide, by decide, Nat.le_refl _⟩
  · simp only [List.cons.injEq, Value.slice.injEq, and_true] at hcs
    obtain ⟨rfl, rfl, rfl⟩ := hcs
    have hmm' : m = cap := by simpa using hmm
    subst hmm'
    have hw := hsz (m * 16) (by rw [hxd]; simp [DataW.weights, ht, bytesOf9]; left; omega)
    have each : ∀ i, ∃ q : ByteArray, i < len → W.cell? (y.add i) = some (.string q) ∧ q.size ≤ reachBytes := by
      intro i
      by_cases hi : i < len
      · obtain ⟨h1, h2⟩ := hx i (by omega)
        obtain ⟨a2, e2, f2, _⟩ := DataW.trod_string Try.underlying9 h2
        simp at e2
        rw [e2] at h1
        refine ⟨a2, fun _ => ⟨h1, hsz _ ?_⟩⟩
        rw [hxd]
        have hmem : D i ∈ (List.range len).map D := List.mem_map.2 ⟨i, List.mem_range.2 hi, rfl⟩
        have hDi : D i = .lit (.string a2.data.toList) := by first | exact congrArg Prod.fst f2 | exact f2
        have hin : a2.size ∈ (D i).weights Try.prog 9 := by
          rw [hDi]
          simp only [DataW.weights, List.mem_singleton]
          rfl
        simp only [DataW.weights, ht, List.mem_cons, List.mem_append]
        exact Or.inr (Or.inl (weights_all hmem hin))
      · exact ⟨ByteArray.empty, fun h => absurd h hi⟩
    obtain ⟨q, hq⟩ := Classical.axiomOfChoice each
    refine ⟨(List.range len).map q, by simp, ?_, ?_, by omega, hw, hl⟩
    · intro j s hj
      rw [List.getElem?_map] at hj
      by_cases hi : j < len
      · rw [List.getElem?_range hi] at hj
        simp only [Option.map_some, Option.some.injEq] at hj
        subst hj
        obtain ⟨b, off, spot⟩ := y
        have hs0 := (hq j hi).1
        have hspot : spot = none := by simpa [Addr.add] using World.cell?_spot (hq 0 (by omega)).1
        subst hspot
        have ea : ∀ i, (⟨b, off, none⟩ : Addr).add i = ⟨b, off + i, none⟩ := fun i => by by_cases hi0 : i = 0 <;> simp [Addr.add, hi0]
        rw [ea] at hs0
        exact ⟨b, off, rfl, World.block_lt_of_cell? W _ hs0, hs0⟩
      · rw [List.getElem?_eq_none (by simp; omega)] at hj
        cases hj
    · intro s hs
      obtain ⟨j, hj, rfl⟩ := List.mem_map.1 hs
      exact (hq j (List.mem_range.1 hj)).2
theorem weights_of {H : Type} {P : Program} {ts : List TypeId} {ds : List (DataW H)} (h : (DataW.weightsEach P ts ds).all (· ≤ reachBytes) = true) {j : Nat} {t : TypeId} {d : DataW H} (ht : ts[j]? = some t) (hd : ds[j]? = some d) : ∀ n ∈ d.weights P t, n ≤ reachBytes := fun n hn => by
  simpa using List.all_eq_true.1 h _ (DataW.weights_mem_each ht hd n hn)
end Go.Proofs.Ytefigcnfcbdecaa
