/-
  Lists of ints, and of calls, handed in, opened.
-/
import Derived.Test.YtdgmjmohfpjlnaaOpo
import Derived.Test.YtdgmjmohfpjlnaaTwo
namespace Go.Proofs.Ytdgmjmohfpjlnaa
open Go.RowKit Go.Deep
theorem ints_small {H : Type} {enc : TypeId × Value → H} {W : World} {v : Value} {fuel : Nat} {x : DataW H × List MemPlace} (hf : DataW.trod enc Try.prog W 0 (fun _ => true) true fuel 28 [v] = some x) (hsz : Rows.uptoBulk x.1 ≤ 1048576) :
    ∃ (a : Option Addr) (c : Nat) (l : List Int), v = .slice a l.length c ∧ IV W.heap.size W a l ∧ l.length ≤ c ∧ (a = none → c = 0) ∧ l.length ≤ 1048576 := by
  rcases open_slice Try.underlying28 hf with ⟨hcs, _⟩ | ⟨y, l, c, m, n, D, Pl, hcs, _, hl, hm, hmm, hxd, hx⟩
  · simp at hcs
    exact ⟨none, 0, [], hcs, fun j v h => (by cases h), Nat.le_refl _, fun _ => rfl, by decide⟩
  · simp only [List.cons.injEq, and_true] at hcs
    have hmm' : m = c := by simpa using hmm
    subst hmm'
    have each : ∀ i, ∃ q : Int, i < l → W.cell? (y.add i) = some (.int .i64 q) := by
      intro i
      by_cases hi : i < l
      · obtain ⟨cs', h1, h2⟩ := hx i (by omega)
        rw [cells3] at h1
        obtain ⟨_, hlen, hcell⟩ := World.cells?_some h1
        match cs', hlen with
        | [v0], _ =>
          obtain ⟨a0, e0, _, _⟩ := DataW.trod_int Try.underlying3 h2
          simp at e0
          subst e0
          have c0 := hcell 0 (by omega)
          rw [add_add] at c0
          exact ⟨a0, fun _ => by simpa using c0⟩
      · exact ⟨0, fun h => absurd h hi⟩
    obtain ⟨q, hq⟩ := Classical.axiomOfChoice each
    have hw : l ≤ 1048576 := by
      rw [hxd] at hsz
      have h2 := bulk_len ((List.range l).map D)
      simp only [List.length_map, List.length_range] at h2
      simp only [Rows.uptoBulk] at hsz
      omega
    refine ⟨some y, m, (List.range l).map q, by rw [List.length_map, List.length_range]; exact hcs, fun j z hj => ?_, by rw [List.length_map, List.length_range]; exact hl, (fun e => by cases e), by rw [List.length_map, List.length_range]; exact hw⟩
    rw [List.getElem?_map] at hj
    by_cases hi : j < l
    · rw [List.getElem?_range hi] at hj
      simp only [Option.map_some, Option.some.injEq] at hj
      subst hj
      obtain ⟨b, off, spot⟩ := y
      have h0 := hq j hi
      have hspot : spot = none := by simpa [Addr.add] using World.cell?_spot (hq 0 (by omega))
      subst hspot
      rw [addr_add] at h0
      exact ⟨b, off, rfl, World.block_lt_of_cell? W _ h0, h0⟩
    · rw [List.getElem?_eq_none (by simp; omega)] at hj
      cases hj
/-- A call of the statement's. -/
structure OpR where
  k : Int
  c : Cl
  tw : ByteArray
  n : Int
/-- A list of calls in memory. -/
def OA (B : Nat) (w : World) (a : Option Addr) (l : List OpR) : Prop :=
  ∀ j o, l[j]? = some o → ∃ b off, a = some ⟨b, off, none⟩ ∧ b < B ∧ w.cell? ⟨b, off + j * 7, none⟩ = some (.int .i64 o.k) ∧ w.cell? ⟨b, off + j * 7 + 1, none⟩ = some (.string o.c.key) ∧ w.cell? ⟨b, off + j * 7 + 2, none⟩ = some (.int .u64 ((o.c.seq : Nat) : Int)) ∧ w.cell? ⟨b, off + j * 7 + 3, none⟩ = some (.string o.c.val) ∧ w.cell? ⟨b, off + j * 7 + 4, none⟩ = some (.bool o.c.gone) ∧ w.cell? ⟨b, off + j * 7 + 5, none⟩ = some (.string o.tw) ∧ w.cell? ⟨b, off + j * 7 + 6, none⟩ = some (.int .i64 o.n)
theorem OA.below {B : Nat} {w w' : World} {a : Option Addr} {l : List OpR} (h : OA B w a l) (k : ∀ b, b < B → w'.heap[b]? = w.heap[b]?) : OA B w' a l := by
  intro j o hj
  obtain ⟨b, off, ha, hb, h0, h1, h2, h3, h4, h5, h6⟩ := h j o hj
  refine ⟨b, off, ha, hb, ?_, ?_, ?_, ?_, ?_, ?_, ?_⟩ <;> (simp only [World.cell?] at h0 h1 h2 h3 h4 h5 h6 ⊢; rw [k b hb]; assumption)
theorem ops_small {H : Type} {enc : TypeId × Value → H} {W : World} {v : Value} {fuel : Nat} {x : DataW H × List MemPlace} (hf : DataW.trod enc Try.prog W 0 (fun _ => true) true fuel 22 [v] = some x) (hsz : Rows.uptoBulk x.1 ≤ 1048576) :
    ∃ (a : Option Addr) (c : Nat) (l : List OpR), v = .slice a l.length c ∧ OA W.heap.size W a l ∧ l.length ≤ c ∧ (a = none → c = 0) ∧ l.length ≤ 1048576 := by
  rcases open_slice Try.underlying22 hf with ⟨hcs, _⟩ | ⟨y, l, c, m, n, D, Pl, hcs, _, hl, hm, hmm, hxd, hx⟩
  · simp at hcs
    exact ⟨none, 0, [], hcs, fun j v h => (by cases h), Nat.le_refl _, fun _ => rfl, by decide⟩
  · simp only [List.cons.injEq, and_true] at hcs
    have hmm' : m = c := by simpa using hmm
    subst hmm'
    have each : ∀ i, ∃ q : OpR, i < l → W.cell? (y.add (7 * i)) = some (.int .i64 q.k) ∧ W.cell? (y.add (7 * i + 1)) = some (.string q.c.key) ∧ W.cell? (y.add (7 * i + 2)) = some (.int .u64 ((q.c.seq : Nat) : Int)) ∧ W.cell? (y.add (7 * i + 3)) = some (.string q.c.val) ∧ W.cell? (y.add (7 * i + 4)) = some (.bool q.c.gone) ∧ W.cell? (y.add (7 * i + 5)) = some (.string q.tw) ∧ W.cell? (y.add (7 * i + 6)) = some (.int .i64 q.n) := by
      intro i
      by_cases hi : i < l
      · obtain ⟨cs', h1, h2⟩ := hx i (by omega)
        rw [cells35] at h1
        obtain ⟨_, hlen, hcell⟩ := World.cells?_some h1
        obtain ⟨k0, cc, tt, nn, e, _, _⟩ := op_arg h2
        subst e
        have c0 := hcell 0 (by omega)
        have c1 := hcell 1 (by omega)
        have c2 := hcell 2 (by omega)
        have c3 := hcell 3 (by omega)
        have c4 := hcell 4 (by omega)
        have c5 := hcell 5 (by omega)
        have c6 := hcell 6 (by omega)
        rw [add_add, Nat.mul_comm] at c0 c1 c2 c3 c4 c5 c6
        exact ⟨⟨k0, cc, tt, nn⟩, fun _ => ⟨by simpa using c0, by simpa using c1, by simpa using c2, by simpa using c3, by simpa using c4, by simpa using c5, by simpa using c6⟩⟩
      · exact ⟨⟨0, ⟨ByteArray.empty, 0, ByteArray.empty, false⟩, ByteArray.empty, 0⟩, fun h => absurd h hi⟩
    obtain ⟨q, hq⟩ := Classical.axiomOfChoice each
    have hw : l ≤ 1048576 := by
      rw [hxd] at hsz
      have h2 := bulk_len ((List.range l).map D)
      simp only [List.length_map, List.length_range] at h2
      simp only [Rows.uptoBulk] at hsz
      omega
    refine ⟨some y, m, (List.range l).map q, by rw [List.length_map, List.length_range]; exact hcs, fun j z hj => ?_, by rw [List.length_map, List.length_range]; exact hl, (fun e => by cases e), by rw [List.length_map, List.length_range]; exact hw⟩
    rw [List.getElem?_map] at hj
    by_cases hi : j < l
    · rw [List.getElem?_range hi] at hj
      simp only [Option.map_some, Option.some.injEq] at hj
      subst hj
      obtain ⟨b, off, spot⟩ := y
      obtain ⟨h0, h1, h2, h3, h4, h5, h6⟩ := hq j hi
      have hspot : spot = none := by simpa [Addr.add] using World.cell?_spot (hq 0 (by omega)).1
      subst hspot
      rw [addr_add] at h0 h1 h2 h3 h4 h5 h6
      rw [Nat.mul_comm] at h0 h1 h2 h3 h4 h5 h6
      exact ⟨b, off, rfl, World.block_lt_of_cell? W _ h0, h0, h1, h2, h3, h4, h5, h6⟩
    · rw [List.getElem?_eq_none (by simp; omega)] at hj
      cases hj
end Go.Proofs.Ytdgmjmohfpjlnaa
