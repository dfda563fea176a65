/-
  What is handed in, opened: lists of cells, a cell.
-/
import Derived.Test.YtdgmjmohfpjlnaaSnp
import Derived.Test.YtdgmjmohfpjlnaaRows
import Derived.ProofKit
import Derived.OpenShut
import Derived.ShutString
import Derived.ChangeOld
import Derived.ChangeSame
import Derived.Below
import Derived.SizedLaws
import Derived.JoinedCond
import Derived.Deep.Slices
import Derived.Deep.Strs
import Derived.Lib.SmallJoins
import Derived.Laws.IdiomArrays
namespace Go.Proofs.Ytdgmjmohfpjlnaa
open Go.RowKit Go.Deep Go.ChangeShapes
theorem addr_add (b off j : Nat) : (⟨b, off, none⟩ : Addr).add j = ⟨b, off + j, none⟩ := by by_cases hi0 : j = 0 <;> simp [Addr.add, hi0]
theorem CA.nil (B : Nat) (w : World) (a : Option Addr) : CA B w a [] := fun j c h => (by cases h)
theorem cells33 : Try.prog.cellsOf 33 = 4 := by kernel_rfl
theorem cells9 : Try.prog.cellsOf 9 = 1 := by kernel_rfl
theorem cells31 : Try.prog.cellsOf 31 = 1 := by kernel_rfl
theorem cells4 : Try.prog.cellsOf 4 = 1 := by kernel_rfl
theorem bytesOf33 : Try.prog.bytesOf 33 = 48 := by kernel_rfl
theorem u64_nat {x : Int} (h : (Lit.int .u64 x).wf = true) : ∃ n : Nat, x = n ∧ n < 18446744073709551616 := by
  simp [Lit.wf, IntKind.min, IntKind.max, IntKind.signed, IntKind.bits] at h
  exact ⟨x.toNat, by omega, by omega⟩
theorem cell_arg {H : Type} {enc : TypeId × Value → H} {W : World} {cs : List Value} {fuel : Nat} {x : DataW H × List MemPlace} (hf : DataW.trod enc Try.prog W 0 (fun _ => true) true fuel 33 cs = some x) :
    ∃ q : Cl, cs = [.string q.key, .int .u64 (q.seq : Nat), .string q.val, .bool q.gone] := by
  obtain ⟨y0, y1, y2, y3, k, hD, hlen, g0, g1, g2, g3⟩ := Go.Joins.trod_struct4 Try.underlying33 hf
  rw [cells33] at hlen
  match cs, hlen with
  | [v0, v1, v2, v3], _ =>
    simp [cells9, cells31, cells4] at g0 g1 g2 g3
    obtain ⟨a0, e0, _, _⟩ := DataW.trod_string Try.underlying9 g0
    obtain ⟨a1, e1, _, w1⟩ := DataW.trod_int Try.underlying31 g1
    obtain ⟨a2, e2, _, _⟩ := DataW.trod_string Try.underlying9 g2
    obtain ⟨a3, e3, _⟩ := DataW.trod_bool Try.underlying4 g3
    simp at e0 e1 e2 e3
    subst e0 e1 e2 e3
    obtain ⟨sq, rfl, _⟩ := u64_nat w1
    exact ⟨⟨a0, sq, a2, a3⟩, rfl⟩
theorem bulk_one {H : Type} (d : DataW H) : 1 ≤ Rows.uptoBulk d := by
  cases d with
  | lit x => cases x <;> simp [Rows.uptoBulk]
  | nil => simp [Rows.uptoBulk]
  | ptr d => simp [Rows.uptoBulk]
  | slice elems spare => simp [Rows.uptoBulk]
  | agg parts => simp [Rows.uptoBulk]
  | iface t d => simp [Rows.uptoBulk]
  | map entries => simp [Rows.uptoBulk]
  | held h => simp [Rows.uptoBulk]
theorem bulk_len {H : Type} (l : List (DataW H)) : l.length ≤ Rows.uptoBulkAll l := by
  induction l with
  | nil => simp [Rows.uptoBulkAll]
  | cons x r ih => have := bulk_one x; simp only [Rows.uptoBulkAll, List.length_cons]; omega
theorem cells_small {H : Type} {enc : TypeId × Value → H} {W : World} {v : Value} {fuel : Nat} {x : DataW H × List MemPlace} (hf : DataW.trod enc Try.prog W 0 (fun _ => true) true fuel 27 [v] = some x) (hsz : Rows.uptoBulk x.1 ≤ 1048576) :
    ∃ (a : Option Addr) (c : Nat) (l : List Cl), v = .slice a l.length c ∧ CA W.heap.size W a l ∧ l.length ≤ c ∧ (a = none → c = 0) ∧ l.length ≤ 1048576 := by
  rcases open_slice Try.underlying27 hf with ⟨hcs, _⟩ | ⟨y, l, c, m, n, D, Pl, hcs, _, hl, hm, hmm, hxd, hx⟩
  · simp at hcs
    exact ⟨none, 0, [], hcs, CA.nil _ _ _, Nat.le_refl _, fun _ => rfl, by decide⟩
  · simp only [List.cons.injEq, and_true] at hcs
    have hmm' : m = c := by simpa using hmm
    subst hmm'
    have each : ∀ i, ∃ q : Cl, i < l → W.cell? (y.add (4 * i)) = some (.string q.key) ∧ W.cell? (y.add (4 * i + 1)) = some (.int .u64 (q.seq : Nat)) ∧ W.cell? (y.add (4 * i + 2)) = some (.string q.val) ∧ W.cell? (y.add (4 * i + 3)) = some (.bool q.gone) := by
      intro i
      by_cases hi : i < l
      · obtain ⟨cs', h1, h2⟩ := hx i (by omega)
        rw [cells33] at h1
        obtain ⟨_, hlen, hcell⟩ := World.cells?_some h1
        obtain ⟨y0, y1, y2, y3, k, hD, _, g0, g1, g2, g3⟩ := Go.Joins.trod_struct4 Try.underlying33 h2
        match cs', hlen with
        | [v0, v1, v2, v3], _ =>
          simp [cells9, cells31, cells4] at g0 g1 g2 g3
          obtain ⟨a0, e0, _, _⟩ := DataW.trod_string Try.underlying9 g0
          obtain ⟨a1, e1, _, w1⟩ := DataW.trod_int Try.underlying31 g1
          obtain ⟨a2, e2, _, _⟩ := DataW.trod_string Try.underlying9 g2
          obtain ⟨a3, e3, _⟩ := DataW.trod_bool Try.underlying4 g3
          simp at e0 e1 e2 e3
          subst e0 e1 e2 e3
          obtain ⟨sq, rfl, _⟩ := u64_nat w1
          have c0 := hcell 0 (by omega)
          have c1 := hcell 1 (by omega)
          have c2 := hcell 2 (by omega)
          have c3 := hcell 3 (by omega)
          rw [add_add, Nat.mul_comm] at c0 c1 c2 c3
          exact ⟨⟨a0, sq, a2, a3⟩, fun _ => ⟨by simpa using c0, by simpa using c1, by simpa using c2, by simpa using c3⟩⟩
      · exact ⟨⟨ByteArray.empty, 0, ByteArray.empty, false⟩, fun h => absurd h hi⟩
    obtain ⟨q, hq⟩ := Classical.axiomOfChoice each
    have hw : l ≤ 1048576 := by
      rw [hxd] at hsz
      have h2 := bulk_len ((List.range l).map D)
      simp only [List.length_map, List.length_range] at h2
      simp only [Rows.uptoBulk] at hsz
      omega
    refine ⟨some y, m, (List.range l).map q, by rw [List.length_map, List.length_range]; exact hcs, fun j z hj => ?_, by rw [List.length_map, List.length_range]; exact hl, (fun e => by cases e), by rw [List.length_map, List.length_range]; exact hw⟩
    rw [List.getElem?_map] at hj
    by_cases hi : j < l
    · rw [List.getElem?_range hi] at hj
      simp only [Option.map_some, Option.some.injEq] at hj
      subst hj
      obtain ⟨b, off, spot⟩ := y
      obtain ⟨h0, h1, h2, h3⟩ := hq j hi
      have hspot : spot = none := by simpa [Addr.add] using World.cell?_spot (hq 0 (by omega)).1
      subst hspot
      rw [addr_add] at h0 h1 h2 h3
      rw [Nat.mul_comm] at h0 h1 h2 h3
      exact ⟨b, off, rfl, World.block_lt_of_cell? W _ h0, h0, h1, h2, h3⟩
    · rw [List.getElem?_eq_none (by simp; omega)] at hj
      cases hj
end Go.Proofs.Ytdgmjmohfpjlnaa
