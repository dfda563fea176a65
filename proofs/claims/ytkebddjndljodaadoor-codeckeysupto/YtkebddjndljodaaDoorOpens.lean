/-
  Parts as arguments: what the reading gives a walk; the variables of the library, and a world that meets what is laid.
-/
import Derived.Test.YtkebddjndljodaaDoorKey
import Derived.Test.YtkebddjndljodaaDoorBulk
import Derived.ProofKit
import Derived.OpenShut
import Derived.ShutString
import Derived.ChangeOld
import Derived.ChangeVars
import Derived.Below
import Derived.JoinedCond
import Derived.Deep.Slices
import Derived.Deep.Strs
import Derived.LaidLaws
import Derived.LaidHandle
import Derived.Lay
import Derived.HandedShaped
namespace Go.Proofs.YtkebddjndljodaaDoor
open Go.ChangeShapes Go.WideShapes Go.ChangeAt Go.RowKit Go.Deep
theorem own : ownKnob Tryd.prog.godebug = none := by kernel_rfl
theorem laidOut : laidOutB Tryd.prog = true := by kernel_rfl
theorem cells47 : Tryd.prog.cellsOf 47 = 3 := by kernel_rfl
theorem cells38 : Tryd.prog.cellsOf 38 = 1 := by kernel_rfl
theorem cells9 : Tryd.prog.cellsOf 9 = 1 := by kernel_rfl
theorem cells4 : Tryd.prog.cellsOf 4 = 1 := by kernel_rfl
theorem nat_of_wf {x : Int} (h : (Lit.int .u64 x).wf = true) : ∃ n : Nat, x = n ∧ n < 18446744073709551616 := by
  simp [Lit.wf, IntKind.min, IntKind.max, IntKind.signed, IntKind.bits] at h
  exact ⟨x.toNat, by omega, by omega⟩
theorem maxLen_some {W : World} (h : W.ShapedOpen Tryd.prog) : ∃ m, W.cell? ⟨0, 0, none⟩ = some (.int .i64 m) :=
  cell_of_shapedOpen_int (P := Tryd.prog) (g := 0) (t := 3) (zero := #[.int .i64 0]) h (of_decide_eq_true (by kernel_rfl)) (by kernel_rfl) rfl (by kernel_rfl) (by kernel_rfl) Tryd.underlying3
theorem parts_open {H : Type} {enc : TypeId × Value → H} {W : World} {a : Option Addr} {len cap fuel : Nat} {x : DataW H × List MemPlace}
    (hf : DataW.trod enc Tryd.prog W 0 (fun _ => true) true fuel 22 [.slice a len cap] = some x) (hsz : Rows.uptoBulk x.1 ≤ 1048576) :
    ∃ ps : List Prt, ps.length = len ∧ len ≤ cap ∧ Small W a ps := by
  rcases open_slice Tryd.underlying22 hf with ⟨hcs, _⟩ | ⟨y, l, c, m, n, D, Pl, hcs, _, hl, hm, hmm, hxd, hx⟩
  · simp at hcs
    exact ⟨[], by simp [hcs.2.1], by omega, ⟨fun j p hj => by simp at hj, by simp, fun p hp => by simp at hp, fun p hp => by simp at hp⟩⟩
  · simp only [List.cons.injEq, Value.slice.injEq, and_true] at hcs
    obtain ⟨rfl, rfl, rfl⟩ := hcs
    have hmm' : m = cap := by simpa using hmm
    have hle : Rows.uptoBulkAll ((List.range len).map D) + 1 ≤ 1048576 := by
      rw [hxd] at hsz
      have := bulks.slice_elems ((List.range len).map D) ((List.range (m - len)).map fun j => D (len + j))
      simp only at hsz
      omega
    have hlen : len ≤ 1048576 := by
      have := bulks.length_le ((List.range len).map D)
      rw [List.length_map, List.length_range] at this
      omega
    have each : ∀ i, ∃ q : Prt, (i < len → W.cell? (y.add (i * 3)) = some (.string q.text) ∧ W.cell? (y.add (i * 3 + 1)) = some (.int .u64 q.num) ∧ W.cell? (y.add (i * 3 + 2)) = some (.bool q.isNum)) ∧ q.num < 18446744073709551616 ∧ q.text.size ≤ 1048576 := by
      intro i
      by_cases hi : i < len
      · obtain ⟨cs', h1, h2⟩ := hx i (by omega)
        rw [cells47] at h1
        obtain ⟨_, hlen, hcell⟩ := World.cells?_some h1
        obtain ⟨y0, y1, y2, k, hD, _, g0, g1, g2⟩ := trod_struct3 Tryd.underlying47 h2
        match cs', hlen with
        | [v0, v1, v2], _ =>
          simp [cells9, cells38, cells4] at g0 g1 g2
          obtain ⟨a0, e0, f0, _⟩ := DataW.trod_string Tryd.underlying9 g0
          obtain ⟨a1, e1, f1, w1⟩ := DataW.trod_int Tryd.underlying38 g1
          obtain ⟨a2, e2, f2⟩ := DataW.trod_bool Tryd.underlying4 g2
          simp at e0 e1 e2
          subst e0 e1 e2
          obtain ⟨nn, rfl, hn⟩ := nat_of_wf w1
          have hDi : D i = .agg [y0.1, y1.1, y2.1] := by have := congrArg Prod.fst hD; simpa using this
          have hz : a0.size ≤ 1048576 := by
            have h3 := bulks.part_le (d := D i) (List.mem_map.2 ⟨i, List.mem_range.2 hi, rfl⟩ : D i ∈ (List.range len).map D)
            have h4 : a0.size ≤ Rows.uptoBulk (D i) := by
              rw [hDi, f0]
              simp only [Rows.uptoBulk, Rows.uptoBulkAll]
              rw [size_list]
              omega
            omega
          have c0 := hcell 0 (by omega)
          have c1 := hcell 1 (by omega)
          have c2 := hcell 2 (by omega)
          rw [add_add] at c0 c1 c2
          exact ⟨⟨a0, nn, a2⟩, fun _ => ⟨by simpa using c0, by simpa using c1, by simpa using c2⟩, hn, hz⟩
      · exact ⟨⟨ByteArray.empty, 0, false⟩, fun h => absurd h hi, by decide, by decide⟩
    obtain ⟨q, hq⟩ := Classical.axiomOfChoice each
    refine ⟨(List.range len).map q, by simp, by omega, ⟨?_, by simpa using hlen, ?_, ?_⟩⟩
    · intro j p hj
      rw [List.getElem?_map] at hj
      obtain ⟨i, hi, rfl⟩ := Option.map_eq_some_iff.1 hj
      obtain ⟨hj1, hj2⟩ := List.getElem?_eq_some_iff.1 hi
      rw [List.length_range] at hj1
      rw [List.getElem_range] at hj2
      subst hj2
      obtain ⟨r0, r1, r2⟩ := (hq j).1 hj1
      obtain ⟨b, off, spot⟩ := y
      have hspot : spot = none := by simpa [Addr.add] using World.cell?_spot ((hq 0).1 (by omega)).1
      subst hspot
      have ea : ∀ i, (⟨b, off, none⟩ : Addr).add i = ⟨b, off + i, none⟩ := fun i => by by_cases hi0 : i = 0 <;> simp [Addr.add, hi0]
      rw [ea] at r0 r1 r2
      exact ⟨b, off, rfl, World.block_lt_of_cell? W _ r0, r0, by rw [Nat.add_assoc]; exact r1, by rw [Nat.add_assoc]; exact r2⟩
    · intro p hp
      obtain ⟨i, _, rfl⟩ := List.mem_map.1 hp
      exact (hq i).2.2
    · intro p hp
      obtain ⟨i, _, rfl⟩ := List.mem_map.1 hp
      exact (hq i).2.1
theorem laidWorld_met (os : Os) (args : Array Value) : laidMetH Tryd.prog [("unicode/utf8.acceptRanges", Rows.laid_unicode_utf8_acceptRanges), ("unicode/utf8.first", Rows.laid_unicode_utf8_first)] ((World.laidAll Tryd.prog os [("unicode/utf8.acceptRanges", Rows.laid_unicode_utf8_acceptRanges), ("unicode/utf8.first", Rows.laid_unicode_utf8_first)]).forCall (fun _ _ => 0) ⟨#[], args, []⟩).memory :=
  show laidMet Tryd.prog [("unicode/utf8.acceptRanges", Rows.laid_unicode_utf8_acceptRanges), ("unicode/utf8.first", Rows.laid_unicode_utf8_first)] _ from laidMet_laidAll args (by kernel_rfl) (by kernel_rfl)
end Go.Proofs.YtkebddjndljodaaDoor
