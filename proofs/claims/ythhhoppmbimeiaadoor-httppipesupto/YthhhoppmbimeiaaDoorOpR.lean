/-
  What is handed in, opened: a request.
-/
import Derived.Test.YthhhoppmbimeiaaDoorOpens
import Derived.Test.YthhhoppmbimeiaaDoorSameR
import Derived.Lib.SmallJoins
import Derived.Deep.Strs
import Derived.WideShapes
namespace Go.Proofs.YthhhoppmbimeiaaDoor
open Go.RowKit Go.Deep Go.ChangeShapes
theorem cells9' : Tryd.prog.cellsOf 9 = 1 := by kernel_rfl
theorem cells4' : Tryd.prog.cellsOf 4 = 1 := by kernel_rfl
theorem cellsF : Tryd.prog.cellsOf 53 = 2 := by kernel_rfl
theorem cellsFs : Tryd.prog.cellsOf 22 = 1 := by kernel_rfl
theorem cellsRq : Tryd.prog.cellsOf 24 = 5 := by kernel_rfl
theorem bytesF : Tryd.prog.bytesOf 53 = 32 := by kernel_rfl
theorem addr_add2 (b off i : Nat) : (⟨b, off, none⟩ : Addr).add i = ⟨b, off + i, none⟩ := add_off b off i
theorem add_add2 (y : Addr) (i j : Nat) : (y.add i).add j = y.add (i + j) := by
  obtain ⟨b, off, spot⟩ := y
  unfold Addr.add
  by_cases hi : i = 0 <;> by_cases hj : j = 0 <;> simp [hi, hj, Nat.add_assoc]
theorem trod_struct2 {H : Type} {enc : TypeId × Value → H} {P : Program} {w : World} {base : Nat} {spare : Nat → Bool} {held : Bool} {t : TypeId} {f0 f1 : Field} {fuel : Nat} {cs : List Value} {x : DataW H × List MemPlace} (ht : P.underlying t = some (.struct #[f0, f1])) (h : DataW.trod enc P w base spare held fuel t cs = some x) :
    ∃ y0 y1 n, x.1 = .agg [y0.1, y1.1] ∧ cs.length = P.cellsOf t ∧ DataW.trod enc P w base spare held n f0.type ((cs.drop f0.offset).take (P.cellsOf f0.type)) = some y0 ∧
      DataW.trod enc P w base spare held n f1.type ((cs.drop f1.offset).take (P.cellsOf f1.type)) = some y1 := by
  obtain ⟨xs, n, _, rfl, hl, hlen, hf⟩ := DataW.trod_struct ht h
  match xs, hlen with
  | [y0, y1], _ => exact ⟨y0, y1, n, by simp, hl, by simpa using hf 0 f0 rfl, by simpa using hf 1 f1 rfl⟩
theorem weightsAll_mem {H : Type} {P : Program} {e : TypeId} {n : Nat} {d : DataW H} (hn : n ∈ d.weights P e) : ∀ {l : List (DataW H)}, d ∈ l → n ∈ DataW.weightsAll P e l
  | [], h => by cases h
  | x :: l, h => by
    rw [DataW.weightsAll, List.mem_append]
    rcases List.mem_cons.1 h with rfl | h
    · exact Or.inl hn
    · exact Or.inr (weightsAll_mem hn h)
/-- A field's datum. -/
def fdD {H : Type} (q : Fd) : DataW H := .agg [.lit (.string q.name.data.toList), .lit (.string q.val.data.toList)]
theorem size_list (s : ByteArray) : s.data.toList.length = s.size := by rw [Array.length_toList]; rfl
set_option maxRecDepth 100000 in
/-- A slice of fields, opened: its cells, and its datum. -/
theorem fields_open {H : Type} {enc : TypeId × Value → H} {W : World} {v : Value} {fuel : Nat} {x : DataW H × List MemPlace} (hf : DataW.trod enc Tryd.prog W 0 (fun _ => true) true fuel 22 [v] = some x) :
    ∃ (a : Option Addr) (c : Nat) (l : List Fd), v = .slice a l.length c ∧ FA W.heap.size W a l ∧ ((l = [] ∧ x.1 = .nil) ∨ ∃ sp, x.1 = .slice (l.map fdD) sp) := by
  rcases open_slice Tryd.underlying22 hf with ⟨hcs, hx⟩ | ⟨y, l, c, m, n, D, Pl, hcs, _, hl, hm, hmm, hxd, hx⟩
  · simp at hcs
    exact ⟨none, 0, [], hcs, FA.nil _ _ _, Or.inl ⟨rfl, by rw [hx]⟩⟩
  · simp only [List.cons.injEq, and_true] at hcs
    have hmm' : m = c := by simpa using hmm
    subst hmm'
    have each : ∀ i, ∃ q : Fd, i < l → W.cell? (y.add (2 * i)) = some (.string q.name) ∧ W.cell? (y.add (2 * i + 1)) = some (.string q.val) ∧ D i = fdD q := by
      intro i
      by_cases hi : i < l
      · obtain ⟨cs', h1, h2⟩ := hx i (by omega)
        rw [cellsF] at h1
        obtain ⟨_, hlen, hcell⟩ := World.cells?_some h1
        obtain ⟨y0, y1, k, hD, _, g0, g1⟩ := trod_struct2 Tryd.underlying53 h2
        match cs', hlen with
        | [v0, v1], _ =>
          simp [cells9'] at g0 g1
          obtain ⟨a0, e0, d0, _⟩ := DataW.trod_string Tryd.underlying9 g0
          obtain ⟨a1, e1, d1, _⟩ := DataW.trod_string Tryd.underlying9 g1
          simp at e0 e1
          subst e0 e1
          have c0 := hcell 0 (by omega)
          have c1 := hcell 1 (by omega)
          rw [add_add2, Nat.mul_comm] at c0 c1
          refine ⟨⟨a0, a1⟩, fun _ => ⟨by simpa using c0, by simpa using c1, ?_⟩⟩
          have h3 : D i = .agg [y0.1, y1.1] := hD
          rw [h3, d0, d1]
          rfl
      · exact ⟨⟨ByteArray.empty, ByteArray.empty⟩, fun h => absurd h hi⟩
    obtain ⟨q, hq⟩ := Classical.axiomOfChoice each
    refine ⟨some y, m, (List.range l).map q, by rw [List.length_map, List.length_range]; exact hcs, fun j z hj => ?_, Or.inr ⟨(List.range (m - l)).map fun j => D (l + j), ?_⟩⟩
    · rw [List.getElem?_map] at hj
      by_cases hi : j < l
      · rw [List.getElem?_range hi] at hj
        simp only [Option.map_some, Option.some.injEq] at hj
        subst hj
        obtain ⟨b, off, spot⟩ := y
        obtain ⟨h0, h1, _⟩ := hq j hi
        have hspot : spot = none := by simpa [Addr.add] using World.cell?_spot (hq 0 (by omega)).1
        subst hspot
        rw [addr_add2] at h0 h1
        rw [Nat.mul_comm] at h0 h1
        exact ⟨b, off, rfl, World.block_lt_of_cell? W _ h0, h0, h1⟩
      · rw [List.getElem?_eq_none (by simp; omega)] at hj
        cases hj
    · rw [hxd]
      show DataW.slice _ _ = DataW.slice _ _
      congr 1
      rw [List.map_map]
      refine List.map_congr_left fun i hi => ?_
      exact (hq i (List.mem_range.1 hi)).2.2
theorem fields_weigh {H : Type} {d : DataW H} {l : List Fd} (hd : (l = [] ∧ d = .nil) ∨ ∃ sp, d = .slice (l.map fdD) sp) (hsz : ∀ n ∈ d.weights Tryd.prog 22, n ≤ reachBytes) : l.length ≤ 4398046511104 ∧ ∀ f ∈ l, fdOk f := by
  have hrb : reachBytes < 140737488355328 := by decide
  rcases hd with ⟨rfl, _⟩ | ⟨sp, rfl⟩
  · exact ⟨by decide, fun f hf => by cases hf⟩
  · have h1 := hsz ((l.length + sp.length) * 32) (by simp [DataW.weights, Tryd.underlying22, bytesF])
    refine ⟨by omega, fun f hf => ?_⟩
    have h2 : ∀ n, n ∈ (fdD (H := H) f).weights Tryd.prog 53 → n ≤ reachBytes := fun n hn => by
      refine hsz n ?_
      simp only [DataW.weights, Tryd.underlying22]
      exact List.mem_cons_of_mem _ (List.mem_append_left _ (weightsAll_mem hn (List.mem_map_of_mem hf)))
    have h3 := h2 f.name.data.toList.length (by simp [fdD, DataW.weights, Tryd.underlying53, DataW.weightsEach])
    have h4 := h2 f.val.data.toList.length (by simp [fdD, DataW.weights, Tryd.underlying53, DataW.weightsEach])
    rw [size_list] at h3 h4
    exact ⟨by omega, by omega⟩
theorem trod_struct5 {H : Type} {enc : TypeId × Value → H} {P : Program} {w : World} {base : Nat} {spare : Nat → Bool} {held : Bool} {t : TypeId} {f0 f1 f2 f3 f4 : Field} {fuel : Nat} {cs : List Value} {x : DataW H × List MemPlace} (ht : P.underlying t = some (.struct #[f0, f1, f2, f3, f4])) (h : DataW.trod enc P w base spare held fuel t cs = some x) :
    ∃ y0 y1 y2 y3 y4 n, x.1 = .agg [y0.1, y1.1, y2.1, y3.1, y4.1] ∧ cs.length = P.cellsOf t ∧ DataW.trod enc P w base spare held n f0.type ((cs.drop f0.offset).take (P.cellsOf f0.type)) = some y0 ∧
      DataW.trod enc P w base spare held n f1.type ((cs.drop f1.offset).take (P.cellsOf f1.type)) = some y1 ∧ DataW.trod enc P w base spare held n f2.type ((cs.drop f2.offset).take (P.cellsOf f2.type)) = some y2 ∧
      DataW.trod enc P w base spare held n f3.type ((cs.drop f3.offset).take (P.cellsOf f3.type)) = some y3 ∧ DataW.trod enc P w base spare held n f4.type ((cs.drop f4.offset).take (P.cellsOf f4.type)) = some y4 := by
  obtain ⟨xs, n, _, rfl, hl, hlen, hf⟩ := DataW.trod_struct ht h
  match xs, hlen with
  | [y0, y1, y2, y3, y4], _ => exact ⟨y0, y1, y2, y3, y4, n, by simp, hl, by simpa using hf 0 f0 rfl, by simpa using hf 1 f1 rfl, by simpa using hf 2 f2 rfl, by simpa using hf 3 f3 rfl, by simpa using hf 4 f4 rfl⟩
set_option maxRecDepth 100000 in
theorem req_open {H : Type} {enc : TypeId × Value → H} {W : World} {cs : List Value} {fuel : Nat} {x : DataW H × List MemPlace} (hf : DataW.trod enc Tryd.prog W 0 (fun _ => true) true fuel 24 cs = some x) :
    ∃ (met tar : ByteArray) (a : Option Addr) (c : Nat) (l : List Fd) (body : ByteArray) (shut : Bool) (fd : DataW H), cs = [.string met, .string tar, .slice a l.length c, .string body, .bool shut] ∧ FA W.heap.size W a l ∧ ((l = [] ∧ fd = .nil) ∨ ∃ sp, fd = .slice (l.map fdD) sp) ∧
      x.1 = .agg [.lit (.string met.data.toList), .lit (.string tar.data.toList), fd, .lit (.string body.data.toList), .lit (.bool shut)] := by
  obtain ⟨y0, y1, y2, y3, y4, k, hD, hlen, g0, g1, g2, g3, g4⟩ := trod_struct5 Tryd.underlying24 hf
  rw [cellsRq] at hlen
  match cs, hlen with
  | [v0, v1, v2, v3, v4], _ =>
    simp [cells9', cells4', cellsFs] at g0 g1 g2 g3 g4
    obtain ⟨a0, e0, d0, _⟩ := DataW.trod_string Tryd.underlying9 g0
    obtain ⟨a1, e1, d1, _⟩ := DataW.trod_string Tryd.underlying9 g1
    obtain ⟨a, c, l, e2, hfa, hfd⟩ := fields_open g2
    obtain ⟨a3, e3, d3, _⟩ := DataW.trod_string Tryd.underlying9 g3
    obtain ⟨a4, e4, d4⟩ := DataW.trod_bool Tryd.underlying4 g4
    simp at e0 e1 e3 e4
    subst e0 e1 e2 e3 e4
    refine ⟨a0, a1, a, c, l, a3, a4, y2.1, rfl, hfa, hfd, ?_⟩
    rw [hD, d0, d1, d3, d4]
set_option maxRecDepth 100000 in
theorem req_weigh {H : Type} {met tar body : ByteArray} {l : List Fd} {shut : Bool} {fd d : DataW H} (hd : (l = [] ∧ fd = .nil) ∨ ∃ sp, fd = .slice (l.map fdD) sp) (he : d = .agg [.lit (.string met.data.toList), .lit (.string tar.data.toList), fd, .lit (.string body.data.toList), .lit (.bool shut)]) (hsz : ∀ n ∈ d.weights Tryd.prog 24, n ≤ reachBytes) :
    met.size ≤ 140737488355328 ∧ tar.size ≤ 140737488355328 ∧ body.size ≤ 140737488355328 ∧ l.length ≤ 4398046511104 ∧ ∀ f ∈ l, fdOk f := by
  have hrb : reachBytes < 140737488355328 := by decide
  subst he
  have e : (DataW.agg [.lit (.string met.data.toList), .lit (.string tar.data.toList), fd, .lit (.string body.data.toList), .lit (.bool shut)] : DataW H).weights Tryd.prog 24 = [met.data.toList.length] ++ ([tar.data.toList.length] ++ (fd.weights Tryd.prog 22 ++ ([body.data.toList.length] ++ ([] ++ [])))) := by
    simp only [DataW.weights, Tryd.underlying24]
    rfl
  rw [e] at hsz
  have h1 := hsz met.data.toList.length (by simp)
  have h2 := hsz tar.data.toList.length (by simp)
  have h3 := hsz body.data.toList.length (by simp)
  have h4 := fields_weigh hd (fun n hn => hsz n (by simp [hn]))
  rw [size_list] at h1 h2 h3
  exact ⟨by omega, by omega, by omega, h4.1, h4.2⟩
end Go.Proofs.YthhhoppmbimeiaaDoor
