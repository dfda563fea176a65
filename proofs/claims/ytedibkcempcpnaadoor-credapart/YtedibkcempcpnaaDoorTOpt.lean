/-
  What is handed in, opened: tenants, a tenant, texts.
-/
import Derived.Test.YtedibkcempcpnaaDoorTOpens
import Derived.Test.YtedibkcempcpnaaDoorTLiv
import Derived.Lib.SmallJoins
import Derived.Deep.Strs
import Derived.WideShapes
namespace Go.Proofs.YtedibkcempcpnaaDoor.T
open Go.RowKit Go.Deep Go.ChangeShapes
theorem cells9' : Tryd.prog.cellsOf 9 = 1 := by kernel_rfl
theorem cells3' : Tryd.prog.cellsOf 3 = 1 := by kernel_rfl
theorem cellsT : Tryd.prog.cellsOf 24 = 3 := by kernel_rfl
theorem bytesT : Tryd.prog.bytesOf 24 = 40 := by kernel_rfl
theorem bytes9 : Tryd.prog.bytesOf 9 = 16 := by kernel_rfl
theorem addr_add2 (b off i : Nat) : (⟨b, off, none⟩ : Addr).add i = ⟨b, off + i, none⟩ := add_off b off i
theorem add_add2 (y : Addr) (i j : Nat) : (y.add i).add j = y.add (i + j) := by
  obtain ⟨b, off, spot⟩ := y
  unfold Addr.add
  by_cases hi : i = 0 <;> by_cases hj : j = 0 <;> simp [hi, hj, Nat.add_assoc]
theorem trod_struct3 {H : Type} {enc : TypeId × Value → H} {P : Program} {w : World} {base : Nat} {spare : Nat → Bool} {held : Bool} {t : TypeId} {f0 f1 f2 : Field} {fuel : Nat} {cs : List Value} {x : DataW H × List MemPlace} (ht : P.underlying t = some (.struct #[f0, f1, f2])) (h : DataW.trod enc P w base spare held fuel t cs = some x) :
    ∃ y0 y1 y2 n, x.1 = .agg [y0.1, y1.1, y2.1] ∧ cs.length = P.cellsOf t ∧ DataW.trod enc P w base spare held n f0.type ((cs.drop f0.offset).take (P.cellsOf f0.type)) = some y0 ∧
      DataW.trod enc P w base spare held n f1.type ((cs.drop f1.offset).take (P.cellsOf f1.type)) = some y1 ∧ DataW.trod enc P w base spare held n f2.type ((cs.drop f2.offset).take (P.cellsOf f2.type)) = some y2 := by
  obtain ⟨xs, n, _, rfl, hl, hlen, hf⟩ := DataW.trod_struct ht h
  match xs, hlen with
  | [y0, y1, y2], _ => exact ⟨y0, y1, y2, n, by simp, hl, by simpa using hf 0 f0 rfl, by simpa using hf 1 f1 rfl, by simpa using hf 2 f2 rfl⟩
theorem weightsAll_mem {H : Type} {P : Program} {e : TypeId} {n : Nat} {d : DataW H} (hn : n ∈ d.weights P e) : ∀ {l : List (DataW H)}, d ∈ l → n ∈ DataW.weightsAll P e l
  | [], h => by cases h
  | x :: l, h => by
    rw [DataW.weightsAll, List.mem_append]
    rcases List.mem_cons.1 h with rfl | h
    · exact Or.inl hn
    · exact Or.inr (weightsAll_mem hn h)
/-- A tenant's datum. -/
def tnD {H : Type} (q : Tn) : DataW H := .agg [.lit (.string q.name.data.toList), .lit (.string q.key.data.toList), .lit (.int .i64 q.quota)]
theorem size_list (s : ByteArray) : s.data.toList.length = s.size := by rw [Array.length_toList]; rfl
set_option maxRecDepth 100000 in
/-- A tenant, opened. -/
theorem tenant_open {H : Type} {enc : TypeId × Value → H} {W : World} {cs : List Value} {fuel : Nat} {x : DataW H × List MemPlace} (hf : DataW.trod enc Tryd.prog W 0 (fun _ => true) true fuel 24 cs = some x) : ∃ c : Tn, cs = [.string c.name, .string c.key, .int .i64 c.quota] ∧ x.1 = tnD c := by
  obtain ⟨y0, y1, y2, k, hD, hlen, g0, g1, g2⟩ := trod_struct3 Tryd.underlying24 hf
  rw [cellsT] at hlen
  match cs, hlen with
  | [v0, v1, v2], _ =>
    simp [cells9', cells3'] at g0 g1 g2
    obtain ⟨a0, e0, d0, _⟩ := DataW.trod_string Tryd.underlying9 g0
    obtain ⟨a1, e1, d1, _⟩ := DataW.trod_string Tryd.underlying9 g1
    obtain ⟨a2, e2, d2, _⟩ := DataW.trod_int Tryd.underlying3 g2
    simp at e0 e1 e2
    subst e0 e1 e2
    refine ⟨⟨a0, a1, a2⟩, rfl, ?_⟩
    rw [hD, d0, d1, d2]
    rfl
set_option maxRecDepth 100000 in
/-- A slice of tenants, opened: its cells, and its datum. -/
theorem tenants_open {H : Type} {enc : TypeId × Value → H} {W : World} {v : Value} {fuel : Nat} {x : DataW H × List MemPlace} (hf : DataW.trod enc Tryd.prog W 0 (fun _ => true) true fuel 22 [v] = some x) :
    ∃ (a : Option Addr) (c : Nat) (l : List Tn), v = .slice a l.length c ∧ TA W.heap.size W a l ∧ ((l = [] ∧ x.1 = .nil) ∨ ∃ sp, x.1 = .slice (l.map tnD) sp) := by
  rcases open_slice Tryd.underlying22 hf with ⟨hcs, hx⟩ | ⟨y, l, c, m, n, D, Pl, hcs, _, hl, hm, hmm, hxd, hx⟩
  · simp at hcs
    exact ⟨none, 0, [], hcs, fun j t h => by simp at h, Or.inl ⟨rfl, by rw [hx]⟩⟩
  · simp only [List.cons.injEq, and_true] at hcs
    have hmm' : m = c := by simpa using hmm
    subst hmm'
    have each : ∀ i, ∃ q : Tn, i < l → W.cell? (y.add (3 * i)) = some (.string q.name) ∧ W.cell? (y.add (3 * i + 1)) = some (.string q.key) ∧ W.cell? (y.add (3 * i + 2)) = some (.int .i64 q.quota) ∧ D i = tnD q := by
      intro i
      by_cases hi : i < l
      · obtain ⟨cs', h1, h2⟩ := hx i (by omega)
        rw [cellsT] at h1
        obtain ⟨_, hlen, hcell⟩ := World.cells?_some h1
        obtain ⟨q, rfl, hD⟩ := tenant_open h2
        have c0 := hcell 0 (by omega)
        have c1 := hcell 1 (by omega)
        have c2 := hcell 2 (by omega)
        rw [add_add2, Nat.mul_comm] at c0 c1 c2
        exact ⟨q, fun _ => ⟨by simpa using c0, by simpa using c1, by simpa using c2, hD⟩⟩
      · exact ⟨⟨ByteArray.empty, ByteArray.empty, 0⟩, fun h => absurd h hi⟩
    obtain ⟨q, hq⟩ := Classical.axiomOfChoice each
    refine ⟨some y, m, (List.range l).map q, by rw [List.length_map, List.length_range]; exact hcs, fun j z hj => ?_, Or.inr ⟨(List.range (m - l)).map fun j => D (l + j), ?_⟩⟩
    · rw [List.getElem?_map] at hj
      by_cases hi : j < l
      · rw [List.getElem?_range hi] at hj
        simp only [Option.map_some, Option.some.injEq] at hj
        subst hj
        obtain ⟨b, off, spot⟩ := y
        obtain ⟨h0, h1, h2, _⟩ := hq j hi
        have hspot : spot = none := by simpa [Addr.add] using World.cell?_spot (hq 0 (by omega)).1
        subst hspot
        rw [addr_add2] at h0 h1 h2
        rw [Nat.mul_comm] at h0 h1 h2
        exact ⟨b, off, rfl, World.block_lt_of_cell? W _ h0, h0, h1, h2⟩
      · rw [List.getElem?_eq_none (by simp; omega)] at hj
        cases hj
    · rw [hxd]
      show DataW.slice _ _ = DataW.slice _ _
      congr 1
      rw [List.map_map]
      refine List.map_congr_left fun i hi => ?_
      exact (hq i (List.mem_range.1 hi)).2.2.2
theorem tenant_weigh {H : Type} {c : Tn} {d : DataW H} (hd : d = tnD c) (hsz : ∀ n ∈ d.weights Tryd.prog 24, n ≤ reachBytes) : tnZ c := by
  subst hd
  have h3 := hsz c.name.data.toList.length (by simp [tnD, DataW.weights, Tryd.underlying24, DataW.weightsEach])
  have h4 := hsz c.key.data.toList.length (by simp [tnD, DataW.weights, Tryd.underlying24, DataW.weightsEach])
  rw [size_list] at h3 h4
  have hrb : reachBytes < 140737488355328 := by decide
  exact ⟨by omega, by omega⟩
theorem tenants_weigh {H : Type} {d : DataW H} {l : List Tn} (hd : (l = [] ∧ d = .nil) ∨ ∃ sp, d = .slice (l.map tnD) sp) (hsz : ∀ n ∈ d.weights Tryd.prog 22, n ≤ reachBytes) : l.length ≤ 4000000000000 ∧ ∀ f ∈ l, tnZ f := by
  have hrb : reachBytes < 140737488355328 := by decide
  rcases hd with ⟨rfl, rfl⟩ | ⟨sp, rfl⟩
  · exact ⟨Nat.zero_le _, fun f hf => by cases hf⟩
  · have h1 := hsz ((l.length + sp.length) * 40) (by simp [DataW.weights, Tryd.underlying22, bytesT])
    refine ⟨by omega, fun f hf => tenant_weigh (H := H) (d := tnD f) rfl fun n hn => hsz n ?_⟩
    simp only [DataW.weights, Tryd.underlying22]
    exact List.mem_cons_of_mem _ (List.mem_append_left _ (weightsAll_mem hn (List.mem_map_of_mem hf)))
theorem u8_nat {n : Int} (h : (Lit.int .u8 n).wf = true) : ∃ k : Nat, n = (k : Int) ∧ k < 256 := by
  simp [Lit.wf, IntKind.min, IntKind.max, IntKind.signed, IntKind.bits] at h
  exact ⟨n.toNat, by omega, by omega⟩
theorem u64_nat {n : Int} (h : (Lit.int .u64 n).wf = true) : ∃ k : Nat, n = (k : Int) ∧ k < 18446744073709551616 := by
  simp [Lit.wf, IntKind.min, IntKind.max, IntKind.signed, IntKind.bits] at h
  exact ⟨n.toNat, by omega, by omega⟩
theorem bulks.bound {H : Type} {ds : List (DataW H)} (h : Rows.uptoSmall H ds = true) : Rows.uptoBulkAll ds ≤ 1048576 := of_decide_eq_true h
def txD {H : Type} (q : ByteArray) : DataW H := .lit (.string q.data.toList)
set_option maxRecDepth 100000 in
/-- A slice of texts, opened: its cells, and its datum. -/
theorem texts_open {H : Type} {enc : TypeId × Value → H} {W : World} {v : Value} {fuel : Nat} {x : DataW H × List MemPlace} (hf : DataW.trod enc Tryd.prog W 0 (fun _ => true) true fuel 31 [v] = some x) :
    ∃ (a : Option Addr) (c : Nat) (l : List ByteArray), v = .slice a l.length c ∧ SA W.heap.size W a l ∧ ((l = [] ∧ x.1 = .nil) ∨ ∃ sp, x.1 = .slice (l.map txD) sp) := by
  rcases open_slice Tryd.underlying31 hf with ⟨hcs, hx⟩ | ⟨y, l, c, m, n, D, Pl, hcs, _, hl, hm, hmm, hxd, hx⟩
  · simp at hcs
    exact ⟨none, 0, [], hcs, fun j z hj => by simp at hj, Or.inl ⟨rfl, by rw [hx]⟩⟩
  · simp only [List.cons.injEq, and_true] at hcs
    have hmm' : m = c := by simpa using hmm
    subst hmm'
    have each : ∀ i, ∃ q : ByteArray, i < l → W.cell? (y.add i) = some (.string q) ∧ D i = txD q := by
      intro i
      by_cases hi : i < l
      · obtain ⟨cs', h1, h2⟩ := hx i (by omega)
        rw [cells9'] at h1
        obtain ⟨_, hlen, hcell⟩ := World.cells?_some h1
        match cs', hlen with
        | [v0], _ =>
          obtain ⟨a0, e0, d0, _⟩ := DataW.trod_string Tryd.underlying9 h2
          simp at e0
          subst e0
          have c0 := hcell 0 (by omega)
          rw [add_add2] at c0
          exact ⟨a0, fun _ => ⟨by simpa using c0, congrArg Prod.fst d0⟩⟩
      · exact ⟨ByteArray.empty, fun h => absurd h hi⟩
    obtain ⟨q, hq⟩ := Classical.axiomOfChoice each
    refine ⟨some y, m, (List.range l).map q, by rw [List.length_map, List.length_range]; exact hcs, fun j z hj => ?_, Or.inr ⟨(List.range (m - l)).map fun j => D (l + j), ?_⟩⟩
    · rw [List.getElem?_map] at hj
      by_cases hi : j < l
      · rw [List.getElem?_range hi] at hj
        simp only [Option.map_some, Option.some.injEq] at hj
        subst hj
        obtain ⟨b, off, spot⟩ := y
        obtain ⟨h0, _⟩ := hq j hi
        have hspot : spot = none := by simpa [Addr.add] using World.cell?_spot (hq 0 (by omega)).1
        subst hspot
        rw [addr_add2] at h0
        exact ⟨b, off, rfl, World.block_lt_of_cell? W _ h0, h0⟩
      · rw [List.getElem?_eq_none (by simp; omega)] at hj
        cases hj
    · rw [hxd]
      show DataW.slice _ _ = DataW.slice _ _
      congr 1
      rw [List.map_map]
      refine List.map_congr_left fun i hi => ?_
      exact (hq i (List.mem_range.1 hi)).2
theorem bulk_txs {H : Type} : ∀ l : List ByteArray, l.length ≤ Rows.uptoBulkAll (l.map (txD (H := H))) ∧ ∀ f ∈ l, f.size ≤ Rows.uptoBulkAll (l.map (txD (H := H)))
  | [] => ⟨Nat.zero_le _, fun f hf => by cases hf⟩
  | x :: l => by
    obtain ⟨h2, h3⟩ := bulk_txs (H := H) l
    have hb : Rows.uptoBulk (txD (H := H) x) = x.size + 1 := by simp only [txD, Rows.uptoBulk, size_list]
    rw [List.map_cons, Rows.uptoBulkAll, List.length_cons]
    refine ⟨by omega, fun f hf => ?_⟩
    rcases List.mem_cons.1 hf with rfl | hf
    · omega
    · have := h3 f hf; omega
theorem texts_small {H : Type} {l : List ByteArray} {d : DataW H} (hd : (l = [] ∧ d = .nil) ∨ ∃ sp, d = .slice (l.map txD) sp) {N : Nat} (hsz : Rows.uptoBulk d ≤ N) : l.length ≤ N ∧ ∀ f ∈ l, f.size ≤ N := by
  rcases hd with ⟨rfl, rfl⟩ | ⟨sp, rfl⟩
  · exact ⟨Nat.zero_le _, fun f hf => by cases hf⟩
  · simp only [Rows.uptoBulk] at hsz
    obtain ⟨h2, h3⟩ := bulk_txs (H := H) l
    exact ⟨by omega, fun f hf => by have := h3 f hf; omega⟩
end Go.Proofs.YtedibkcempcpnaaDoor.T
