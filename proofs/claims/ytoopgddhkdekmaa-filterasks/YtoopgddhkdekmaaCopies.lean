/-
  Rows that are copied whole; what is handed in, opened: a slice of bytes.
-/
import Derived.Test.YtoopgddhkdekmaaRbuild
import Derived.Test.YtoopgddhkdekmaaNeverWalk
import Derived.Test.YtoopgddhkdekmaaOpens
namespace Go.Proofs.Ytoopgddhkdekmaa
open Go.RowKit Go.Deep
theorem bytesOf5 : Try.prog.bytesOf 5 = 1 := by kernel_rfl
theorem cells5 : Try.prog.cellsOf 5 = 1 := by kernel_rfl
theorem strs_cap0 {H : Type} {enc : TypeId × Value → H} {W : World} {a : Option Addr} {len cap fuel : Nat} {t : TypeId} {x : DataW H × List MemPlace} (ht : Try.prog.underlying t = some (.slice 9))
    (hf : DataW.trod enc Try.prog W 0 (fun _ => true) true fuel t [.slice a len cap] = some x) : a = none → cap = 0 := by
  rcases open_slice1 ht cells9 hf with ⟨hcs, _⟩ | ⟨y, l, c, m, n, V, D, Pl, hcs, _, hl, hm, hmm, hxd, hx⟩
  · simp at hcs
    exact fun _ => hcs.2.2
  · simp only [List.cons.injEq, Value.slice.injEq, and_true] at hcs
    intro e
    rw [hcs.1] at e
    cases e
theorem u8_of_wf {x : Int} (h : (Lit.int .u8 x).wf = true) : 0 ≤ x ∧ x ≤ 255 := by
  simp [Lit.wf, IntKind.min, IntKind.max, IntKind.signed, IntKind.bits] at h
  omega
theorem bytes_open {H : Type} {enc : TypeId × Value → H} {W : World} {a : Option Addr} {len cap fuel : Nat} {t : TypeId} {x : DataW H × List MemPlace} (ht : Try.prog.underlying t = some (.slice 5))
    (hf : DataW.trod enc Try.prog W 0 (fun _ => true) true fuel t [.slice a len cap] = some x) (hsz : ∀ n ∈ x.1.weights Try.prog t, n ≤ reachBytes) :
    ∃ bs : List UInt8, bs.length = len ∧ BytesAt W a bs ∧ len ≤ reachBytes ∧ cap ≤ reachBytes ∧ len ≤ cap ∧ (a = none → cap = 0) := by
  rcases open_slice1 ht cells5 hf with ⟨hcs, _⟩ | ⟨y, l, c, m, n, V, D, Pl, hcs, _, hl, hm, hmm, hxd, hx⟩
  · simp at hcs
    obtain ⟨rfl, rfl, rfl⟩ := hcs
    exact ⟨[], rfl, fun j s h => by simp at h, by decide, by decide, Nat.le_refl _, fun _ => rfl⟩
  · simp only [List.cons.injEq, Value.slice.injEq, and_true] at hcs
    obtain ⟨rfl, rfl, rfl⟩ := hcs
    have hmm' : m = cap := by simpa using hmm
    subst hmm'
    have hw := hsz (m * 1) (by rw [hxd]; simp [DataW.weights, ht, bytesOf5]; left; omega)
    have each : ∀ i, ∃ q : UInt8, i < len → W.cell? (y.add i) = some (.int .u8 (q.toNat : Nat)) := by
      intro i
      by_cases hi : i < len
      · obtain ⟨h1, h2⟩ := hx i (by omega)
        obtain ⟨k, e2, _, wf⟩ := DataW.trod_int Try.underlying5 h2
        simp at e2
        have hk := u8_of_wf wf
        refine ⟨UInt8.ofNat k.toNat, fun _ => ?_⟩
        rw [h1, e2]
        have : (UInt8.ofNat k.toNat).toNat = k.toNat := by simp; omega
        rw [this, Int.toNat_of_nonneg hk.1]
      · exact ⟨0, fun h => absurd h hi⟩
    obtain ⟨q, hq⟩ := Classical.axiomOfChoice each
    refine ⟨(List.range len).map q, by simp, ?_, by omega, by omega, hl, fun e => by cases e⟩
    intro j s hj
    rw [List.getElem?_map] at hj
    by_cases hi : j < len
    · rw [List.getElem?_range hi] at hj
      simp only [Option.map_some, Option.some.injEq] at hj
      subst hj
      obtain ⟨b, off, spot⟩ := y
      have hs0 := hq j hi
      have hspot : spot = none := by simpa [Addr.add] using World.cell?_spot (hq 0 (by omega))
      subst hspot
      rw [addr_add] at hs0
      exact ⟨b, off, rfl, World.block_lt_of_cell? W _ hs0, hs0⟩
    · rw [List.getElem?_eq_none (by simp; omega)] at hj
      cases hj
/-- A row of bytes, copied onto an empty one. -/
theorem wpList_copy5 {ops : Array Oper} {rest : List Oper} {o : Oper} {a : Act} {Q : Exit → Act → World → Prop} (hgd : o.guard = none) (s x : Operand)
    (ho : o.op = .call { callee := .builtin .append, args := #[s, x], argTypes := #[24, 24] }) (W : World) (bs : List UInt8) (src : Option Addr) (n c : Nat)
    (hs : a.eval s = .slice (some ⟨W.heap.size, 0, none⟩) 0 0) (hx : a.eval x = .slice src n c) (hn : bs.length = n) (hsrc : BytesAt W src bs) (hc0 : src = none → c = 0) (hl : n ≤ 140737488355328)
    (h : ∀ g cap w', n ≤ cap → OR W w' g n cap bs → wpList Try.prog ops Q rest (a.put o.dst (.slice (some ⟨g, 0, none⟩) n cap)) w') :
    wpList Try.prog ops Q (o :: rest) a (W.alloc (.cells #[] 5)) := by
  obtain ⟨i0, hi, hz0, hz1, hz2⟩ := info_parts info5
  have er := empty_row5 W
  cases src with
  | none =>
    have hb : bs = [] := by
      cases bs with
      | nil => rfl
      | cons u us =>
        obtain ⟨_, _, e, _⟩ := hsrc 0 u rfl
        cases e
    subst hb
    simp at hn
    subst hn
    rw [hc0 rfl] at hx
    refine wpList_append_own_none hgd s x 24 ho W.heap.size 5 i0 1 Try.underlying24 hi _ 0 [] hs er hx ?_
    exact h _ 0 _ (Nat.le_refl _) ⟨er, rfl, (Below.refl _ W).alloc (Nat.le_refl _) _⟩
  | some ad =>
    refine wpList_append_own _ hgd s x 24 ho W.heap.size 5 i0 (.int .u8 0) 1 1 Try.underlying24 hi hz0 hz1 hz2 rfl (by decide) _ _ _ hs er ad n c (bl bs) hx (by rw [bl_len, hn, Nat.mul_one]) (cells_of_bytes (hsrc.below (Nat.le_refl _) ((Below.refl _ W).alloc (Nat.le_refl _) _))) (bl_one _) (by unfold maxLen; omega) (by omega) (by simp) ?_
    intro v2 w2 hown2 hg2 hnn
    simp only [List.nil_append, Nat.zero_add] at hown2
    have hB : Below W.heap.size W w2 := ((Below.refl _ W).alloc (Nat.le_refl _) _).grown hg2 (by simp) (fun i hi => (er.lt i hi).1)
    rcases hown2.2 with ⟨rfl, _⟩ | ⟨g, cap, cur, rfl, _, _, hc1, _⟩
    · exfalso
      revert hnn
      simp
    · exact h g cap w2 hc1 ⟨hown2, hn, hB⟩
def sl (ks : List ByteArray) : List Value := ks.map Value.string
theorem sl_len (ks : List ByteArray) : (sl ks).length = ks.length := by simp [sl]
theorem sl_one (ks : List ByteArray) : ∀ u ∈ sl ks, u.oneCell' = true := by
  intro u hu
  obtain ⟨c, _, rfl⟩ := List.mem_map.1 hu
  rfl
theorem cells_of_strs {w : World} {ad : Addr} {ks : List ByteArray} (h : StrsAt w (some ad) ks) : ∀ j u, (sl ks)[j]? = some u → w.cell? (ad.add j) = some u := by
  intro j u hu
  rw [sl, List.getElem?_map] at hu
  cases hk : ks[j]? with
  | none => rw [hk] at hu; cases hu
  | some s =>
    rw [hk] at hu
    cases hu
    obtain ⟨b, off, e, _, hc⟩ := h j s hk
    cases e
    rw [addr_add]
    exact hc
theorem empty_row9 (w : World) : (w.alloc (.cells #[] 9)).ownsRow w.heap.size 9 1 (.slice (some ⟨w.heap.size, 0, none⟩) 0 0) 0 [] := by
  refine ⟨rfl, Or.inr ⟨w.heap.size, 0, #[], rfl, Nat.le_refl _, World.alloc_heap_new w _, Nat.le_refl _, by unfold maxLen; omega, rfl, ?_⟩⟩
  simp
/-- A row of texts, copied onto an empty one. -/
theorem wpList_copy9 {ops : Array Oper} {rest : List Oper} {o : Oper} {a : Act} {Q : Exit → Act → World → Prop} (hgd : o.guard = none) (s x : Operand)
    (ho : o.op = .call { callee := .builtin .append, args := #[s, x], argTypes := #[22, 22] }) (W : World) (ks : List ByteArray) (src : Option Addr) (n c : Nat)
    (hs : a.eval s = .slice (some ⟨W.heap.size, 0, none⟩) 0 0) (hx : a.eval x = .slice src n c) (hn : ks.length = n) (hsrc : StrsAt W src ks) (hc0 : src = none → c = 0) (hl : n * 16 ≤ 140737488355328)
    (h : ∀ g cap w', n ≤ cap → StrsAt w' (some ⟨g, 0, none⟩) ks → Below W.heap.size W w' → wpList Try.prog ops Q rest (a.put o.dst (.slice (some ⟨g, 0, none⟩) n cap)) w') :
    wpList Try.prog ops Q (o :: rest) a (W.alloc (.cells #[] 9)) := by
  obtain ⟨i0, hi, hz0, hz1, hz2⟩ := info_parts info9
  have er := empty_row9 W
  cases src with
  | none =>
    have hb : ks = [] := by
      cases ks with
      | nil => rfl
      | cons u us =>
        obtain ⟨_, _, e, _⟩ := hsrc 0 u rfl
        cases e
    subst hb
    simp at hn
    subst hn
    rw [hc0 rfl] at hx
    refine wpList_append_own_none hgd s x 22 ho W.heap.size 9 i0 1 Try.underlying22 hi _ 0 [] hs er hx ?_
    exact h _ 0 _ (Nat.le_refl _) (fun j s hj => by simp at hj) ((Below.refl _ W).alloc (Nat.le_refl _) _)
  | some ad =>
    refine wpList_append_own _ hgd s x 22 ho W.heap.size 9 i0 (.string ByteArray.empty) 1 16 Try.underlying22 hi hz0 hz1 hz2 rfl (by decide) _ _ _ hs er ad n c (sl ks) hx (by rw [sl_len, hn, Nat.mul_one]) (cells_of_strs (hsrc.below (Nat.le_refl _) ((Below.refl _ W).alloc (Nat.le_refl _) _))) (sl_one _) (by unfold maxLen; omega) (by omega) (by simp) ?_
    intro v2 w2 hown2 hg2 hnn
    simp only [List.nil_append, Nat.zero_add] at hown2
    have hB : Below W.heap.size W w2 := ((Below.refl _ W).alloc (Nat.le_refl _) _).grown hg2 (by simp) (fun i hi => (er.lt i hi).1)
    have hcell := fun g (e : v2.ownBlock = some g) => hown2.cells (g := g) e
    rcases hown2.2 with ⟨rfl, _⟩ | ⟨g, cap, cur, rfl, _, _, hc1, _⟩
    · exfalso
      revert hnn
      simp
    · refine h g cap w2 hc1 (fun j s hj => ?_) hB
      have h1 := hcell g rfl j (.string s) (by rw [sl, List.getElem?_map, hj]; rfl)
      rw [addr_add, Nat.zero_add] at h1
      exact ⟨g, 0, rfl, World.block_lt_of_cell? w2 _ h1, by rw [Nat.zero_add]; exact h1⟩
end Go.Proofs.Ytoopgddhkdekmaa
