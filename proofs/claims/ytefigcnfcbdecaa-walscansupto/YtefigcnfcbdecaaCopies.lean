/-
  Rows that are copied, and rows that are put behind a row; what is handed in, opened: a slice of bytes.
-/
import Derived.Test.YtefigcnfcbdecaaLives
import Derived.Test.YtefigcnfcbdecaaOpens
import Derived.Deep.RegionWith
namespace Go.Proofs.Ytefigcnfcbdecaa
open Go.RowKit Go.Deep
theorem bytesOf5 : Try.prog.bytesOf 5 = 1 := by kernel_rfl
theorem cells5 : Try.prog.cellsOf 5 = 1 := by kernel_rfl
theorem u8_of_wf {x : Int} (h : (Lit.int .u8 x).wf = true) : 0 ≤ x ∧ x ≤ 255 := by
  simp [Lit.wf, IntKind.min, IntKind.max, IntKind.signed, IntKind.bits] at h
  omega
theorem bytes_open {H : Type} {enc : TypeId × Value → H} {W : World} {a : Option Addr} {len cap fuel : Nat} {t : TypeId} {x : DataW H × List MemPlace} (ht : Try.prog.underlying t = some (.slice 5))
    (hf : DataW.trod enc Try.prog W 0 (fun _ => true) true fuel t [.slice a len cap] = some x) (hsz : ∀ n ∈ x.1.weights Try.prog t, n ≤ reachBytes) :
    ∃ bs : List UInt8, bs.length = len ∧ BytesAt W a bs ∧ len ≤ reachBytes ∧ cap ≤ reachBytes ∧ len ≤ cap ∧ (a = none → cap = 0) ∧ (∀ ad, a = some ad → ad.spot = none ∨ cap = 0) := by
  rcases open_slice1 ht cells5 hf with ⟨hcs, _⟩ | ⟨y, l, c, m, n, V, D, Pl, hcs, _, hl, hm, hmm, hxd, hx⟩
  · simp at hcs
    obtain ⟨rfl, rfl, rfl⟩ := hcs
    exact ⟨[], rfl, fun j s h => by simp at h, by decide, by decide, Nat.le_refl _, fun _ => rfl, fun _ e => by cases e⟩
  · simp only [List.cons.injEq, Value.slice.injEq, and_true] at hcs
    obtain ⟨rfl, rfl, rfl⟩ := hcs
    have hmm' : m = cap := by simpa using hmm
    subst hmm'
    have hspm : y.spot = none ∨ m = 0 := by
      by_cases h0 : m = 0
      · exact Or.inr h0
      · have := World.cell?_spot (hx 0 (by omega)).1
        exact Or.inl (by simpa [Addr.add] using this)
    have hw := hsz (m * 1) (by rw [hxd]; simp [DataW.weights, ht, bytesOf5]; left; omega)
    have each : ∀ i, ∃ q : UInt8, i < len → W.cell? (y.add i) = some (.int .u8 (q.toNat : Nat)) := by
      intro i
      by_cases hi : i < len
      · obtain ⟨h1, h2⟩ := hx i (by omega)
        obtain ⟨k, e2, _, wf⟩ := DataW.trod_int Try.underlying5 h2
        simp at e2
        have hk := u8_of_wf wf
        refine ⟨UInt8.ofNat k.toNat, fun _ => ?_⟩
        rw [h1, e2]
        have : (UInt8.ofNat k.toNat).toNat = k.toNat := by simp; omega
        rw [this, Int.toNat_of_nonneg hk.1]
      · exact ⟨0, fun h => absurd h hi⟩
    obtain ⟨q, hq⟩ := Classical.axiomOfChoice each
    refine ⟨(List.range len).map q, by simp, ?_, by omega, by omega, hl, fun e => (by cases e), fun ad e => (by cases e; exact hspm)⟩
    intro j s hj
    rw [List.getElem?_map] at hj
    by_cases hi : j < len
    · rw [List.getElem?_range hi] at hj
      simp only [Option.map_some, Option.some.injEq] at hj
      subst hj
      obtain ⟨b, off, spot⟩ := y
      have hs0 := hq j hi
      have hspot : spot = none := by simpa [Addr.add] using World.cell?_spot (hq 0 (by omega))
      subst hspot
      rw [addr_add] at hs0
      exact ⟨b, off, rfl, World.block_lt_of_cell? W _ hs0, hs0⟩
    · rw [List.getElem?_eq_none (by simp; omega)] at hj
      cases hj
/-- A row of bytes, copied onto an empty one. -/
theorem wpList_copy5 {ops : Array Oper} {rest : List Oper} {o : Oper} {a : Act} {Q : Exit → Act → World → Prop} (hgd : o.guard = none) (s x : Operand)
    (ho : o.op = .call { callee := .builtin .append, args := #[s, x], argTypes := #[33, 33] }) (W : World) (bs : List UInt8) (src : Option Addr) (n c : Nat)
    (hs : a.eval s = .slice (some ⟨W.heap.size, 0, none⟩) 0 0) (hx : a.eval x = .slice src n c) (hn : bs.length = n) (hsrc : BytesAt W src bs) (hc0 : src = none → c = 0) (hl : n ≤ 140737488355328)
    (h : ∀ g cap w', n ≤ cap → OR W w' g n cap bs → wpList Try.prog ops Q rest (a.put o.dst (.slice (some ⟨g, 0, none⟩) n cap)) w') :
    wpList Try.prog ops Q (o :: rest) a (W.alloc (.cells #[] 5)) := by
  obtain ⟨i0, hi, hz0, hz1, hz2⟩ := info_parts info5
  have er := empty_row5 W
  cases src with
  | none =>
    have hb : bs = [] := by
      cases bs with
      | nil => rfl
      | cons u us =>
        obtain ⟨_, _, e, _⟩ := hsrc 0 u rfl
        cases e
    subst hb
    simp at hn
    subst hn
    rw [hc0 rfl] at hx
    refine wpList_append_own_none hgd s x 33 ho W.heap.size 5 i0 1 Try.underlying33 hi _ 0 [] hs er hx ?_
    exact h _ 0 _ (Nat.le_refl _) ⟨er, rfl, (Below.refl _ W).alloc (Nat.le_refl _) _⟩
  | some ad =>
    refine wpList_append_own _ hgd s x 33 ho W.heap.size 5 i0 (.int .u8 0) 1 1 Try.underlying33 hi hz0 hz1 hz2 rfl (by decide) _ _ _ hs er ad n c (bl bs) hx (by rw [bl_len, hn, Nat.mul_one]) (cells_of_bytes (hsrc.below (Nat.le_refl _) ((Below.refl _ W).alloc (Nat.le_refl _) _))) (bl_one _) (by unfold maxLen; omega) (by omega) (by simp) ?_
    intro v2 w2 hown2 hg2 hnn
    simp only [List.nil_append, Nat.zero_add] at hown2
    have hB : Below W.heap.size W w2 := ((Below.refl _ W).alloc (Nat.le_refl _) _).grown hg2 (by simp) (fun i hi => (er.lt i hi).1)
    rcases hown2.2 with ⟨rfl, _⟩ | ⟨g, cap, cur, rfl, _, _, hc1, _⟩
    · exfalso
      revert hnn
      simp
    · exact h g cap w2 hc1 ⟨hown2, hn, hB⟩
/-- A row of bytes, put behind a row of one's own. -/
theorem wpList_onto5 {W : World} {ops : Array Oper} {rest : List Oper} {o : Oper} {a : Act} {Q : Exit → Act → World → Prop} (hgd : o.guard = none) (s x : Operand)
    (ho : o.op = .call { callee := .builtin .append, args := #[s, x], argTypes := #[33, 33] }) (base : Nat) (v : Value) (k : Nat) (xs : List Value) (hs : a.eval s = v) (hown : W.ownsRow base 5 1 v k xs)
    (bs : List UInt8) (src : Option Addr) (n c : Nat) (hx : a.eval x = .slice src n c) (hn : bs.length = n) (hsrc : BytesAt W src bs) (hc0 : src = none → c = 0) (hl : k + n ≤ 140737488355328) (hb : base ≤ W.heap.size)
    (h : ∀ v' w', w'.ownsRow base 5 1 v' (k + n) (xs ++ bl bs) → Below base W w' → wpList Try.prog ops Q rest (a.put o.dst v') w') :
    wpList Try.prog ops Q (o :: rest) a W := by
  obtain ⟨i0, hi, hz0, hz1, hz2⟩ := info_parts info5
  cases src with
  | none =>
    have hbe : bs = [] := by
      cases bs with
      | nil => rfl
      | cons u us =>
        obtain ⟨_, _, e, _⟩ := hsrc 0 u rfl
        cases e
    subst hbe
    simp at hn
    subst hn
    rw [hc0 rfl] at hx
    refine wpList_append_own_none hgd s x 33 ho base 5 i0 1 Try.underlying33 hi _ k xs hs hown hx ?_
    exact h _ _ (by simpa [bl] using hown) (Below.refl _ _)
  | some ad =>
    refine wpList_append_own _ hgd s x 33 ho base 5 i0 (.int .u8 0) 1 1 Try.underlying33 hi hz0 hz1 hz2 rfl (by decide) _ _ _ hs hown ad n c (bl bs) hx (by rw [bl_len, hn, Nat.mul_one]) (cells_of_bytes hsrc) (bl_one _) (by unfold maxLen; omega) (by omega) hb ?_
    intro v2 w2 hown2 hg2 _
    exact h v2 w2 hown2 ((Below.refl _ W).grown hg2 hb (fun i hi => (hown.lt i hi).1))
theorem owns_meta {W : World} {base n c : Nat} {a : Option Addr} {xs : List Value} (h : W.ownsRow base 5 1 (.slice a n c) n xs) : n ≤ c ∧ (a = none → c = 0) ∧ (∀ ad, a = some ad → ad.spot = none ∨ c = 0) := by
  rcases h.2 with ⟨hv, h0⟩ | ⟨g, cap, cur, hv, _, _, h1, _⟩
  · simp only [Value.slice.injEq] at hv
    obtain ⟨rfl, rfl, rfl⟩ := hv
    exact ⟨Nat.le_refl _, fun _ => rfl, fun _ e => by cases e⟩
  · simp only [Value.slice.injEq, true_and] at hv
    obtain ⟨rfl, rfl⟩ := hv
    exact ⟨h1, fun e => (by cases e), fun ad e => (by cases e; exact Or.inl rfl)⟩
def textsOf (rs : List Rec) : List ByteArray := rs.map fun r => ⟨r.1.toArray⟩
theorem strs_of_owns {W : World} {base n : Nat} {a : Option Addr} {cap : Nat} {rs : List Rec} (h : W.ownsRow base 9 1 (.slice a n cap) n (rs.map textV)) (hn : rs.length = n) : StrsAt W a (textsOf rs) := by
  intro j s hj
  rw [textsOf, List.getElem?_map] at hj
  cases hr : rs[j]? with
  | none => rw [hr] at hj; cases hj
  | some r =>
    rw [hr] at hj
    cases hj
    have hl := (List.getElem?_eq_some_iff.1 hr).1
    rcases h.2 with ⟨hv, h0⟩ | ⟨g, cap', cur, hv, _⟩
    · omega
    · simp only [Value.slice.injEq] at hv
      obtain ⟨rfl, _, _⟩ := hv
      have hc := h.cells (g := g) rfl j (textV r) (by rw [List.getElem?_map, hr]; rfl)
      rw [addr_add, Nat.zero_add] at hc
      exact ⟨g, 0, rfl, World.block_lt_of_cell? W _ hc, by rw [Nat.zero_add]; exact hc⟩
set_option maxRecDepth 100000 in
set_option maxHeartbeats 2000000 in
theorem sameTexts_eq (a b : Option Addr) (ca cb : Nat) (ks : List ByteArray) (w : World) (ha : StrsAt w a ks) (hb : StrsAt w b ks) (hl : ks.length ≤ 140737488355328) :
    Calls Try.prog 19 #[.slice a ks.length ca, .slice b ks.length cb] w fun r w' => r = .returned (.bool true) ∧ Below w.heap.size w w' := by
  obtain ⟨n, hn⟩ : ∃ n, ks.length = n := ⟨_, rfl⟩
  have HN : Hid _ := hn
  have HA : Hid _ := ha
  have HB : Hid _ := hb
  rw [hn] at hl ⊢
  clear ha hb hn
  have h0 : ((n : Int) != (n : Int)) = false := by simp
  go_enter Try.func19, Try.ntmps19
  go_wp2_with fail
  go_loopw [5] (fun i wr => ∃ j : Nat, j ≤ n ∧ i = .int .i64 (j : Nat) ∧ ∃ q, wr = w.drewN q) (fun i _ => n - (intOf i).toNat)
  case atStart => exact ⟨0, by omega, rfl, 0, rfl⟩
  case round =>
    obtain ⟨j, hj, rfl, q, rfl⟩ := hrel
    by_cases hlt : j < n
    · obtain ⟨s, hs⟩ : ∃ s, ks[j]? = some s := ⟨ks[j]'(by rw [HN.out]; exact hlt), List.getElem?_eq_getElem _⟩
      obtain ⟨b1, o1, rfl, _, x0⟩ := HA.out j s hs
      obtain ⟨b2, o2, rfl, _, y0⟩ := HB.out j s hs
      have hltI : (j : Int) < (n : Int) := by omega
      clear hs
      go_wp2_with fail
      go_quiet (fail)
      go_wp2_with fail
      go_roundw
      case rel => exact ⟨j + 1, by omega, by go_num, q + nq, by simp⟩
      case measure => simp [intOf]; omega
    · obtain rfl : j = n := by omega
      go_wp2_with fail
      go_ret
      exact ⟨rfl, belD _ _⟩
end Go.Proofs.Ytefigcnfcbdecaa
