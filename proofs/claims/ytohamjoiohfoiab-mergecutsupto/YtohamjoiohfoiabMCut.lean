/-
  MergeCuts' walk.
-/
import Derived.Test.YtohamjoiohfoiabRCut
import Derived.Test.YtohamjoiohfoiabRCut1
import Derived.Test.YtohamjoiohfoiabAwake
namespace Go.Proofs.Ytohamjoiohfoiab
open Go.RowKit
theorem rcut_bad (a : Option Addr) (m cp : Nat) (most : Int) (l : List Cl) (w : World) (hca : CA w.heap.size w a l) (hl : l.length = m) (hmx : m < 100000000) (hb : sortedC l = false ∨ most < 1) :
    Calls Try.prog 7 #[.slice a m cp, .int .i64 most] w (CutOut w []) := by
  obtain ⟨r, hr⟩ : ∃ r, sortedC l = r := ⟨_, rfl⟩
  have HSO : Hid (Calls Try.prog 9 #[.slice a m cp] w fun e w' => e = .returned (.bool r) ∧ Below w.heap.size w w') := by
    have := rsorted_any w.heap.size m cp a l w hca hl (Nat.le_refl _) (by omega)
    rw [hr] at this
    exact this
  have HE : Hid (∀ W : World, Below w.heap.size w W → CutOut w [] (.returned (.slice none 0 0)) W) := fun W hW => ⟨_, rfl, ⟨[], World.ownsRow_nil _ _ _ _, fun i p h => by simp at h⟩, hW⟩
  cases r with
  | false =>
    clear hca hl hb hr
    go_enter Try.func7, Try.ntmps7
    go_wp2_with (go_at_call 9; refine Calls.mono HSO.out ?_; rintro e w1 ⟨rfl, b1⟩; have HB1 : Hid (Below w.heap.size w w1) := b1; clear b1)
    go_ret
    exact HE.out _ HB1.out
  | true =>
    have hd : decide (most < 1) = true := decide_eq_true (by rcases hb with hb | hb; rw [hr] at hb; cases hb; exact hb)
    have hd2 : most < 1 := of_decide_eq_true hd
    clear hca hl hb hr
    go_enter Try.func7, Try.ntmps7
    go_wp2_with (go_at_call 9; refine Calls.mono HSO.out ?_; rintro e w1 ⟨rfl, b1⟩; have HB1 : Hid (Below w.heap.size w w1) := b1; clear b1)
    go_ret
    exact HE.out _ HB1.out
/-- Pieces in memory. -/
def PA (W : World) (a : Option Addr) (P : List (List Cl)) : Prop := ∀ (i : Nat) (q : List Cl), P[i]? = some q → ∃ g qa qc, a = some ⟨g, 0, none⟩ ∧ W.cell? ⟨g, i, none⟩ = some (.slice qa q.length qc) ∧ q.length ≤ qc ∧ CA W.heap.size W qa q
theorem PA.up {W V : World} {a : Option Addr} {P : List (List Cl)} (h : PA W a P) (k : Below W.heap.size W V) : PA V a P := fun i q hq => by
  obtain ⟨g, qa, qc, e, h1, h2, h3⟩ := h i q hq
  exact ⟨g, qa, qc, e, cellUp k h1, h2, (h3.below (fun b hb => k.block b hb)).up k.size⟩
theorem cut_pa {w w' : World} {P : List (List Cl)} {r : Ending} (h : CutOut w P r w') : ∃ a c, r = .returned (.slice a P.length c) ∧ PA w' a P ∧ Below w.heap.size w w' := by
  obtain ⟨v, rfl, ⟨vs, h1, h2⟩, h3⟩ := h
  obtain ⟨a, c, rfl⟩ := row_form4 h1
  refine ⟨a, c, rfl, fun i q hq => ?_, h3⟩
  obtain ⟨u, hu, hr⟩ := h2 i q hq
  obtain ⟨qa, qc, rfl, hle, hca⟩ := ca_row hr
  have hi := (List.getElem?_eq_some_iff.1 hq).1
  rcases h1.2 with ⟨hv, h0⟩ | ⟨g, cap, cur, hv, _⟩
  · omega
  · simp only [Value.slice.injEq] at hv
    obtain ⟨rfl, _, _⟩ := hv
    have := h1.cells (g := g) rfl i _ hu
    rw [addr_add, Nat.zero_add] at this
    exact ⟨g, qa, qc, rfl, this, hle, hca⟩
theorem flat_at {P : List (List Cl)} {i : Nat} {q : List Cl} (hq : P[i]? = some q) : P.flatten = (P.take i).flatten ++ (q ++ (P.drop (i + 1)).flatten) := by
  obtain ⟨hi, e⟩ := List.getElem?_eq_some_iff.1 hq
  rw [← List.flatten_cons, ← List.flatten_append, ← e, ← List.drop_eq_getElem_cons hi, List.take_append_drop]
theorem take_flat {P : List (List Cl)} {i : Nat} {q : List Cl} (hq : P[i]? = some q) : (P.take (i + 1)).flatten = (P.take i).flatten ++ q := by
  rw [List.take_add_one, hq]
  simp
theorem len_flat : ∀ {P : List (List Cl)}, (∀ q ∈ P, q ≠ []) → P.length ≤ P.flatten.length
  | [], _ => Nat.le_refl _
  | q :: P, h => by
    have h1 := List.length_pos_iff.2 (h q (by simp))
    have h2 := len_flat (P := P) (fun r hr => h r (by simp [hr]))
    simp only [List.length_cons, List.flatten_cons, List.length_append]
    omega
theorem bound_key {P : List (List Cl)} {l : List Cl} (hf : P.flatten = l) {i t : Nat} {q : List Cl} (hb : Begins l ((P.take i).flatten).length) (hq : P[i]? = some q) {x y : Cl} (ht : t < ((P.take i).flatten).length) (hx : ((P.take i).flatten)[t]? = some x) (hy : q[0]? = some y) : (x.key.toList == y.key.toList) = false := by
  have e := flat_at hq
  rw [hf] at e
  refine hb t x y ht ?_ ?_
  · rw [e, List.getElem?_append_left ht]; exact hx
  · rw [e, List.getElem?_append_right (Nat.le_refl _), Nat.sub_self]
    have h0 : 0 < q.length := (List.getElem?_eq_some_iff.1 hy).1
    rw [List.getElem?_append_left h0]
    exact hy
set_option maxRecDepth 100000 in
set_option maxHeartbeats 8000000 in
theorem mcuts_none (a : Option Addr) (m cp : Nat) (most : Int) (l : List Cl) (w : World) (hca : CA w.heap.size w a l) (hl : l.length = m) (hm : m ≤ cp) (hmx : m ≤ 1048576) (hb : sortedC l = false ∨ most < 1) :
    Calls Try.prog 3 #[.slice a m cp, .int .i64 most] w fun r w' => r = .returned (.bool true) ∧ Below w.heap.size w w' := by
  have hP : cutA l most = [] := by
    rcases hb with hb | hb
    · unfold cutA
      split
      · rfl
      · rw [allG_nil (Or.inr hb)]; rfl
    · rw [cutA, if_pos hb]
  obtain ⟨r, hr⟩ : ∃ r, sortedC l = r := ⟨_, rfl⟩
  have HCA : Hid (∀ V, Below w.heap.size w V → CA V.heap.size V a l) := fun V hV => (hca.below (fun b hb => hV.block b hb)).up hV.size
  have C5 : Hid (Calls Try.prog 5 #[] w fun r w' => r = .returned (.bool true) ∧ Below w.heap.size w w') := awake_any w
  have C6 : Hid (∀ V, Below w.heap.size w V → Calls Try.prog 6 #[.slice a m cp, .int .i64 most] V fun e w' => (∃ ga gc, e = .returned (.slice ga 0 gc)) ∧ Below w.heap.size w w') := fun V k => Calls.mono (cut_any a m cp most l V (HCA.out V k) hl hm (by omega)) (by intro e w' h; rw [hP] at h; obtain ⟨ga, gc, rfl, _, b⟩ := cut_pa h; exact ⟨⟨ga, gc, rfl⟩, k.trans (b.mono k.size)⟩)
  have C7 : Hid (∀ V, Below w.heap.size w V → Calls Try.prog 7 #[.slice a m cp, .int .i64 most] V fun e w' => (∃ ga gc, e = .returned (.slice ga 0 gc)) ∧ Below w.heap.size w w') := fun V k => Calls.mono (rcut_bad a m cp most l V (HCA.out V k) hl (by omega) hb) (by intro e w' h; obtain ⟨ga, gc, rfl, _, b⟩ := cut_pa h; exact ⟨⟨ga, gc, rfl⟩, k.trans (b.mono k.size)⟩)
  have C9 : Hid (∀ V, Below w.heap.size w V → Calls Try.prog 9 #[.slice a m cp] V fun e w' => e = .returned (.bool r) ∧ Below w.heap.size w w') := fun V k => Calls.mono (rsorted_any V.heap.size m cp a l V (HCA.out V k) hl (Nat.le_refl _) (by omega)) (by rintro e w' ⟨rfl, b⟩; rw [hr]; exact ⟨rfl, k.trans (b.mono k.size)⟩)
  cases r with
  | false =>
    clear hca hl hm hmx hb hP hr HCA
    go_enter Try.func3, Try.ntmps3
    go_wp2_with (first
      | (go_at_call 7; refine Calls.mono (C7.out w2 B2.out) ?_; rintro e w3 ⟨⟨ha, hc, rfl⟩, b⟩; have B3 : Hid (Below w.heap.size w w3) := b; clear b)
      | (go_at_call 6; refine Calls.mono (C6.out w1 B1.out) ?_; rintro e w2 ⟨⟨ga, gc, rfl⟩, b⟩; have B2 : Hid (Below w.heap.size w w2) := b; clear b)
      | (go_at_call 5; refine Calls.mono C5.out ?_; rintro e w1 ⟨rfl, b⟩; have B1 : Hid (Below w.heap.size w w1) := b; clear b))
    refine wp_loop_rounds 1 ?_
    rw [rounds_succ]
    go_wp2_with (go_at_call 9; refine Calls.mono (C9.out w3 B3.out) ?_; rintro e w4 ⟨rfl, b⟩; have B4 : Hid (Below w.heap.size w w4) := b; clear b)
    go_ret
    exact ⟨rfl, B4.out⟩
  | true =>
    have hd : most < 1 := by rcases hb with hb | hb; rw [hr] at hb; cases hb; exact hb
    clear hca hl hm hmx hb hP hr HCA
    go_enter Try.func3, Try.ntmps3
    go_wp2_with (first
      | (go_at_call 7; refine Calls.mono (C7.out w2 B2.out) ?_; rintro e w3 ⟨⟨ha, hc, rfl⟩, b⟩; have B3 : Hid (Below w.heap.size w w3) := b; clear b)
      | (go_at_call 6; refine Calls.mono (C6.out w1 B1.out) ?_; rintro e w2 ⟨⟨ga, gc, rfl⟩, b⟩; have B2 : Hid (Below w.heap.size w w2) := b; clear b)
      | (go_at_call 5; refine Calls.mono C5.out ?_; rintro e w1 ⟨rfl, b⟩; have B1 : Hid (Below w.heap.size w w1) := b; clear b))
    refine wp_loop_rounds 1 ?_
    rw [rounds_succ]
    go_wp2_with (go_at_call 9; refine Calls.mono (C9.out w3 B3.out) ?_; rintro e w4 ⟨rfl, b⟩; have B4 : Hid (Below w.heap.size w w4) := b; clear b)
    go_ret
    exact ⟨rfl, B4.out⟩
set_option maxRecDepth 100000 in
set_option maxHeartbeats 8000000 in
theorem mcuts_some (a : Option Addr) (m cp : Nat) (most : Int) (l : List Cl) (w : World) (hca : CA w.heap.size w a l) (hl : l.length = m) (hm : m ≤ cp) (hmx : m ≤ 1048576) (hs : sortedC l = true) (h1 : 1 ≤ most) (hm2 : most ≤ 9223372036854775807) (hw : wN l < 4000000000000000000) :
    Calls Try.prog 3 #[.slice a m cp, .int .i64 most] w fun r w' => r = .returned (.bool true) ∧ Below w.heap.size w w' := by
  obtain ⟨i0, hi, hz0, hz1, hz2⟩ := info_parts info24
  obtain ⟨e1, e2, e3, e4⟩ := cut_same (l := l) (most := most) hm2 hw
  obtain ⟨P, hP⟩ : ∃ P, cutA l most = P := ⟨_, rfl⟩
  rw [hP] at e1 e2 e3 e4
  have hfl := e4 hs h1
  obtain ⟨nP, hnP⟩ : ∃ n, P.length = n := ⟨_, rfl⟩
  have HNP : Hid (P.length = nP) := hnP
  have HFL : Hid (P.flatten = l) := hfl
  have HNE : Hid (∀ q ∈ P, q ≠ []) := e2
  have HBD : Hid (Bounds l P) := e3
  have HL : Hid (l.length = m) := hl
  have HCA : Hid (∀ V, Below w.heap.size w V → CA V.heap.size V a l) := fun V hV => (hca.below (fun b hb => hV.block b hb)).up hV.size
  have C5 : Hid (Calls Try.prog 5 #[] w fun r w' => r = .returned (.bool true) ∧ Below w.heap.size w w') := awake_any w
  have C6 : Hid (∀ V, Below w.heap.size w V → Calls Try.prog 6 #[.slice a m cp, .int .i64 most] V fun e w' => ∃ ga gc, e = .returned (.slice ga nP gc) ∧ PA w' ga P ∧ Below w.heap.size w w') := fun V k => Calls.mono (cut_any a m cp most l V (HCA.out V k) hl hm (by omega)) (by intro e w' h; rw [hP] at h; obtain ⟨ga, gc, rfl, hp, b⟩ := cut_pa h; rw [hnP]; exact ⟨ga, gc, rfl, hp, k.trans (b.mono k.size)⟩)
  have C7 : Hid (∀ V, Below w.heap.size w V → Calls Try.prog 7 #[.slice a m cp, .int .i64 most] V fun e w' => ∃ ga gc, e = .returned (.slice ga nP gc) ∧ PA w' ga P ∧ Below V.heap.size V w') := fun V k => Calls.mono (rcut_sorted a m cp most l V (HCA.out V k) hl hm (by omega) hs (decide_eq_false (by omega))) (by intro e w' h; rw [e1] at h; obtain ⟨ga, gc, rfl, hp, b⟩ := cut_pa h; rw [hnP]; exact ⟨ga, gc, rfl, hp, b⟩)
  have C9 : Hid (∀ V, Below w.heap.size w V → Calls Try.prog 9 #[.slice a m cp] V fun e w' => e = .returned (.bool true) ∧ Below V.heap.size V w') := fun V k => by have := rsorted_any V.heap.size m cp a l V (HCA.out V k) hl (Nat.le_refl _) (by omega); rw [hs] at this; exact this
  have CS : Hid (∀ V x y cx cy (L : List Cl) n, CA V.heap.size V x L → CA V.heap.size V y L → L.length = n → n < 1000000000000000 → Calls Try.prog 8 #[.slice x n cx, .slice y n cy] V fun r w' => r = .returned (.bool true) ∧ Below V.heap.size V w') := fun V x y cx cy L n hx hy hn hb => same_ca V x y cx cy n L hx hy hn hb
  have HPB : Hid (∀ V ga, PA V ga P → ∀ W, Below V.heap.size V W → PA W ga P) := fun V ga h W k => h.up k
  have HTK : Hid (∀ i, ((P.take i).flatten).length ≤ m) := fun i => by
    have h : P.flatten = (P.take i).flatten ++ (P.drop i).flatten := by rw [← List.flatten_append, List.take_append_drop]
    rw [hfl] at h
    rw [← hl, h, List.length_append]
    omega
  have hnPm : nP ≤ m := by have := len_flat e2; rw [hfl, hnP, hl] at this; exact this
  have hnn : ((nP : Int) != (nP : Int)) = false := by simp
  have hml : ¬ most < 1 := by omega
  have hdm : decide (most < 1) = false := decide_eq_false hml
  clear hca hl hs hP e1 e2 e3 e4 hfl hnP hw hm2 h1
  go_enter Try.func3, Try.ntmps3
  go_wp2_with (first
    | (go_at_call 7; refine Calls.mono (C7.out w2 B2.out) ?_; rintro e w3 ⟨ha, hc, rfl, hp, b⟩; have HPH : Hid (∀ V, Below w3.heap.size w3 V → PA V ha P) := HPB.out w3 ha hp; have HPG : Hid (∀ V, Below w3.heap.size w3 V → PA V ga P) := HPB.out w3 ga (HPB.out w2 ga G2.out w3 b); have B3 : Hid (Below w.heap.size w w3) := B2.out.trans (b.mono B2.out.size); clear b hp)
    | (go_at_call 6; refine Calls.mono (C6.out w1 B1.out) ?_; rintro e w2 ⟨ga, gc, rfl, hp, b⟩; have G2 : Hid (PA w2 ga P) := hp; have B2 : Hid (Below w.heap.size w w2) := b; clear b hp)
    | (go_at_call 5; refine Calls.mono C5.out ?_; rintro e w1 ⟨rfl, b⟩; have B1 : Hid (Below w.heap.size w w1) := b; clear b))
  obtain ⟨s3, hs3⟩ : ∃ s, w3.heap.size = s := ⟨_, rfl⟩
  have HS3 : Hid (w3.heap.size = s3) := hs3
  clear hs3
  go_loopw [7, 25] (fun v iv wr => ∃ i : Nat, i ≤ nP ∧ iv = .int .i64 (i : Nat) ∧ Hid (wr.ownsRow s3 29 4 v ((P.take i).flatten).length (flC (P.take i).flatten)) ∧ Hid (Below w3.heap.size w3 wr)) (fun _ iv _ => nP - (intOf iv).toNat)
  case atStart => exact ⟨0, by omega, rfl, World.ownsRow_nil _ _ _ _, Below.refl _ _⟩
  case round =>
    obtain ⟨i, hin, rfl, HR, HB⟩ := hrel
    have HBW : Hid (Below w.heap.size w wr) := B3.out.trans (HB.out.mono B3.out.size)
    obtain ⟨na, hna⟩ : ∃ n, ((P.take i).flatten).length = n := ⟨_, rfl⟩
    have HNA : Hid (((P.take i).flatten).length = na) := hna
    have hrow := HR.out
    rw [hna] at hrow
    obtain ⟨va, vc, rfl⟩ := row_form4 hrow
    have HRW : Hid (RowAt wr s3 29 4 (.slice va na vc) na (flC (P.take i).flatten)) := hrow
    have hnam : na ≤ m := by rw [← hna]; exact HTK.out i
    clear hrow hna HR
    by_cases hlt : i < nP
    · obtain ⟨q, hq⟩ : ∃ q, P[i]? = some q := ⟨P[i]'(by rw [HNP.out]; exact hlt), List.getElem?_eq_getElem _⟩
      have HQ : Hid (P[i]? = some q) := hq
      obtain ⟨g, qa, qc, rfl, g1, g2, g3⟩ := HPG.out wr HB.out i q hq
      obtain ⟨h, ra, rc, rfl, k1, k2, k3⟩ := HPH.out wr HB.out i q hq
      obtain ⟨nQ, hnQ⟩ : ∃ n, q.length = n := ⟨_, rfl⟩
      have HNQ : Hid (q.length = nQ) := hnQ
      rw [hnQ] at g1 g2 k1
      have hqne : q ≠ [] := HNE.out q (List.mem_of_getElem? hq)
      obtain ⟨y, hy⟩ : ∃ y, q[0]? = some y := ⟨q[0]'(List.length_pos_iff.2 hqne), List.getElem?_eq_getElem _⟩
      have HY : Hid (q[0]? = some y) := hy
      have hnQ0 : 0 < nQ := by rw [← hnQ]; exact List.length_pos_iff.2 hqne
      obtain ⟨qb, qo, rfl, _⟩ := g3 0 y hy
      have HSS : Hid (∀ V, Below wr.heap.size wr V → V.cell? ⟨g, i, none⟩ = some (.slice (some ⟨qb, qo, none⟩) nQ qc) ∧ V.cell? ⟨h, i, none⟩ = some (.slice ra nQ rc)) := fun V k => ⟨cellUp k g1, cellUp k k1⟩
      have HQC : Hid (∀ V, Below wr.heap.size wr V → CA V.heap.size V (some ⟨qb, qo, none⟩) q) := fun V k => (g3.below (fun b hb => k.block b hb)).up k.size
      have hnQm : na + nQ ≤ m := by
        have := HTK.out (i + 1)
        rw [take_flat hq, List.length_append, HNA.out, hnQ] at this
        exact this
      have CSQ : Hid (∀ V, Below wr.heap.size wr V → Calls Try.prog 8 #[.slice (some ⟨qb, qo, none⟩) nQ qc, .slice ra nQ rc] V fun r w' => r = .returned (.bool true) ∧ Below wr.heap.size wr w') := fun V k => Calls.mono (CS.out V _ _ qc rc q nQ (HQC.out V k) ((k3.below (fun b hb => k.block b hb)).up k.size) hnQ (by omega)) (by rintro r w' ⟨rfl, b⟩; exact ⟨rfl, k.trans (b.mono k.size)⟩)
      have SD : Below wr.heap.size wr wr.drew := (Below.refl _ _).drew
      have sd := HSS.out _ SD
      have hq0 : ((nQ : Int) == 0) = false := by simp; omega
      have HTF : Hid ((P.take (i + 1)).flatten = (P.take i).flatten ++ q) := take_flat hq
      have HKEY : Hid (∀ t x, t < ((P.take i).flatten).length → ((P.take i).flatten)[t]? = some x → (x.key.toList == y.key.toList) = false) := fun t x ht hx => bound_key HFL.out (HBD.out i (by rw [HNP.out]; exact hlt)) hq ht hx hy
      clear hq g1 g2 g3 k1 k2 k3 hnQ hqne hy HPG HPH
      go_wp2_with fail
      refine wp_region_held_drew (S := (fun W => W.cell? ⟨g, i, none⟩ = some (.slice (some ⟨qb, qo, none⟩) nQ qc) ∧ W.cell? ⟨h, i, none⟩ = some (.slice ra nQ rc))) (by kernel_rfl) sd (fun hHeld => ?_)
      refine wpAnyH_take (i := 0) (oi := ({ dst := some 28, op := Op.move (Operand.tmp 5), type := 24, pos := "law.go:117", after := #[], guard := none } : Oper)) (v := ?_) rfl (by kernel_rfl) (by kernel_rfl) (by kernel_rfl) (fun _ _ _ h => h) (Or.inl ⟨by rfl, ?_⟩) (by assumption) ?_
      rotate_left
      · (intro w hSw; (try dsimp only at hSw); go_simp; try with_reducible rfl)
      try simp only [Act.put, List.setIfInBounds_toArray, List.set_cons_zero, List.set_cons_succ]
      refine wpAnyH_take (i := 1) (oi := ({ dst := some 29, op := Op.move (Operand.tmp 8), type := 3, pos := "law.go:117", after := #[], guard := none } : Oper)) (v := ?_) rfl (by kernel_rfl) (by kernel_rfl) (by kernel_rfl) (fun _ _ _ h => h) (Or.inl ⟨by rfl, ?_⟩) (by assumption) ?_
      rotate_left
      · (intro w hSw; (try dsimp only at hSw); go_simp; try with_reducible rfl)
      try simp only [Act.put, List.setIfInBounds_toArray, List.set_cons_zero, List.set_cons_succ]
      refine wpAnyH_take (i := 2) (oi := ({ dst := some 30, op := Op.indexAddr 24 (Operand.tmp 28) (Operand.tmp 29), type := 0, pos := "law.go:117", after := #[{ on := 0, ground := Ground.data }, { on := 1, ground := Ground.data }], guard := none } : Oper)) (v := ?_) rfl (by kernel_rfl) (by kernel_rfl) (by kernel_rfl) (fun _ _ _ h => h) (Or.inl ⟨by rfl, ?_⟩) (by assumption) ?_
      rotate_left
      · (intro w hSw; (try dsimp only at hSw); go_simp; try with_reducible rfl)
      try simp only [Act.put, List.setIfInBounds_toArray, List.set_cons_zero, List.set_cons_succ]
      refine wpAnyH_take (i := 3) (oi := ({ dst := some 31, op := Op.load 22 (Operand.tmp 30), type := 22, pos := "law.go:117", after := #[{ on := 2, ground := Ground.data }], guard := none } : Oper)) (v := ?_) rfl (by kernel_rfl) (by kernel_rfl) (by kernel_rfl) (fun _ _ _ h => h) (Or.inl ⟨by rfl, ?_⟩) (by assumption) ?_
      rotate_left
      · (intro w hSw; (try dsimp only at hSw); go_simp; try with_reducible rfl)
      try simp only [Act.put, List.setIfInBounds_toArray, List.set_cons_zero, List.set_cons_succ]
      refine wpAnyH_take (i := 4) (oi := ({ dst := some 32, op := Op.move (Operand.tmp 6), type := 24, pos := "law.go:117", after := #[], guard := none } : Oper)) (v := ?_) rfl (by kernel_rfl) (by kernel_rfl) (by kernel_rfl) (fun _ _ _ h => h) (Or.inl ⟨by rfl, ?_⟩) (by assumption) ?_
      rotate_left
      · (intro w hSw; (try dsimp only at hSw); go_simp; try with_reducible rfl)
      try simp only [Act.put, List.setIfInBounds_toArray, List.set_cons_zero, List.set_cons_succ]
      refine wpAnyH_take (i := 5) (oi := ({ dst := some 33, op := Op.move (Operand.tmp 8), type := 3, pos := "law.go:117", after := #[], guard := none } : Oper)) (v := ?_) rfl (by kernel_rfl) (by kernel_rfl) (by kernel_rfl) (fun _ _ _ h => h) (Or.inl ⟨by rfl, ?_⟩) (by assumption) ?_
      rotate_left
      · (intro w hSw; (try dsimp only at hSw); go_simp; try with_reducible rfl)
      try simp only [Act.put, List.setIfInBounds_toArray, List.set_cons_zero, List.set_cons_succ]
      refine wpAnyH_take (i := 6) (oi := ({ dst := some 34, op := Op.indexAddr 24 (Operand.tmp 32) (Operand.tmp 33), type := 0, pos := "law.go:117", after := #[{ on := 4, ground := Ground.data }, { on := 5, ground := Ground.data }], guard := none } : Oper)) (v := ?_) rfl (by kernel_rfl) (by kernel_rfl) (by kernel_rfl) (fun _ _ _ h => h) (Or.inl ⟨by rfl, ?_⟩) (by assumption) ?_
      rotate_left
      · (intro w hSw; (try dsimp only at hSw); go_simp; try with_reducible rfl)
      try simp only [Act.put, List.setIfInBounds_toArray, List.set_cons_zero, List.set_cons_succ]
      refine wpAnyH_take (i := 7) (oi := ({ dst := some 35, op := Op.load 22 (Operand.tmp 34), type := 22, pos := "law.go:117", after := #[{ on := 6, ground := Ground.data }], guard := none } : Oper)) (v := ?_) rfl (by kernel_rfl) (by kernel_rfl) (by kernel_rfl) (fun _ _ _ h => h) (Or.inl ⟨by rfl, ?_⟩) (by assumption) ?_
      rotate_left
      · (intro w hSw; (try dsimp only at hSw); go_simp; try with_reducible rfl)
      try simp only [Act.put, List.setIfInBounds_toArray, List.set_cons_zero, List.set_cons_succ]
      refine wpAnyH_ready (rs := [8]) (by kernel_rfl) (by simp) ?_
      refine AllReadyH.cons rfl (fun K hK => ?_) AllReadyH.nil
      go_simp
      go_wp2_with (go_at_call 8; refine Calls.mono (CSQ.out _ (by assumption)) ?_; rintro e wb ⟨rfl, bb⟩; have sb := HSS.out _ bb)
      refine hK.out _ _ (by first | assumption | go_keep) (fun hHeld => ?_)
      clear hK K
      refine wpAnyH_take (i := 9) (oi := ({ dst := some 37, op := Op.unOp UnOp.not 4 (Operand.tmp 36), type := 4, pos := "law.go:117", after := #[{ on := 8, ground := Ground.data }], guard := none } : Oper)) (v := ?_) rfl (by kernel_rfl) (by kernel_rfl) (by kernel_rfl) (fun _ _ _ h => h) (Or.inl ⟨by rfl, ?_⟩) (by assumption) ?_
      rotate_left
      · (intro w hSw; (try dsimp only at hSw); go_simp; try with_reducible rfl)
      try simp only [Act.put, List.setIfInBounds_toArray, List.set_cons_zero, List.set_cons_succ]
      refine wpAnyH_take (i := 10) (oi := ({ dst := some 38, op := Op.move (Operand.tmp 37), type := 4, pos := "law.go:117", after := #[{ on := 9, ground := Ground.data }, { on := 8, ground := Ground.chain }], guard := none } : Oper)) (v := ?_) rfl (by kernel_rfl) (by kernel_rfl) (by kernel_rfl) (fun _ _ _ h => h) (Or.inl ⟨by rfl, ?_⟩) (by assumption) ?_
      rotate_left
      · (intro w hSw; (try dsimp only at hSw); go_simp; try with_reducible rfl)
      try simp only [Act.put, List.setIfInBounds_toArray, List.set_cons_zero, List.set_cons_succ]
      refine wpAnyH_take (i := 11) (oi := ({ dst := some 39, op := Op.move (Operand.tmp 5), type := 24, pos := "law.go:117", after := #[{ on := 10, ground := Ground.guard }], guard := some (10, false) } : Oper)) (v := ?_) rfl (by kernel_rfl) (by kernel_rfl) (by kernel_rfl) (fun _ _ _ h => h) (Or.inl ⟨by rfl, ?_⟩) (by assumption) ?_
      rotate_left
      · (intro w hSw; (try dsimp only at hSw); go_simp; try with_reducible rfl)
      try simp only [Act.put, List.setIfInBounds_toArray, List.set_cons_zero, List.set_cons_succ]
      refine wpAnyH_take (i := 12) (oi := ({ dst := some 40, op := Op.move (Operand.tmp 8), type := 3, pos := "law.go:117", after := #[{ on := 10, ground := Ground.guard }], guard := some (10, false) } : Oper)) (v := ?_) rfl (by kernel_rfl) (by kernel_rfl) (by kernel_rfl) (fun _ _ _ h => h) (Or.inl ⟨by rfl, ?_⟩) (by assumption) ?_
      rotate_left
      · (intro w hSw; (try dsimp only at hSw); go_simp; try with_reducible rfl)
      try simp only [Act.put, List.setIfInBounds_toArray, List.set_cons_zero, List.set_cons_succ]
      refine wpAnyH_take (i := 13) (oi := ({ dst := some 41, op := Op.indexAddr 24 (Operand.tmp 39) (Operand.tmp 40), type := 0, pos := "law.go:117", after := #[{ on := 11, ground := Ground.data }, { on := 12, ground := Ground.data }, { on := 10, ground := Ground.guard }], guard := some (10, false) } : Oper)) (v := ?_) rfl (by kernel_rfl) (by kernel_rfl) (by kernel_rfl) (fun _ _ _ h => h) (Or.inl ⟨by rfl, ?_⟩) (by assumption) ?_
      rotate_left
      · (intro w hSw; (try dsimp only at hSw); go_simp; try with_reducible rfl)
      try simp only [Act.put, List.setIfInBounds_toArray, List.set_cons_zero, List.set_cons_succ]
      refine wpAnyH_take (i := 14) (oi := ({ dst := some 42, op := Op.load 22 (Operand.tmp 41), type := 22, pos := "law.go:117", after := #[{ on := 13, ground := Ground.data }, { on := 10, ground := Ground.guard }], guard := some (10, false) } : Oper)) (v := ?_) rfl (by kernel_rfl) (by kernel_rfl) (by kernel_rfl) (fun _ _ _ h => h) (Or.inl ⟨by rfl, ?_⟩) (by assumption) ?_
      rotate_left
      · (intro w hSw; (try dsimp only at hSw); go_simp; try with_reducible rfl)
      try simp only [Act.put, List.setIfInBounds_toArray, List.set_cons_zero, List.set_cons_succ]
      refine wpAnyH_take (i := 15) (oi := ({ dst := some 43, op := Op.call { callee := Callee.builtin Builtin.len, args := #[Operand.tmp 42], argTypes := #[22] }, type := 3, pos := "law.go:117", after := #[{ on := 14, ground := Ground.data }, { on := 10, ground := Ground.guard }], guard := some (10, false) } : Oper)) (v := ?_) rfl (by kernel_rfl) (by kernel_rfl) (by kernel_rfl) (fun _ _ _ h => h) (Or.inl ⟨by rfl, ?_⟩) (by assumption) ?_
      rotate_left
      · (intro w hSw; (try dsimp only at hSw); go_simp; try with_reducible rfl)
      try simp only [Act.put, List.setIfInBounds_toArray, List.set_cons_zero, List.set_cons_succ]
      refine wpAnyH_take (i := 16) (oi := ({ dst := some 44, op := Op.binOp BinOp.eql 3 (Operand.tmp 43) (Operand.const (Value.int IntKind.i64 0)) 3, type := 4, pos := "law.go:117", after := #[{ on := 15, ground := Ground.data }, { on := 10, ground := Ground.guard }], guard := some (10, false) } : Oper)) (v := ?_) rfl (by kernel_rfl) (by kernel_rfl) (by kernel_rfl) (fun _ _ _ h => h) (Or.inl ⟨by rfl, ?_⟩) (by assumption) ?_
      rotate_left
      · (intro w hSw; (try dsimp only at hSw); go_simp; try with_reducible rfl)
      try simp only [Act.put, List.setIfInBounds_toArray, List.set_cons_zero, List.set_cons_succ]
      refine wpAnyH_take (i := 17) (oi := ({ dst := some 45, op := Op.pick (Operand.tmp 38) (Operand.const (Value.bool true)) (Operand.tmp 44), type := 4, pos := "law.go:117", after := #[{ on := 10, ground := Ground.data }, { on := 16, ground := Ground.data }], guard := none } : Oper)) (v := ?_) rfl (by kernel_rfl) (by kernel_rfl) (by kernel_rfl) (fun _ _ _ h => h) (Or.inl ⟨by rfl, ?_⟩) (by assumption) ?_
      rotate_left
      · (intro w hSw; (try dsimp only at hSw); go_simp; try with_reducible rfl)
      try simp only [Act.put, List.setIfInBounds_toArray, List.set_cons_zero, List.set_cons_succ]
      refine wpAnyH_done (by kernel_rfl) ?_ _
      have HRB : Hid (RowAt wb s3 29 4 (.slice va na vc) na (flC (P.take i).flatten)) := owns_same HRW.out (fun g e => bb.block g (World.ownsRow.lt HRW.out g e).2)
      have HQB := HQC.out wb bb
      obtain ⟨qb', qo', e', _, z0, _⟩ := HQB 0 y HY.out
      cases e'
      have HNB : Hid (∀ j u, (flC q)[j]? = some u → wb.cell? ((⟨qb, qo, none⟩ : Addr).add j) = some u) := ca_flat' HQB
      have HBB : Hid (Below w3.heap.size w3 wb) := HB.out.trans (bb.mono HB.out.size)
      have HSB : Hid (s3 ≤ wb.heap.size) := by have := HBB.out.size; have := HS3.out; rw [Hid]; omega
      have HFQ : Hid ((flC q).length = nQ * 4) := by rw [Hid, flC_len, HNQ.out]
      simp only [Nat.zero_mul, Nat.add_zero] at z0
      obtain ⟨sb0, sb1⟩ := sb
      clear SD sd HSS HQC CSQ HQB HRW bb
      by_cases hna0 : na = 0
      · have hdn : decide ((0 : Int) < (na : Int)) = false := decide_eq_false (by omega)
        have hdn2 : decide (0 < na) = false := decide_eq_false (by omega)
        go_wp2_with fail
        go_quiet (fail)
        have HRQ : Hid (RowAt (wb.drewN nq) s3 29 4 (.slice va na vc) na (flC (P.take i).flatten)) := HRB.out
        have HNQ2 : Hid (∀ j u, (flC q)[j]? = some u → (wb.drewN nq).cell? ((⟨qb, qo, none⟩ : Addr).add j) = some u) := HNB.out
        have HBQ : Hid (Below w3.heap.size w3 (wb.drewN nq)) := HBB.out.trans ((belD wb nq).mono HBB.out.size)
        have HSQ : Hid (s3 ≤ (wb.drewN nq).heap.size) := HSB.out
        have sq0 : (wb.drewN nq).cell? ⟨g, i, none⟩ = some (.slice (some ⟨qb, qo, none⟩) nQ qc) := sb0
        clear sb0 sb1 z0 HRB HNB HBB HSB
        generalize wb.drewN nq = wq at HRQ HNQ2 HBQ HSQ sq0 ⊢
        go_wp2_with (at_builtin; refine wpList_append_own _ rfl _ _ 22 rfl s3 29 i0 (.agg #[.string ByteArray.empty, .int .u64 0, .string ByteArray.empty, .bool false]) 4 48 Try.underlying22 hi hz0 hz1 hz2 rfl (by decide) _ _ _ rfl HRQ.out ⟨qb, qo, none⟩ nQ qc (flC q) rfl HFQ.out HNQ2.out (flC_one _) (by unfold maxLen; omega) (by omega) HSQ.out ?_; intro v2 w5 hown2 hg2 _; obtain ⟨na2, nc2, rfl⟩ := row_form4 hown2; have HR5 : Hid (w5.ownsRow s3 29 4 (.slice na2 (na + nQ) nc2) ((P.take (i + 1)).flatten).length (flC (P.take (i + 1)).flatten)) := (by rw [HTF.out, List.length_append, HNA.out, HNQ.out, flC_app]; exact hown2); have HB5 : Hid (Below w3.heap.size w3 w5) := HBQ.out.grown hg2 HBQ.out.size (fun k e => by have := (World.ownsRow.lt HRQ.out k e).1; have := HS3.out; omega); clear hown2 hg2)
        go_roundw
        case rel => exact ⟨i + 1, by omega, by go_num, by first | exact HR5.out | (have h := HR5.out; rw [hna0, Nat.zero_add] at h; exact h), HB5.out⟩
        case measure => simp [intOf]; omega
      · obtain ⟨t, rfl⟩ : ∃ t, na = t + 1 := ⟨na - 1, by omega⟩
        obtain ⟨x, hx⟩ : ∃ x, ((P.take i).flatten)[t]? = some x := ⟨((P.take i).flatten)[t]'(by rw [HNA.out]; omega), List.getElem?_eq_getElem _⟩
        have hkey := HKEY.out t x (by rw [HNA.out]; omega) hx
        have hrr : wb.ownsRow s3 29 4 (.slice va (t + 1) vc) ((P.take i).flatten).length (flC (P.take i).flatten) := by rw [HNA.out]; exact HRB.out
        obtain ⟨a', c', e', _, hcv⟩ := ca_row hrr
        rw [HNA.out] at e'
        cases e'
        obtain ⟨vb, vo, rfl, _, x0, _⟩ := hcv t x hx
        have hdn : decide ((0 : Int) < ((t + 1 : Nat) : Int)) = true := decide_eq_true (by omega)
        have hdn2 : decide (0 < t + 1) = true := decide_eq_true (by omega)
        have hdn3 : decide ((0 : Int) < (t : Int) + 1) = true := decide_eq_true (by omega)
        have hmI : IntKind.i64.wrap ((t : Int) + 1 - 1) = (t : Int) := by rw [IntKind.wrap_i64]; omega
        have hmJ : IntKind.i64.wrap (((t + 1 : Nat) : Int) - 1) = (t : Int) := by rw [IntKind.wrap_i64]; omega
        have hmK : IntKind.i64.wrap (t : Int) = (t : Int) := by rw [IntKind.wrap_i64]; omega
        clear hcv hrr hx HKEY
        go_wp2_with fail
        go_quiet (fail)
        have HRQ : Hid (RowAt (wb.drewN nq) s3 29 4 (.slice (some ⟨vb, vo, none⟩) (t + 1) vc) (t + 1) (flC (P.take i).flatten)) := HRB.out
        have HNQ2 : Hid (∀ j u, (flC q)[j]? = some u → (wb.drewN nq).cell? ((⟨qb, qo, none⟩ : Addr).add j) = some u) := HNB.out
        have HBQ : Hid (Below w3.heap.size w3 (wb.drewN nq)) := HBB.out.trans ((belD wb nq).mono HBB.out.size)
        have HSQ : Hid (s3 ≤ (wb.drewN nq).heap.size) := HSB.out
        have sq0 : (wb.drewN nq).cell? ⟨g, i, none⟩ = some (.slice (some ⟨qb, qo, none⟩) nQ qc) := sb0
        clear sb0 sb1 z0 HRB HNB HBB HSB
        generalize wb.drewN nq = wq at HRQ HNQ2 HBQ HSQ sq0 ⊢
        go_wp2_with (at_builtin; refine wpList_append_own _ rfl _ _ 22 rfl s3 29 i0 (.agg #[.string ByteArray.empty, .int .u64 0, .string ByteArray.empty, .bool false]) 4 48 Try.underlying22 hi hz0 hz1 hz2 rfl (by decide) _ _ _ rfl HRQ.out ⟨qb, qo, none⟩ nQ qc (flC q) rfl HFQ.out HNQ2.out (flC_one _) (by unfold maxLen; omega) (by omega) HSQ.out ?_; intro v2 w5 hown2 hg2 _; obtain ⟨na2, nc2, rfl⟩ := row_form4 hown2; have HR5 : Hid (w5.ownsRow s3 29 4 (.slice na2 (t + 1 + nQ) nc2) ((P.take (i + 1)).flatten).length (flC (P.take (i + 1)).flatten)) := (by rw [HTF.out, List.length_append, HNA.out, HNQ.out, flC_app]; exact hown2); have HB5 : Hid (Below w3.heap.size w3 w5) := HBQ.out.grown hg2 HBQ.out.size (fun k e => by have := (World.ownsRow.lt HRQ.out k e).1; have := HS3.out; omega); clear hown2 hg2)
        go_roundw
        case rel => exact ⟨i + 1, by omega, by go_num, HR5.out, HB5.out⟩
        case measure => simp [intOf]; omega
    · obtain rfl : i = nP := by omega
      have HFU : Hid ((P.take i).flatten = l) := by rw [Hid, List.take_of_length_le (by rw [HNP.out]; omega)]; exact HFL.out
      have HNM : Hid (na = m) := by rw [Hid, ← HNA.out, HFU.out]; exact HL.out
      obtain rfl : na = m := HNM.out
      have CE : Hid (∀ V, Below wr.heap.size wr V → Calls Try.prog 8 #[.slice va na vc, .slice a na cp] V fun r w' => r = .returned (.bool true) ∧ Below V.heap.size V w') := fun V k => by
        have hr : wr.ownsRow s3 29 4 (.slice va na vc) l.length (flC l) := by
          have := HRW.out
          rw [HFU.out] at this
          rw [HL.out]
          exact this
        obtain ⟨a', c', e, _, hc⟩ := ca_row hr
        rw [HL.out] at e
        cases e
        exact CS.out V va a vc cp l na ((hc.below (fun b hb => k.block b hb)).up k.size) (HCA.out V (HBW.out.trans (k.mono HBW.out.size))) HL.out (by omega)
      clear HRW HB B3 HNM
      go_wp2_with (first
        | (go_at_call 8; refine Calls.mono (CE.out w5 K5.out) ?_; rintro e w6 ⟨rfl, b⟩; have B6 : Hid (Below w.heap.size w w6) := B5.out.trans (b.mono B5.out.size); clear b)
        | (go_at_call 9; refine Calls.mono (C9.out wr HBW.out) ?_; rintro e w5 ⟨rfl, b⟩; have K5 : Hid (Below wr.heap.size wr w5) := b; have B5 : Hid (Below w.heap.size w w5) := HBW.out.trans (b.mono HBW.out.size); clear b))
      go_ret
      exact ⟨rfl, B6.out⟩
theorem mcuts_any (a : Option Addr) (m cp : Nat) (most : Int) (l : List Cl) (w : World) (hca : CA w.heap.size w a l) (hl : l.length = m) (hm : m ≤ cp) (hmx : m ≤ 1048576) (hm2 : most ≤ 9223372036854775807) (hw : wN l < 4000000000000000000) :
    Calls Try.prog 3 #[.slice a m cp, .int .i64 most] w fun r w' => r = .returned (.bool true) ∧ Below w.heap.size w w' := by
  by_cases h : sortedC l = false ∨ most < 1
  · exact mcuts_none a m cp most l w hca hl hm hmx h
  · have h1 : sortedC l = true := by
      cases e : sortedC l with
      | true => rfl
      | false => exact absurd (Or.inl e) h
    exact mcuts_some a m cp most l w hca hl hm hmx h1 (by by_cases k : most < 1; exact absurd (Or.inr k) h; omega) hm2 hw
theorem i64_le {x : Int} (h : (Lit.int .i64 x).wf = true) : x ≤ 9223372036854775807 := by
  simp [Lit.wf, IntKind.min, IntKind.max, IntKind.signed, IntKind.bits] at h
  omega
end Go.Proofs.Ytohamjoiohfoiab
