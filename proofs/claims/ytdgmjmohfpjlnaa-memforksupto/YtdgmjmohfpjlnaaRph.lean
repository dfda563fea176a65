/-
  What the twin's Put leaves.
-/
import Derived.Test.YtdgmjmohfpjlnaaRap
import Derived.Deep.RegionHeld
namespace Go.Proofs.Ytdgmjmohfpjlnaa
open Go.RowKit Go.Shelf
def putQ (c : Cl) (hgt : Int) (L : List Cl) : Nat := if chkR c ≠ 0 then 60 else if hgt < 1 ∨ 12 < hgt then 1 else if hasC c L = true then 61 else 0
def insC (c : Cl) (L : List Cl) : List Cl := L.takeWhile (fun d => lessC d c) ++ c :: L.dropWhile (fun d => lessC d c)
def insH (c : Cl) (h : Nat) (L : List Cl) (H : List Nat) : List Nat := H.take (L.takeWhile (fun d => lessC d c)).length ++ h :: H.drop (L.takeWhile (fun d => lessC d c)).length
theorem row_base {W : World} {B B' e z n : Nat} {v : Value} {xs : List Value} (h : W.ownsRow B' e z v n xs) (hB : B ≤ B') : W.ownsRow B e z v n xs := by
  refine ⟨h.1, ?_⟩
  rcases h.2 with q | ⟨g, cap, cur, hv, hg, hh, rr⟩
  · exact Or.inl q
  · exact Or.inr ⟨g, cap, cur, hv, Nat.le_trans hB hg, hh, rr⟩
/-- Two rows of different things: one grows, the other stays. -/
theorem row_stays {X w3 : World} {b b' e e' z z' n m : Nat} {v u : Value} {xs ys : List Value} (h : X.ownsRow b e z v n xs) (h' : X.ownsRow b' e' z' u m ys) (hne : e ≠ e') (hg : X.grownBy w3 u.ownBlock) : w3.ownsRow b e z v n xs := by
  refine owns_same h (fun g hgv => hg.block g (h.lt g hgv).2 (fun eq => ?_))
  rcases h.2 with ⟨ev, _⟩ | ⟨g1, cap, cur, ev, _, hh, _⟩
  · rw [ev] at hgv; cases hgv
  rcases h'.2 with ⟨eu, _⟩ | ⟨g2, cap2, cur2, eu, _, hh2, _⟩
  · rw [eu] at eq; cases eq
  rw [ev] at hgv
  rw [eu] at eq
  simp only [Value.ownBlock, Option.some.injEq] at hgv eq
  rw [← hgv] at eq
  rw [eq, hh2] at hh
  cases hh
  exact hne rfl
theorem tw_take {p : Cl → Bool} {L : List Cl} {k : Nat} (_ : k ≤ L.length) (h1 : ∀ d ∈ L.take k, p d = true) (h2 : ∀ d, L[k]? = some d → p d = false) : L.takeWhile p = L.take k ∧ L.dropWhile p = L.drop k := by
  have e : L = L.take k ++ L.drop k := (List.take_append_drop k L).symm
  have hd : (L.drop k).takeWhile p = [] ∧ (L.drop k).dropWhile p = L.drop k := by
    cases hD : L.drop k with
    | nil => exact ⟨rfl, rfl⟩
    | cons d R =>
      have hdk : L[k]? = some d := by
        have := congrArg (·[0]?) hD
        simpa [List.getElem?_drop] using this
      have hp := h2 d hdk
      exact ⟨List.takeWhile_cons_of_neg (by rw [hp]; decide), List.dropWhile_cons_of_neg (by rw [hp]; decide)⟩
  constructor
  · conv => lhs; rw [e]
    rw [List.takeWhile_append_of_pos h1, hd.1, List.append_nil]
  · conv => lhs; rw [e]
    rw [List.dropWhile_append_of_pos h1, hd.2]
theorem flC_at : ∀ {l : List Cl} {j : Nat} {u : Value}, (flC l)[j]? = some u → ∃ c, l[j / 4]? = some c ∧ (clL c)[j % 4]? = some u
  | [], j, u, h => by simp [flC] at h
  | d :: l, j, u, h => by
    rw [flC_cons] at h
    by_cases hj : j < 4
    · rw [List.getElem?_append_left (by simp [clL]; omega)] at h
      have e1 : j / 4 = 0 := by omega
      have e2 : j % 4 = j := by omega
      rw [e1, e2]
      exact ⟨d, rfl, h⟩
    · rw [List.getElem?_append_right (by simp [clL]; omega)] at h
      have e0 : (clL d).length = 4 := rfl
      rw [e0] at h
      obtain ⟨c, h1, h2⟩ := flC_at h
      have e1 : j / 4 = (j - 4) / 4 + 1 := by omega
      have e2 : j % 4 = (j - 4) % 4 := by omega
      rw [e1, e2, List.getElem?_cons_succ]
      exact ⟨c, h1, h2⟩
theorem ca_at {B : Nat} {w : World} {b off : Nat} {L : List Cl} (h : CA B w (some ⟨b, off, none⟩) L) {i : Nat} {c : Cl} (hi : L[i]? = some c) {q : Nat} {u : Value} (hq : (clL c)[q]? = some u) : w.cell? ⟨b, off + i * 4 + q, none⟩ = some u := by
  obtain ⟨b', off', e, _, h0, h1, h2, h3⟩ := h i c hi
  cases e
  have hq4 : q < 4 := (List.getElem?_eq_some_iff.1 hq).1
  rcases (by omega : q = 0 ∨ q = 1 ∨ q = 2 ∨ q = 3) with rfl | rfl | rfl | rfl <;> simp [clL] at hq <;> subst hq
  · exact h0
  · exact h1
  · exact h2
  · exact h3
theorem news_cells {B : Nat} {w : World} {b off : Nat} {L : List Cl} (h : CA B w (some ⟨b, off, none⟩) L) (_ : Nat) (k : Nat) {j : Nat} {u : Value} (hj : (flC (L.take k))[j]? = some u) : w.cell? ((⟨b, off, none⟩ : Addr).add j) = some u := by
  obtain ⟨c, h1, h2⟩ := flC_at hj
  have hk : j / 4 < k := by
    have := (List.getElem?_eq_some_iff.1 h1).1
    rw [List.length_take] at this
    omega
  rw [List.getElem?_take_of_lt hk] at h1
  rw [addr_addC]
  have := ca_at h h1 h2
  rw [show off + j / 4 * 4 + j % 4 = off + j by omega] at this
  exact this
theorem news_cells_drop {B : Nat} {w : World} {b off : Nat} {L : List Cl} (h : CA B w (some ⟨b, off, none⟩) L) (k : Nat) {j : Nat} {u : Value} (hj : (flC (L.drop k))[j]? = some u) : w.cell? ((⟨b, off + k * 4, none⟩ : Addr).add j) = some u := by
  obtain ⟨c, h1, h2⟩ := flC_at hj
  rw [List.getElem?_drop] at h1
  rw [addr_addC]
  have := ca_at h h1 h2
  rw [show off + (k + j / 4) * 4 + j % 4 = off + k * 4 + j by omega] at this
  exact this
theorem news_ints {w : World} {b off : Nat} {H : List Nat} (h : IA w (some ⟨b, off, none⟩) H) (_ : Nat) (k : Nat) {j : Nat} {u : Value} (hj : (intsV (H.take k))[j]? = some u) : w.cell? ((⟨b, off, none⟩ : Addr).add j) = some u := by
  unfold intsV at hj
  rw [List.getElem?_map] at hj
  obtain ⟨v, hv, rfl⟩ := Option.map_eq_some_iff.1 hj
  have hk : j < k := by
    have := (List.getElem?_eq_some_iff.1 hv).1
    rw [List.length_take] at this
    omega
  rw [List.getElem?_take_of_lt hk] at hv
  obtain ⟨b', off', e, c⟩ := h j v hv
  cases e
  rw [addr_addC]
  exact c
theorem news_ints_drop {w : World} {b off : Nat} {H : List Nat} (h : IA w (some ⟨b, off, none⟩) H) (k : Nat) {j : Nat} {u : Value} (hj : (intsV (H.drop k))[j]? = some u) : w.cell? ((⟨b, off + k, none⟩ : Addr).add j) = some u := by
  unfold intsV at hj
  rw [List.getElem?_map] at hj
  obtain ⟨v, hv, rfl⟩ := Option.map_eq_some_iff.1 hj
  rw [List.getElem?_drop] at hv
  obtain ⟨b', off', e, c⟩ := h _ v hv
  cases e
  rw [addr_addC, Nat.add_assoc]
  exact c
theorem news_cells_any {B : Nat} {w : World} {ca : Option Addr} {ad : Addr} {L : List Cl} (h : CA B w ca L) (e : ca = some ad) (k : Nat) {j : Nat} {u : Value} (hj : (flC (L.take k))[j]? = some u) : w.cell? (ad.add j) = some u := by
  obtain ⟨c, h1, h2⟩ := flC_at hj
  have hk : j / 4 < k := by
    have := (List.getElem?_eq_some_iff.1 h1).1
    rw [List.length_take] at this
    omega
  rw [List.getElem?_take_of_lt hk] at h1
  obtain ⟨b, off, e2, _⟩ := h _ c h1
  rw [e2] at e h
  cases e
  exact news_cells h 0 k hj
theorem news_ints_any {w : World} {ha : Option Addr} {ad : Addr} {H : List Nat} (h : IA w ha H) (e : ha = some ad) (k : Nat) {j : Nat} {u : Value} (hj : (intsV (H.take k))[j]? = some u) : w.cell? (ad.add j) = some u := by
  have hj2 := hj
  unfold intsV at hj2
  rw [List.getElem?_map] at hj2
  obtain ⟨v, hv, _⟩ := Option.map_eq_some_iff.1 hj2
  have hk : j < k := by
    have := (List.getElem?_eq_some_iff.1 hv).1
    rw [List.length_take] at this
    omega
  rw [List.getElem?_take_of_lt hk] at hv
  obtain ⟨b, off, e2, _⟩ := h j v hv
  rw [e2] at e h
  cases e
  exact news_ints h 0 k hj
theorem nil_row {W : World} {b e z n cap : Nat} {xs : List Value} (h : W.ownsRow b e z (.slice none n cap) n xs) : n = 0 ∧ cap = 0 := by
  rcases h.2 with ⟨ev, h0⟩ | ⟨g, cp, cur, ev, _⟩
  · simp only [Value.slice.injEq] at ev
    exact ⟨h0, ev.2.2⟩
  · simp only [Value.slice.injEq] at ev
    cases ev.1
theorem row_tail {W : World} {B e z n : Nat} {v : Value} {xs ys : List Value} (h : W.ownsRow B e z v (n + 0) (xs ++ [])) (hy : ys = []) : W.ownsRow B e z v n (xs ++ ys) := by
  subst hy
  exact h
theorem none_if {p : Prop} [Decidable p] {ca : Option Addr} {f : Addr → Addr} (e : (if p then ca else Option.map f ca) = none) : ca = none := by
  cases ca with
  | none => rfl
  | some a => split at e <;> cases e
/-- What the twin's Put leaves. -/
def RPost (s0 : Nat) (w : World) (r : Nat) (L : List Cl) (H : List Nat) (c : Cl) (hgt : Int) (e : Ending) (w' : World) : Prop :=
  e = .returned (.int .i64 ((putQ c hgt L : Nat) : Int)) ∧ KM r r w w' ∧ ∃ ca' cc' ha' hc', RA s0 w' r (if putQ c hgt L = 0 then insC c L else L) (if putQ c hgt L = 0 then insH c hgt.toNat L H else H) ca' cc' ha' hc'
theorem put_mid {s0 r n cc hc n2 n4 n5 : Nat} {L : List Cl} {H : List Nat} {CA HA : Option Addr} {W9 w4 w5 : World} {v2 v4 v5 : Value} {xs ys zs : List Value} (hR9 : RA s0 W9 r L H CA cc HA hc) (hnl : L.length = n) (h2 : w4.ownsRow W9.heap.size 33 4 v2 n2 xs) (h4 : w4.ownsRow W9.heap.size 3 1 v4 n4 ys) (hb : Below W9.heap.size W9 w4)
    (q1 : w5.ownsRow W9.heap.size 33 4 v5 n5 zs) (q2 : w4.grownBy w5 v2.ownBlock) :
    w5.frozen? ⟨r, 0, none⟩ = false ∧ (∃ u, w5.cell? ⟨r, 0, none⟩ = some u) ∧ (w5.setCell ⟨r, 0, none⟩ v5).heap[r]? = some (.cells #[v5, .slice HA n hc] 30 (0, 0)) ∧ (w5.setCell ⟨r, 0, none⟩ v5).ownsRow W9.heap.size 33 4 v5 n5 zs ∧ (w5.setCell ⟨r, 0, none⟩ v5).ownsRow W9.heap.size 3 1 v4 n4 ys ∧ IA (w5.setCell ⟨r, 0, none⟩ v5) HA H ∧ KM r r W9 (w5.setCell ⟨r, 0, none⟩ v5) := by
  have hrW := hR9.lt
  have hbel : Below W9.heap.size W9 w5 := hb.grown q2 hb.size (fun j ej => (World.ownsRow.lt h2 j ej).1)
  have hr5 : RA s0 w5 r L H CA cc HA hc := hR9.below hbel
  have hr4 := hr5.blk
  rw [hnl] at hr4
  have hv4 : w5.ownsRow W9.heap.size 3 1 v4 n4 ys := row_stays h4 h2 (by decide) q2
  have far : ∀ q, q ≠ r → (w5.setCell ⟨r, 0, none⟩ v5).heap[q]? = w5.heap[q]? := fun q hq => Below.heap_setCell _ _ _ q hq
  refine ⟨free_of_block hr4 _, ⟨_, cell_of_block hr4 rfl⟩, set_block hr4 0 v5, owns_same q1 (fun g hg => far g (fun e => ?_)), owns_same hv4 (fun g hg => far g (fun e => ?_)), fun j u hj => ?_, (KM.set (g := r) (b := r) (a := ⟨r, 0, none⟩) (KM.of hbel) (.inl rfl) v5)⟩
  · have := (World.ownsRow.lt q1 g hg).1; omega
  · have := (World.ownsRow.lt hv4 g hg).1; omega
  · obtain ⟨b', o', e1, e2⟩ := hr5.ia.2 j u hj
    refine ⟨b', o', e1, cell_eq (far b' (fun e => ?_)) e2⟩
    rcases hr5.hts.2 with ⟨ev, h0⟩ | ⟨g1, cap, cur, ev, _, hh1, _⟩
    · have := (List.getElem?_eq_some_iff.1 hj).1; have := hr5.len; omega
    · rw [e1] at ev
      simp only [Value.slice.injEq, Option.some.injEq, Addr.mk.injEq] at ev
      rw [← ev.1.1, e, hr4] at hh1
      cases hh1
theorem put_end {s0 r n cc hc k : Nat} {L : List Cl} {H : List Nat} {CA HA : Option Addr} {c : Cl} {hgt : Int} {w W9 w5 w6 : World} {v4 v5 v6 : Value} {n4 : Nat} {ys : List Value} (hR9 : RA s0 W9 r L H CA cc HA hc) (hNn : L.length = n) (hk9 : k ≤ n) (hs : s0 ≤ W9.heap.size) (hbw : Below w.heap.size w W9) (hq0 : putQ c hgt L = 0) (hgt1 : 1 ≤ hgt)
    (hT1 : L.takeWhile (fun d => lessC d c) = L.take k) (hT2 : L.dropWhile (fun d => lessC d c) = L.drop k)
    (y1 : w5.heap[r]? = some (.cells #[v5, .slice HA n hc] 30 (0, 0))) (y2 : w5.ownsRow W9.heap.size 33 4 v5 (k + 1 + (n - k)) (flC (L.take k) ++ clL c ++ flC (L.drop k))) (y3 : w5.ownsRow W9.heap.size 3 1 v4 n4 ys) (y5 : KM r r W9 w5)
    (q1 : w6.ownsRow W9.heap.size 3 1 v6 (k + 1 + (n - k)) (intsV (H.take k) ++ [.int .i64 hgt] ++ intsV (H.drop k))) (q2 : w5.grownBy w6 v4.ownBlock) :
    w6.frozen? ⟨r, 1, none⟩ = false ∧ (∃ u, w6.cell? ⟨r, 1, none⟩ = some u) ∧ RPost s0 w r L H c hgt (.returned (.int .i64 0)) (w6.setCell ⟨r, 1, none⟩ v6) := by
  have hrW := hR9.lt
  have hne : ∀ q, q < W9.heap.size → some q ≠ v4.ownBlock := fun q hq e => by
    have := (World.ownsRow.lt y3 q e.symm).1
    omega
  have hr6 : w6.heap[r]? = some (.cells #[v5, .slice HA n hc] 30 (0, 0)) := (q2.block r (Array.getElem?_eq_some_iff.1 y1).1 (hne r hrW)).trans y1
  have hrow5 : w6.ownsRow W9.heap.size 33 4 v5 (k + 1 + (n - k)) (flC (L.take k) ++ clL c ++ flC (L.drop k)) := row_stays y2 y3 (by decide) q2
  have far : ∀ q, q ≠ r → (w6.setCell ⟨r, 1, none⟩ v6).heap[q]? = w6.heap[q]? := fun q hq => Below.heap_setCell _ _ _ q hq
  have hkm : KM r r W9 w6 := ⟨q2.os.trans y5.os, q2.tape.trans y5.tape, q2.output.trans y5.output, Nat.le_trans y5.size q2.size, fun q h1 h2 h3 => (q2.block q (Nat.lt_of_lt_of_le h1 y5.size) (hne q h1)).trans (y5.block q h1 h2 h3)⟩
  refine ⟨free_of_block hr6 _, ⟨_, cell_of_block hr6 rfl⟩, ?_⟩
  unfold RPost
  rw [hq0, if_pos rfl, if_pos rfl]
  have hlt2 : (L.take k).length = k := by rw [List.length_take]; omega
  have hln := hR9.len
  obtain ⟨a5, c5, e5⟩ := row_form4 hrow5
  obtain ⟨a6, c6, e6⟩ := row_form4 q1
  have hlen : (insC c L).length = k + 1 + (n - k) := by unfold insC; rw [hT1, hT2, List.length_append, List.length_cons, List.length_drop, hlt2]; omega
  have hblk := set_block hr6 1 v6
  have efl : flC (insC c L) = flC (L.take k) ++ clL c ++ flC (L.drop k) := by unfold insC; rw [hT1, hT2, flC_app, flC_cons, List.append_assoc]
  have ehi : intsV (insH c hgt.toNat L H) = intsV (H.take k) ++ [.int .i64 hgt] ++ intsV (H.drop k) := by
    unfold insH intsV
    rw [hT1, hlt2, List.map_append, List.map_cons, show ((hgt.toNat : Nat) : Int) = hgt by omega]
    simp
  refine ⟨rfl, (KM.of hbw).trans ?_, a5, c5, a6, c6, ?_, ?_, ?_, ?_⟩
  · have h := KM.set hkm (a := ⟨r, 1, none⟩) (.inl rfl) v6
    exact ⟨h.os, h.tape, h.output, h.size, h.block⟩
  · rw [hlen, ← e5, ← e6]; exact hblk
  · rw [hlen, ← e5, efl]
    exact owns_same (row_base hrow5 hs) (fun g hg => far g (fun e => by have := (World.ownsRow.lt hrow5 g hg).1; omega))
  · rw [hlen, ← e6, ehi]
    exact owns_same (row_base q1 hs) (fun g hg => far g (fun e => by have := (World.ownsRow.lt q1 g hg).1; omega))
  · rw [hlen]
    unfold insH
    rw [hT1, hlt2, List.length_append, List.length_cons, List.length_drop, List.length_take]
    omega
end Go.Proofs.Ytdgmjmohfpjlnaa
