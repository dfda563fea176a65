/-
  MergeKinds' walk.
-/
import Derived.Test.YtohamjoiohfoiaaCalls
import Derived.Test.YtohamjoiohfoiaaMUns
namespace Go.Proofs.Ytohamjoiohfoiaa
open Go.RowKit
set_option maxRecDepth 100000 in
set_option maxHeartbeats 8000000 in
theorem mkinds_sorted (a b c : Option Addr) (na nb nc ca cb cc : Nat) (la lb lc : List Cl) (w : World) (ha : CA w.heap.size w a la) (hb : CA w.heap.size w b lb) (hc : CA w.heap.size w c lc) (hna : la.length = na) (hnb : lb.length = nb) (hnc : lc.length = nc) (hca : na ≤ ca) (hcb : nb ≤ cb) (hcc : nc ≤ cc) (h1 : na ≤ 1048576) (h2 : nb ≤ 1048576) (h3 : nc ≤ 1048576) (sa : sortedC la = true) (sb : sortedC lb = true) (sc : sortedC lc = true) :
    Calls Try.prog 5 #[.slice a na ca, .slice b nb cb, .slice c nc cc] w fun r w' => r = .returned (.bool true) ∧ Below w.heap.size w w' := by
  obtain ⟨T, hT⟩ : ∃ T, mP [la, lb, lc] = T := ⟨_, rfl⟩
  obtain ⟨X, hX⟩ : ∃ X, mP [la, lb] = X := ⟨_, rfl⟩
  obtain ⟨Z, hZ⟩ : ∃ Z, mP [lb, lc] = Z := ⟨_, rfl⟩
  have hXc : mP [X, lc] = T := by rw [← hX, ← hT]; exact kinds_left sa sb sc
  have haZ : mP [la, Z] = T := by rw [← hZ, ← hT]; exact kinds_right sa sb sc
  have hsT : sortedC T = true := by rw [← hT]; exact mP_sorted _
  have hTT : mP [T, T] = T := kinds_twice hsT
  obtain ⟨nT, hnT⟩ : ∃ nT, T.length = nT := ⟨_, rfl⟩
  obtain ⟨nX, hnX⟩ : ∃ nX, X.length = nX := ⟨_, rfl⟩
  obtain ⟨nZ, hnZ⟩ : ∃ nZ, Z.length = nZ := ⟨_, rfl⟩
  have bT : nT ≤ 3145728 := by have := mP_len [la, lb, lc]; rw [hT, hnT] at this; simp at this; omega
  have bX : nX ≤ 2097152 := by have := mP_len [la, lb]; rw [hX, hnX] at this; simp at this; omega
  have bZ : nZ ≤ 2097152 := by have := mP_len [lb, lc]; rw [hZ, hnZ] at this; simp at this; omega
  have HU : Hid (∀ (L : List Cl) (A B : World) x, CA A.heap.size A x L → Below A.heap.size A B → CA B.heap.size B x L) := fun L A B x h k => (h.below (fun b hb => k.block b hb)).up k.size
  have HTR : Hid (∀ V W : World, Below w.heap.size w V → Below V.heap.size V W → Below w.heap.size w W) := fun V W k k' => k.trans (k'.mono k.size)
  have HA : Hid (∀ V, Below w.heap.size w V → CA V.heap.size V a la) := fun V k => HU.out la w V a ha k
  have HB : Hid (∀ V, Below w.heap.size w V → CA V.heap.size V b lb) := fun V k => HU.out lb w V b hb k
  have HC : Hid (∀ V, Below w.heap.size w V → CA V.heap.size V c lc) := fun V k => HU.out lc w V c hc k
  have C9 : Hid (Calls Try.prog 9 #[] w fun r w' => r = .returned (.bool true) ∧ Below w.heap.size w w') := awake_any w
  have C3 : Hid (∀ V, Below w.heap.size w V → Calls Try.prog 15 #[.slice (some ⟨V.heap.size, 0, none⟩) 3 3] (V.alloc (.cells #[.slice a na ca, .slice b nb cb, .slice c nc cc] 25)) (Told V T)) := fun V k => by rw [← hT]; exact merge3_told V a b c la lb lc na nb nc ca cb cc (HA.out V k) (HB.out V k) (HC.out V k) hna hnb hnc hca hcb hcc (by omega) (by omega) (by omega)
  have Sa : Hid (∀ V, Below w.heap.size w V → Calls Try.prog 13 #[.slice a na ca] V fun r w' => r = .returned (.bool true) ∧ Below V.heap.size V w') := fun V k => by have := rsorted_any V.heap.size na ca a la V (HA.out V k) hna (Nat.le_refl _) (by omega); rw [sa] at this; exact this
  have Sb : Hid (∀ V, Below w.heap.size w V → Calls Try.prog 13 #[.slice b nb cb] V fun r w' => r = .returned (.bool true) ∧ Below V.heap.size V w') := fun V k => by have := rsorted_any V.heap.size nb cb b lb V (HB.out V k) hnb (Nat.le_refl _) (by omega); rw [sb] at this; exact this
  have Sc : Hid (∀ V, Below w.heap.size w V → Calls Try.prog 13 #[.slice c nc cc] V fun r w' => r = .returned (.bool true) ∧ Below V.heap.size V w') := fun V k => by have := rsorted_any V.heap.size nc cc c lc V (HC.out V k) hnc (Nat.le_refl _) (by omega); rw [sc] at this; exact this
  have Cab : Hid (∀ V, Below w.heap.size w V → Calls Try.prog 15 #[.slice (some ⟨V.heap.size, 0, none⟩) 2 2] (V.alloc (.cells #[.slice a na ca, .slice b nb cb] 25)) (Told V X)) := fun V k => by rw [← hX]; exact merge2_told V a b la lb na nb ca cb (HA.out V k) (HB.out V k) hna hnb hca hcb (by omega) (by omega)
  have CXc : Hid (∀ V x cx, Below w.heap.size w V → CA V.heap.size V x X → nX ≤ cx → Calls Try.prog 15 #[.slice (some ⟨V.heap.size, 0, none⟩) 2 2] (V.alloc (.cells #[.slice x nX cx, .slice c nc cc] 25)) (Told V T)) := fun V x cx k hx hcx => by rw [← hXc]; exact merge2_told V x c X lc nX nc cx cc hx (HC.out V k) hnX hnc hcx hcc (by omega) (by omega)
  have Cbc : Hid (∀ V, Below w.heap.size w V → Calls Try.prog 15 #[.slice (some ⟨V.heap.size, 0, none⟩) 2 2] (V.alloc (.cells #[.slice b nb cb, .slice c nc cc] 25)) (Told V Z)) := fun V k => by rw [← hZ]; exact merge2_told V b c lb lc nb nc cb cc (HB.out V k) (HC.out V k) hnb hnc hcb hcc (by omega) (by omega)
  have CaZ : Hid (∀ V z cz, Below w.heap.size w V → CA V.heap.size V z Z → nZ ≤ cz → Calls Try.prog 15 #[.slice (some ⟨V.heap.size, 0, none⟩) 2 2] (V.alloc (.cells #[.slice a na ca, .slice z nZ cz] 25)) (Told V T)) := fun V z cz k hz hcz => by rw [← haZ]; exact merge2_told V a z la Z na nZ ca cz (HA.out V k) hz hna hnZ hca hcz (by omega) (by omega)
  have CTT : Hid (∀ V t ct, CA V.heap.size V t T → nT ≤ ct → Calls Try.prog 15 #[.slice (some ⟨V.heap.size, 0, none⟩) 2 2] (V.alloc (.cells #[.slice t nT ct, .slice t nT ct] 25)) (Told V T)) := fun V t ct ht hct => by have := merge2_told V t t T T nT nT ct ct ht ht hnT hnT hct hct (by omega) (by omega); rw [hTT] at this; exact this
  have CS : Hid (∀ V x cx t ct, CA V.heap.size V x T → CA V.heap.size V t T → Calls Try.prog 16 #[.slice x nT cx, .slice t nT ct] V fun r w' => r = .returned (.bool true) ∧ Below V.heap.size V w') := fun V x cx t ct hx ht => same_ca V x t cx ct nT T hx ht hnT (by omega)
  have C12 : Hid (∀ V t ct, CA V.heap.size V t T → Calls Try.prog 12 #[.slice t nT ct] V fun r w' => r = .returned (.bool true) ∧ Below V.heap.size V w') := fun V t ct ht => by have := sorted_any V.heap.size nT ct t T V ht hnT (Nat.le_refl _) (by omega); rw [hsT] at this; exact this
  have TT : Hid (∀ V r w', Told V T r w' → ∃ ra rc, r = .returned (.slice ra nT rc) ∧ nT ≤ rc ∧ CA w'.heap.size w' ra T ∧ Below V.heap.size V w') := fun V r w' h => by rw [← hnT]; exact h
  have TX : Hid (∀ V r w', Told V X r w' → ∃ ra rc, r = .returned (.slice ra nX rc) ∧ nX ≤ rc ∧ CA w'.heap.size w' ra X ∧ Below V.heap.size V w') := fun V r w' h => by rw [← hnX]; exact h
  have TZ : Hid (∀ V r w', Told V Z r w' → ∃ ra rc, r = .returned (.slice ra nZ rc) ∧ nZ ≤ rc ∧ CA w'.heap.size w' ra Z ∧ Below V.heap.size V w') := fun V r w' h => by rw [← hnZ]; exact h
  clear ha hb hc hT hX hZ hXc haZ hsT hTT hnT hnX hnZ hna hnb hnc hca hcb hcc sa sb sc h1 h2 h3 bT bX bZ
  go_enter Try.func5, Try.ntmps5
  go_wp2_with (first
    | (go_at_call 12; refine Calls.mono (C12.out w13 ta tc T13.out) ?_; rintro e w14 ⟨rfl, b⟩; have B14 : Hid (Below w.heap.size w w14) := HTR.out w13 w14 B13.out b; clear b)
    | (go_at_call 16; refine Calls.mono (CS.out w12 va vc ta tc L12.out T12.out) ?_; rintro e w13 ⟨rfl, b⟩; have B13 : Hid (Below w.heap.size w w13) := HTR.out w12 w13 B12.out b; have T13 : Hid (CA w13.heap.size w13 ta T) := HU.out T w12 w13 ta T12.out b; clear b)
    | (go_at_call 15; refine Calls.mono (CTT.out w11 ta tc T11.out GT.out) ?_; intro e w12 ht; obtain ⟨va, vc, he, hle, hca, b⟩ := TT.out w11 e w12 ht; clear ht; subst he; have G12 : Hid _ := hle; have L12 : Hid _ := hca; have B12 : Hid (Below w.heap.size w w12) := HTR.out w11 w12 B11.out b; have T12 : Hid (CA w12.heap.size w12 ta T) := HU.out T w11 w12 ta T11.out b; clear b hle hca)
    | (go_at_call 16; refine Calls.mono (CS.out w10 ua uc ta tc L10.out T10.out) ?_; rintro e w11 ⟨rfl, b⟩; have B11 : Hid (Below w.heap.size w w11) := HTR.out w10 w11 B10.out b; have T11 : Hid (CA w11.heap.size w11 ta T) := HU.out T w10 w11 ta T10.out b; clear b)
    | (go_at_call 15; refine Calls.mono (CaZ.out w9 za zc B9.out L9.out G9.out) ?_; intro e w10 ht; obtain ⟨ua, uc, he, hle, hca, b⟩ := TT.out w9 e w10 ht; clear ht; subst he; have G10 : Hid _ := hle; have L10 : Hid _ := hca; have B10 : Hid (Below w.heap.size w w10) := HTR.out w9 w10 B9.out b; have T10 : Hid (CA w10.heap.size w10 ta T) := HU.out T w9 w10 ta T9.out b; clear b hle hca)
    | (go_at_call 15; refine Calls.mono (Cbc.out w8 B8.out) ?_; intro e w9 ht; obtain ⟨za, zc, he, hle, hca, b⟩ := TZ.out w8 e w9 ht; clear ht; subst he; have G9 : Hid _ := hle; have L9 : Hid _ := hca; have B9 : Hid (Below w.heap.size w w9) := HTR.out w8 w9 B8.out b; have T9 : Hid (CA w9.heap.size w9 ta T) := HU.out T w8 w9 ta T8.out b; clear b hle hca)
    | (go_at_call 16; refine Calls.mono (CS.out w7 ya yc ta tc L7.out T7.out) ?_; rintro e w8 ⟨rfl, b⟩; have B8 : Hid (Below w.heap.size w w8) := HTR.out w7 w8 B7.out b; have T8 : Hid (CA w8.heap.size w8 ta T) := HU.out T w7 w8 ta T7.out b; clear b)
    | (go_at_call 15; refine Calls.mono (CXc.out w6 xa xc B6.out L6.out G6.out) ?_; intro e w7 ht; obtain ⟨ya, yc, he, hle, hca, b⟩ := TT.out w6 e w7 ht; clear ht; subst he; have G7 : Hid _ := hle; have L7 : Hid _ := hca; have B7 : Hid (Below w.heap.size w w7) := HTR.out w6 w7 B6.out b; have T7 : Hid (CA w7.heap.size w7 ta T) := HU.out T w6 w7 ta T6.out b; clear b hle hca)
    | (go_at_call 15; refine Calls.mono (Cab.out w5 B5.out) ?_; intro e w6 ht; obtain ⟨xa, xc, he, hle, hca, b⟩ := TX.out w5 e w6 ht; clear ht; subst he; have G6 : Hid _ := hle; have L6 : Hid _ := hca; have B6 : Hid (Below w.heap.size w w6) := HTR.out w5 w6 B5.out b; have T6 : Hid (CA w6.heap.size w6 ta T) := HU.out T w5 w6 ta T5.out b; clear b hle hca)
    | (go_at_call 13; refine Calls.mono (Sc.out w4 B4.out) ?_; rintro e w5 ⟨rfl, b⟩; have B5 : Hid (Below w.heap.size w w5) := HTR.out w4 w5 B4.out b; have T5 : Hid (CA w5.heap.size w5 ta T) := HU.out T w4 w5 ta T4.out b; clear b)
    | (go_at_call 13; refine Calls.mono (Sb.out w3 B3.out) ?_; rintro e w4 ⟨rfl, b⟩; have B4 : Hid (Below w.heap.size w w4) := HTR.out w3 w4 B3.out b; have T4 : Hid (CA w4.heap.size w4 ta T) := HU.out T w3 w4 ta T3.out b; clear b)
    | (go_at_call 13; refine Calls.mono (Sa.out w2 B2.out) ?_; rintro e w3 ⟨rfl, b⟩; have B3 : Hid (Below w.heap.size w w3) := HTR.out w2 w3 B2.out b; have T3 : Hid (CA w3.heap.size w3 ta T) := HU.out T w2 w3 ta T2.out b; clear b)
    | (go_at_call 15; refine Calls.mono (C3.out w1 B1.out) ?_; intro e w2 ht; obtain ⟨ta, tc, he, hle, hca, b⟩ := TT.out w1 e w2 ht; clear ht; subst he; have G2 : Hid _ := hle; have L2 : Hid _ := hca; have B2 : Hid (Below w.heap.size w w2) := HTR.out w1 w2 B1.out b; have T2 : Hid (CA w2.heap.size w2 ta T) := hca; have GT : Hid (nT ≤ tc) := hle; clear b hle hca)
    | (go_at_call 9; refine Calls.mono C9.out ?_; rintro e w1 ⟨rfl, b⟩; have B1 : Hid (Below w.heap.size w w1) := b; clear b C9))
  go_ret
  exact ⟨rfl, B14.out⟩
theorem mP_bad {L : List (List Cl)} (h : L.all sortedC = false) : mP L = [] := by rw [mP, h]; rfl
set_option maxRecDepth 100000 in
set_option maxHeartbeats 8000000 in
theorem mkinds_unsorted (a b c : Option Addr) (na nb nc ca cb cc : Nat) (la lb lc : List Cl) (w : World) (ha : CA w.heap.size w a la) (hb : CA w.heap.size w b lb) (hc : CA w.heap.size w c lc) (hna : la.length = na) (hnb : lb.length = nb) (hnc : lc.length = nc) (hca : na ≤ ca) (hcb : nb ≤ cb) (hcc : nc ≤ cc) (h1 : na ≤ 1048576) (h2 : nb ≤ 1048576) (h3 : nc ≤ 1048576) (hs : [la, lb, lc].all sortedC = false) :
    Calls Try.prog 5 #[.slice a na ca, .slice b nb cb, .slice c nc cc] w fun r w' => r = .returned (.bool true) ∧ Below w.heap.size w w' := by
  have HU : Hid (∀ (L : List Cl) (A B : World) x, CA A.heap.size A x L → Below A.heap.size A B → CA B.heap.size B x L) := fun L A B x h k => (h.below (fun b hb => k.block b hb)).up k.size
  have HTR : Hid (∀ V W : World, Below w.heap.size w V → Below V.heap.size V W → Below w.heap.size w W) := fun V W k k' => k.trans (k'.mono k.size)
  have HA : Hid (∀ V, Below w.heap.size w V → CA V.heap.size V a la) := fun V k => HU.out la w V a ha k
  have HB : Hid (∀ V, Below w.heap.size w V → CA V.heap.size V b lb) := fun V k => HU.out lb w V b hb k
  have HC : Hid (∀ V, Below w.heap.size w V → CA V.heap.size V c lc) := fun V k => HU.out lc w V c hc k
  have C9 : Hid (Calls Try.prog 9 #[] w fun r w' => r = .returned (.bool true) ∧ Below w.heap.size w w') := awake_any w
  have C3 : Hid (∀ V, Below w.heap.size w V → Calls Try.prog 15 #[.slice (some ⟨V.heap.size, 0, none⟩) 3 3] (V.alloc (.cells #[.slice a na ca, .slice b nb cb, .slice c nc cc] 25)) fun r w' => (∃ ra rc, r = .returned (.slice ra 0 rc)) ∧ Below V.heap.size V w') := fun V k => by
    have := merge3_told V a b c la lb lc na nb nc ca cb cc (HA.out V k) (HB.out V k) (HC.out V k) hna hnb hnc hca hcb hcc (by omega) (by omega) (by omega)
    rw [mP_bad hs] at this
    exact Calls.mono this (by rintro r w' ⟨ra, rc, rfl, _, _, b⟩; exact ⟨⟨ra, rc, rfl⟩, b⟩)
  obtain ⟨r1, e1⟩ : ∃ r, sortedC la = r := ⟨_, rfl⟩
  obtain ⟨r2, e2⟩ : ∃ r, sortedC lb = r := ⟨_, rfl⟩
  obtain ⟨r3, e3⟩ : ∃ r, sortedC lc = r := ⟨_, rfl⟩
  have Sa : Hid (∀ V, Below w.heap.size w V → Calls Try.prog 13 #[.slice a na ca] V fun r w' => r = .returned (.bool r1) ∧ Below V.heap.size V w') := fun V k => by have := rsorted_any V.heap.size na ca a la V (HA.out V k) hna (Nat.le_refl _) (by omega); rw [e1] at this; exact this
  have Sb : Hid (∀ V, Below w.heap.size w V → Calls Try.prog 13 #[.slice b nb cb] V fun r w' => r = .returned (.bool r2) ∧ Below V.heap.size V w') := fun V k => by have := rsorted_any V.heap.size nb cb b lb V (HB.out V k) hnb (Nat.le_refl _) (by omega); rw [e2] at this; exact this
  have Sc : Hid (∀ V, Below w.heap.size w V → Calls Try.prog 13 #[.slice c nc cc] V fun r w' => r = .returned (.bool r3) ∧ Below V.heap.size V w') := fun V k => by have := rsorted_any V.heap.size nc cc c lc V (HC.out V k) hnc (Nat.le_refl _) (by omega); rw [e3] at this; exact this
  have hr : (r1 && (r2 && (r3 && true))) = false := by rw [← e1, ← e2, ← e3]; exact hs
  clear ha hb hc hna hnb hnc hca hcb hcc h1 h2 h3 hs e1 e2 e3 HA HB HC HU
  cases r1 <;> cases r2 <;> cases r3 <;> simp only [Bool.and_true, Bool.and_self, Bool.true_eq_false] at hr
  all_goals
    go_enter Try.func5, Try.ntmps5
    go_wp2_with (first
      | (go_at_call 13; refine Calls.mono (Sc.out w4 B4.out) ?_; rintro e w5 ⟨rfl, b⟩; have B5 : Hid (Below w.heap.size w w5) := HTR.out w4 w5 B4.out b; clear b)
      | (go_at_call 13; refine Calls.mono (Sb.out w3 B3.out) ?_; rintro e w4 ⟨rfl, b⟩; have B4 : Hid (Below w.heap.size w w4) := HTR.out w3 w4 B3.out b; clear b)
      | (go_at_call 13; refine Calls.mono (Sa.out w2 B2.out) ?_; rintro e w3 ⟨rfl, b⟩; have B3 : Hid (Below w.heap.size w w3) := HTR.out w2 w3 B2.out b; clear b)
      | (go_at_call 15; refine Calls.mono (C3.out w1 B1.out) ?_; rintro e w2 ⟨⟨ta, tc, rfl⟩, b⟩; have B2 : Hid (Below w.heap.size w w2) := HTR.out w1 w2 B1.out b; clear b)
      | (go_at_call 9; refine Calls.mono C9.out ?_; rintro e w1 ⟨rfl, b⟩; have B1 : Hid (Below w.heap.size w w1) := b; clear b C9))
    go_ret
    first
    | exact ⟨rfl, B5.out⟩
    | exact ⟨rfl, B4.out⟩
    | exact ⟨rfl, B3.out⟩
theorem mkinds_any (a b c : Option Addr) (na nb nc ca cb cc : Nat) (la lb lc : List Cl) (w : World) (ha : CA w.heap.size w a la) (hb : CA w.heap.size w b lb) (hc : CA w.heap.size w c lc) (hna : la.length = na) (hnb : lb.length = nb) (hnc : lc.length = nc) (hca : na ≤ ca) (hcb : nb ≤ cb) (hcc : nc ≤ cc) (h1 : na ≤ 1048576) (h2 : nb ≤ 1048576) (h3 : nc ≤ 1048576) :
    Calls Try.prog 5 #[.slice a na ca, .slice b nb cb, .slice c nc cc] w fun r w' => r = .returned (.bool true) ∧ Below w.heap.size w w' := by
  cases hs : [la, lb, lc].all sortedC with
  | false => exact mkinds_unsorted a b c na nb nc ca cb cc la lb lc w ha hb hc hna hnb hnc hca hcb hcc h1 h2 h3 hs
  | true =>
    rw [List.all_eq_true] at hs
    exact mkinds_sorted a b c na nb nc ca cb cc la lb lc w ha hb hc hna hnb hnc hca hcb hcc h1 h2 h3 (hs la (by simp)) (hs lb (by simp)) (hs lc (by simp))
end Go.Proofs.Ytohamjoiohfoiaa
