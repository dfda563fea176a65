/-
  MergeThins' walk.
-/
import Derived.Test.YtohamjoiohfoiabThin
import Derived.Test.YtohamjoiohfoiabMUns
import Derived.Test.YtohamjoiohfoiabAwake
namespace Go.Proofs.Ytohamjoiohfoiab
open Go.RowKit
theorem box_at {w W : World} {x y : Array Value} {t u : TypeId} (h : Below (w.heap.size + 2) ((w.alloc (.cells x t)).alloc (.cells y u)) W) (j : Nat) : W.cell? ⟨w.heap.size, j, none⟩ = x[j]? ∧ W.cell? ⟨w.heap.size + 1, j, none⟩ = y[j]? := by
  have h0 : ((w.alloc (.cells x t)).alloc (.cells y u)).heap[w.heap.size]? = some (.cells x t (0, 0)) := (((Below.refl (w.heap.size + 1) (w.alloc (.cells x t))).alloc (by simp) (.cells y u)).block w.heap.size (by omega)).trans (World.alloc_heap_new w _)
  have h1 : ((w.alloc (.cells x t)).alloc (.cells y u)).heap[w.heap.size + 1]? = some (.cells y u (0, 0)) := by
    have := World.alloc_heap_new (w.alloc (.cells x t)) (.cells y u)
    rw [World.size_alloc] at this
    exact this
  exact ⟨cells_of_block ((h.block _ (by omega)).trans h0) j, cells_of_block ((h.block _ (by omega)).trans h1) j⟩
set_option maxRecDepth 100000 in
set_option maxHeartbeats 8000000 in
theorem mthin_unsorted (a b : Option Addr) (na nb ca cb o sq : Nat) (la lb : List Cl) (w : World) (ha : CA w.heap.size w a la) (hb : CA w.heap.size w b lb) (hna : la.length = na) (hnb : lb.length = nb) (h1 : na ≤ 1048576) (h2 : nb ≤ 1048576) (hs : (sortedC la && sortedC lb) = false) :
    Calls Try.prog 4 #[.agg #[.slice a na ca, .slice b nb cb], .agg #[.int .u64 (o : Nat), .int .u64 (sq : Nat)]] w fun r w' => r = .returned (.bool true) ∧ Below w.heap.size w w' := by
  obtain ⟨W2, hW2⟩ : ∃ W2, W2 = (w.alloc (.cells #[.slice a na ca, .slice b nb cb] 32)).alloc (.cells #[.int .u64 (o : Nat), .int .u64 (sq : Nat)] 33) := ⟨_, rfl⟩
  have HZ : Hid (W2.heap.size = w.heap.size + 2) := by rw [hW2]; simp [Hid]
  have HW2 : Hid (Below w.heap.size w W2) := by rw [hW2]; exact ((Below.refl _ w).alloc (Nat.le_refl _) _).alloc (by simp) _
  have HS : Hid (∀ W, Below W2.heap.size W2 W → W.cell? ⟨w.heap.size, 0, none⟩ = some (.slice a na ca) ∧ W.cell? ⟨w.heap.size, 1, none⟩ = some (.slice b nb cb) ∧ W.cell? ⟨w.heap.size + 1, 0, none⟩ = some (.int .u64 (o : Nat)) ∧ W.cell? ⟨w.heap.size + 1, 1, none⟩ = some (.int .u64 (sq : Nat))) := fun W hW => by
    rw [HZ.out, hW2] at hW
    exact ⟨(box_at hW 0).1, (box_at hW 1).1, (box_at hW 0).2, (box_at hW 1).2⟩
  have HHW : Hid (W2 = (w.alloc (.cells #[.slice a na ca, .slice b nb cb] 32)).alloc (.cells #[.int .u64 (o : Nat), .int .u64 (sq : Nat)] 33)) := hW2
  have HTR : Hid (∀ V W : World, Below W2.heap.size W2 V → Below V.heap.size V W → Below W2.heap.size W2 W) := fun V W k k' => k.trans (k'.mono k.size)
  have HFI : Hid (∀ V, Below W2.heap.size W2 V → Below w.heap.size w V) := fun V k => HW2.out.trans (k.mono HW2.out.size)
  have HU : Hid (∀ (L : List Cl) (A B : World) x, CA A.heap.size A x L → Below A.heap.size A B → CA B.heap.size B x L) := fun L A B x h k => (h.below (fun b hb => k.block b hb)).up k.size
  have HA : Hid (∀ V, Below W2.heap.size W2 V → CA V.heap.size V a la) := fun V k => HU.out la w V a ha (HFI.out V k)
  have HB : Hid (∀ V, Below W2.heap.size W2 V → CA V.heap.size V b lb) := fun V k => HU.out lb w V b hb (HFI.out V k)
  have C5 : Hid (∀ V : World, Calls Try.prog 5 #[] V fun r w' => r = .returned (.bool true) ∧ Below V.heap.size V w') := awake_any
  obtain ⟨r1, e1⟩ : ∃ r, sortedC la = r := ⟨_, rfl⟩
  obtain ⟨r2, e2⟩ : ∃ r, sortedC lb = r := ⟨_, rfl⟩
  have Sa : Hid (∀ V, Below W2.heap.size W2 V → Calls Try.prog 9 #[.slice a na ca] V fun r w' => r = .returned (.bool r1) ∧ Below V.heap.size V w') := fun V k => by have := rsorted_any V.heap.size na ca a la V (HA.out V k) hna (Nat.le_refl _) (by omega); rw [e1] at this; exact this
  have Sb : Hid (∀ V, Below W2.heap.size W2 V → Calls Try.prog 9 #[.slice b nb cb] V fun r w' => r = .returned (.bool r2) ∧ Below V.heap.size V w') := fun V k => by have := rsorted_any V.heap.size nb cb b lb V (HB.out V k) hnb (Nat.le_refl _) (by omega); rw [e2] at this; exact this
  rw [e1, e2] at hs
  clear ha hb hW2 hna hnb h1 h2 e1 e2 HA HB HU
  cases r1 <;> cases r2 <;> first | (exact absurd hs (by decide)) | clear hs
  all_goals
    go_enter Try.func4, Try.ntmps4
    go_wp2_with fail
    rw [← HHW.out]
    clear HHW HZ
    have B0 : Hid (Below W2.heap.size W2 W2) := Below.refl _ _
    obtain ⟨p0, p1, p2, p3⟩ := HS.out W2 B0.out
    go_wp2_with (first
      | (go_at_call 5; refine Calls.mono (C5.out w3) ?_; rintro e w4 ⟨rfl, b1⟩; have B4 : Hid (Below W2.heap.size W2 w4) := HTR.out w3 w4 B3.out b1; clear b1 B3)
      | (go_at_call 5; refine Calls.mono (C5.out w2) ?_; rintro e w4 ⟨rfl, b1⟩; have B4 : Hid (Below W2.heap.size W2 w4) := HTR.out w2 w4 B2.out b1; clear b1 B2)
      | (go_at_call 9; refine Calls.mono (Sb.out w2 B2.out) ?_; rintro e w3 ⟨rfl, b1⟩; have B3 : Hid (Below W2.heap.size W2 w3) := HTR.out w2 w3 B2.out b1; obtain ⟨q0_3, q1_3, q2_3, q3_3⟩ := HS.out w3 B3.out; clear b1)
      | (go_at_call 9; refine Calls.mono (Sa.out w1 B1.out) ?_; rintro e w2 ⟨rfl, b1⟩; have B2 : Hid (Below W2.heap.size W2 w2) := HTR.out w1 w2 B1.out b1; obtain ⟨q0_2, q1_2, q2_2, q3_2⟩ := HS.out w2 B2.out; clear b1)
      | (go_at_call 5; refine Calls.mono (C5.out W2) ?_; rintro e w1 ⟨rfl, b1⟩; have B1 : Hid (Below W2.heap.size W2 w1) := HTR.out W2 w1 B0.out b1; obtain ⟨q0_1, q1_1, q2_1, q3_1⟩ := HS.out w1 B1.out; clear b1))
    go_ret
    exact ⟨rfl, HFI.out _ B4.out⟩
set_option maxRecDepth 100000 in
set_option maxHeartbeats 8000000 in
theorem mthin_sorted (a b : Option Addr) (na nb ca cb o sq : Nat) (la lb : List Cl) (w : World) (ha : CA w.heap.size w a la) (hb : CA w.heap.size w b lb) (hna : la.length = na) (hnb : lb.length = nb) (hca : na ≤ ca) (hcb : nb ≤ cb) (h1 : na ≤ 1048576) (h2 : nb ≤ 1048576) (sa : sortedC la = true) (sb : sortedC lb = true) :
    Calls Try.prog 4 #[.agg #[.slice a na ca, .slice b nb cb], .agg #[.int .u64 (o : Nat), .int .u64 (sq : Nat)]] w fun r w' => r = .returned (.bool true) ∧ Below w.heap.size w w' := by
  obtain ⟨W2, hW2⟩ : ∃ W2, W2 = (w.alloc (.cells #[.slice a na ca, .slice b nb cb] 32)).alloc (.cells #[.int .u64 (o : Nat), .int .u64 (sq : Nat)] 33) := ⟨_, rfl⟩
  have HZ : Hid (W2.heap.size = w.heap.size + 2) := by rw [hW2]; simp [Hid]
  have HW2 : Hid (Below w.heap.size w W2) := by rw [hW2]; exact ((Below.refl _ w).alloc (Nat.le_refl _) _).alloc (by simp) _
  have HS : Hid (∀ W, Below W2.heap.size W2 W → W.cell? ⟨w.heap.size, 0, none⟩ = some (.slice a na ca) ∧ W.cell? ⟨w.heap.size, 1, none⟩ = some (.slice b nb cb) ∧ W.cell? ⟨w.heap.size + 1, 0, none⟩ = some (.int .u64 (o : Nat)) ∧ W.cell? ⟨w.heap.size + 1, 1, none⟩ = some (.int .u64 (sq : Nat))) := fun W hW => by
    rw [HZ.out, hW2] at hW
    exact ⟨(box_at hW 0).1, (box_at hW 1).1, (box_at hW 0).2, (box_at hW 1).2⟩
  have HHW : Hid (W2 = (w.alloc (.cells #[.slice a na ca, .slice b nb cb] 32)).alloc (.cells #[.int .u64 (o : Nat), .int .u64 (sq : Nat)] 33)) := hW2
  have HTR : Hid (∀ V W : World, Below W2.heap.size W2 V → Below V.heap.size V W → Below W2.heap.size W2 W) := fun V W k k' => k.trans (k'.mono k.size)
  have HFI : Hid (∀ V, Below W2.heap.size W2 V → Below w.heap.size w V) := fun V k => HW2.out.trans (k.mono HW2.out.size)
  have HU : Hid (∀ (L : List Cl) (A B : World) x, CA A.heap.size A x L → Below A.heap.size A B → CA B.heap.size B x L) := fun L A B x h k => (h.below (fun b hb => k.block b hb)).up k.size
  have HA : Hid (∀ V, Below W2.heap.size W2 V → CA V.heap.size V a la) := fun V k => HU.out la w V a ha (HFI.out V k)
  have HB : Hid (∀ V, Below W2.heap.size W2 V → CA V.heap.size V b lb) := fun V k => HU.out lb w V b hb (HFI.out V k)
  have C5 : Hid (∀ V : World, Calls Try.prog 5 #[] V fun r w' => r = .returned (.bool true) ∧ Below V.heap.size V w') := awake_any
  obtain ⟨s, hsq⟩ : ∃ s, s = if sq < o then o else sq := ⟨_, rfl⟩
  have hos : o ≤ s := by rw [hsq]; split <;> omega
  have hcase : (decide (sq < o) = true ∧ s = o) ∨ (decide (sq < o) = false ∧ s = sq) := by
    by_cases h : sq < o
    · exact Or.inl ⟨decide_eq_true h, by rw [hsq, if_pos h]⟩
    · exact Or.inr ⟨decide_eq_false h, by rw [hsq, if_neg h]⟩
  obtain ⟨D, hD⟩ : ∃ D, drpA la o false = D := ⟨_, rfl⟩
  obtain ⟨M, hM⟩ : ∃ M, mP [la, lb] = M := ⟨_, rfl⟩
  obtain ⟨N, hN⟩ : ∃ N, mP [D, lb] = N := ⟨_, rfl⟩
  obtain ⟨X, hX⟩ : ∃ X, visA M s = X := ⟨_, rfl⟩
  have hNX : visA N s = X := by rw [← hX, ← hN, ← hM, ← hD]; exact thin_same sa sb o s hos
  obtain ⟨nD, hnD⟩ : ∃ n, D.length = n := ⟨_, rfl⟩
  obtain ⟨nM, hnM⟩ : ∃ n, M.length = n := ⟨_, rfl⟩
  obtain ⟨nN, hnN⟩ : ∃ n, N.length = n := ⟨_, rfl⟩
  obtain ⟨nX, hnX⟩ : ∃ n, X.length = n := ⟨_, rfl⟩
  have bD : nD ≤ 1048576 := by have := drpA_len la o false; rw [hD, hnD] at this; omega
  have bM : nM ≤ 2097152 := by have := mP_len [la, lb]; rw [hM, hnM] at this; simp at this; omega
  have bN : nN ≤ 2097152 := by have := mP_len [D, lb]; rw [hN, hnN] at this; simp at this; omega
  have bX : nX ≤ 2097152 := by have := visA_len M s; rw [hX, hnX, hnM] at this; omega
  have Sa : Hid (∀ V, Below W2.heap.size W2 V → Calls Try.prog 9 #[.slice a na ca] V fun r w' => r = .returned (.bool true) ∧ Below V.heap.size V w') := fun V k => by have := rsorted_any V.heap.size na ca a la V (HA.out V k) hna (Nat.le_refl _) (by omega); rw [sa] at this; exact this
  have Sb : Hid (∀ V, Below W2.heap.size W2 V → Calls Try.prog 9 #[.slice b nb cb] V fun r w' => r = .returned (.bool true) ∧ Below V.heap.size V w') := fun V k => by have := rsorted_any V.heap.size nb cb b lb V (HB.out V k) hnb (Nat.le_refl _) (by omega); rw [sb] at this; exact this
  have CD : Hid (∀ V, Below W2.heap.size W2 V → Calls Try.prog 10 #[.slice a na ca, .int .u64 (o : Nat), .bool false] V fun r w' => ∃ ra rc, r = .returned (.slice ra nD rc) ∧ nD ≤ rc ∧ CA w'.heap.size w' ra D ∧ Below V.heap.size V w') := fun V k => by have := drop_ca a na ca o false la V (HA.out V k) hna hca (by omega); rw [hD, hnD] at this; exact this
  have CN : Hid (∀ V d cd, Below W2.heap.size W2 V → CA V.heap.size V d D → nD ≤ cd → Calls Try.prog 12 #[.slice (some ⟨V.heap.size, 0, none⟩) 2 2] (V.alloc (.cells #[.slice d nD cd, .slice b nb cb] 22)) fun r w' => ∃ ra rc, r = .returned (.slice ra nN rc) ∧ nN ≤ rc ∧ CA w'.heap.size w' ra N ∧ Below V.heap.size V w') := fun V d cd k hd hcd => by have := merge2_told V d b D lb nD nb cd cb hd (HB.out V k) hnD hnb hcd hcb (by omega) (by omega); rw [hN] at this; rw [← hnN]; exact this
  have CM : Hid (∀ V, Below W2.heap.size W2 V → Calls Try.prog 12 #[.slice (some ⟨V.heap.size, 0, none⟩) 2 2] (V.alloc (.cells #[.slice a na ca, .slice b nb cb] 22)) fun r w' => ∃ ra rc, r = .returned (.slice ra nM rc) ∧ nM ≤ rc ∧ CA w'.heap.size w' ra M ∧ Below V.heap.size V w') := fun V k => by have := merge2_told V a b la lb na nb ca cb (HA.out V k) (HB.out V k) hna hnb hca hcb (by omega) (by omega); rw [hM] at this; rw [← hnM]; exact this
  have VN : Hid (∀ V x cx, CA V.heap.size V x N → nN ≤ cx → Calls Try.prog 11 #[.slice x nN cx, .int .u64 (s : Nat)] V fun r w' => ∃ ra rc, r = .returned (.slice ra nX rc) ∧ CA w'.heap.size w' ra X ∧ Below V.heap.size V w') := fun V x cx hx hcx => by have := visible_ca x nN cx s N V hx hnN hcx (by omega); rw [hNX, hnX] at this; exact this
  have VM : Hid (∀ V x cx, CA V.heap.size V x M → nM ≤ cx → Calls Try.prog 11 #[.slice x nM cx, .int .u64 (s : Nat)] V fun r w' => ∃ ra rc, r = .returned (.slice ra nX rc) ∧ CA w'.heap.size w' ra X ∧ Below V.heap.size V w') := fun V x cx hx hcx => by have := visible_ca x nM cx s M V hx hnM hcx (by omega); rw [hX, hnX] at this; exact this
  have CS : Hid (∀ V x cx y cy, CA V.heap.size V x X → CA V.heap.size V y X → Calls Try.prog 8 #[.slice x nX cx, .slice y nX cy] V fun r w' => r = .returned (.bool true) ∧ Below V.heap.size V w') := fun V x cx y cy hx hy => same_ca V x y cx cy nX X hx hy hnX (by omega)
  have HQ : Hid (∀ (V : World) q, Below W2.heap.size W2 V → Below W2.heap.size W2 (V.drewN q)) := fun V q k => k.trans ((belD V q).mono k.size)
  clear ha hb hW2 hna hnb hca hcb h1 h2 HA HB sa sb hD hM hN hX hNX hnD hnM hnN hnX bD bM bN bX hos hsq
  rcases hcase with ⟨hlt, hse⟩ | ⟨hlt, hse⟩
  all_goals
    replace hse := hse.symm
    subst hse
    go_enter Try.func4, Try.ntmps4
    go_wp2_with fail
    rw [← HHW.out]
    clear HHW HZ
    have B0 : Hid (Below W2.heap.size W2 W2) := Below.refl _ _
    obtain ⟨p0, p1, p2, p3⟩ := HS.out W2 B0.out
    go_wp2_with (first
      | (go_at_call 9; refine Calls.mono (Sb.out w2 B2.out) ?_; rintro e w3 ⟨rfl, b1⟩; have B3 : Hid (Below W2.heap.size W2 w3) := HTR.out w2 w3 B2.out b1; obtain ⟨q0_3, q1_3, q2_3, q3_3⟩ := HS.out w3 B3.out; clear b1)
      | (go_at_call 9; refine Calls.mono (Sa.out w1 B1.out) ?_; rintro e w2 ⟨rfl, b1⟩; have B2 : Hid (Below W2.heap.size W2 w2) := HTR.out w1 w2 B1.out b1; obtain ⟨q0_2, q1_2, q2_2, q3_2⟩ := HS.out w2 B2.out; clear b1)
      | (go_at_call 5; refine Calls.mono (C5.out W2) ?_; rintro e w1 ⟨rfl, b1⟩; have B1 : Hid (Below W2.heap.size W2 w1) := HTR.out W2 w1 B0.out b1; obtain ⟨q0_1, q1_1, q2_1, q3_1⟩ := HS.out w1 B1.out; clear b1))
    go_quiet (fail)
    have B4 : Hid (Below W2.heap.size W2 (w3.drewN nq)) := HQ.out w3 nq B3.out
    generalize w3.drewN nq = w4 at B4 ⊢
    obtain ⟨q0_4, q1_4, q2_4, q3_4⟩ := HS.out w4 B4.out
    go_wp2_with (first
      | (go_at_call 8; refine Calls.mono (CS.out w9 ua uc va vc U9.out V9.out) ?_; rintro e w10 ⟨rfl, b1⟩; have B10 : Hid (Below W2.heap.size W2 w10) := HTR.out w9 w10 B9.out b1; clear b1)
      | (go_at_call 11; refine Calls.mono (VM.out w8 ma mc M8.out G8.out) ?_; rintro e w9 ⟨va, vc, rfl, hv, b1⟩; have B9 : Hid (Below W2.heap.size W2 w9) := HTR.out w8 w9 B8.out b1; have V9 : Hid (CA w9.heap.size w9 va X) := hv; have U9 : Hid (CA w9.heap.size w9 ua X) := HU.out X w8 w9 ua U8.out b1; clear b1 hv)
      | (go_at_call 12; refine Calls.mono (CM.out w7 B7.out) ?_; rintro e w8 ⟨ma, mc, rfl, hmc, hm, b1⟩; have B8 : Hid (Below W2.heap.size W2 w8) := HTR.out w7 w8 B7.out b1; have M8 : Hid (CA w8.heap.size w8 ma M) := hm; have G8 : Hid (nM ≤ mc) := hmc; have U8 : Hid (CA w8.heap.size w8 ua X) := HU.out X w7 w8 ua U7.out b1; clear b1 hm hmc)
      | (go_at_call 11; refine Calls.mono (VN.out w6 xa xc N6.out G6.out) ?_; rintro e w7 ⟨ua, uc, rfl, hu, b1⟩; have B7 : Hid (Below W2.heap.size W2 w7) := HTR.out w6 w7 B6.out b1; obtain ⟨q0_7, q1_7, q2_7, q3_7⟩ := HS.out w7 B7.out; have U7 : Hid (CA w7.heap.size w7 ua X) := hu; clear b1 hu)
      | (go_at_call 12; refine Calls.mono (CN.out w5 da dc B5.out D5.out G5.out) ?_; rintro e w6 ⟨xa, xc, rfl, hxc, hx, b1⟩; have B6 : Hid (Below W2.heap.size W2 w6) := HTR.out w5 w6 B5.out b1; have N6 : Hid (CA w6.heap.size w6 xa N) := hx; have G6 : Hid (nN ≤ xc) := hxc; clear b1 hx hxc)
      | (go_at_call 10; refine Calls.mono (CD.out w4 B4.out) ?_; rintro e w5 ⟨da, dc, rfl, hdc, hd, b1⟩; have B5 : Hid (Below W2.heap.size W2 w5) := HTR.out w4 w5 B4.out b1; obtain ⟨q0_5, q1_5, q2_5, q3_5⟩ := HS.out w5 B5.out; have D5 : Hid (CA w5.heap.size w5 da D) := hd; have G5 : Hid (nD ≤ dc) := hdc; clear b1 hd hdc))
    go_ret
    exact ⟨rfl, HFI.out _ B10.out⟩
theorem mthin_any (a b : Option Addr) (na nb ca cb o sq : Nat) (la lb : List Cl) (w : World) (ha : CA w.heap.size w a la) (hb : CA w.heap.size w b lb) (hna : la.length = na) (hnb : lb.length = nb) (hca : na ≤ ca) (hcb : nb ≤ cb) (h1 : na ≤ 1048576) (h2 : nb ≤ 1048576) :
    Calls Try.prog 4 #[.agg #[.slice a na ca, .slice b nb cb], .agg #[.int .u64 (o : Nat), .int .u64 (sq : Nat)]] w fun r w' => r = .returned (.bool true) ∧ Below w.heap.size w w' := by
  cases hs : (sortedC la && sortedC lb) with
  | false => exact mthin_unsorted a b na nb ca cb o sq la lb w ha hb hna hnb h1 h2 hs
  | true =>
    rw [Bool.and_eq_true] at hs
    exact mthin_sorted a b na nb ca cb o sq la lb w ha hb hna hnb hca hcb h1 h2 hs.1 hs.2
end Go.Proofs.Ytohamjoiohfoiab
