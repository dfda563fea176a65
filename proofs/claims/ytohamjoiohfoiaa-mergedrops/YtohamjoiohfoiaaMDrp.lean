/-
  MergeDrops' walk.
-/
import Derived.Test.YtohamjoiohfoiaaAwake
import Derived.Test.YtohamjoiohfoiaaRBad
namespace Go.Proofs.Ytohamjoiohfoiaa
open Go.RowKit
set_option maxRecDepth 100000 in
set_option maxHeartbeats 4000000 in
theorem mdrp_any (a : Option Addr) (m cp seq : Nat) (bt : Bool) (l : List Cl) (w : World) (hca : CA w.heap.size w a l) (hl : l.length = m) (hm : m ≤ cp) (hmx : m * 48 ≤ 140737488355328) (hn : a = none → cp = 0) :
    Calls Try.prog 7 #[.slice a m cp, .int .u64 (seq : Nat), .bool bt] w fun r w' => r = .returned (.bool true) ∧ Below w.heap.size w w' := by
  obtain ⟨i0, hi, hz0, hz1, hz2⟩ := info_parts info24
  have HAW : Hid (Calls Try.prog 9 #[] w fun r w' => r = .returned (.bool true) ∧ Below w.heap.size w w') := awake_any w
  have HCA : Hid (∀ V, Below w.heap.size w V → CA V.heap.size V a l) := fun V hV => (hca.below (fun b hb => hV.block b hb)).up hV.size
  have HLF : Hid ((flC l).length = m * 4) := by rw [Hid, flC_len, hl]
  have HL : Hid (l.length = m) := hl
  have H19 : Hid (∀ V x c, CA V.heap.size V x l → m ≤ c → Calls Try.prog 21 #[.slice x m c, .int .u64 (seq : Nat), .bool bt] V fun r w' => ∃ xa xc, r = .returned (.slice xa (drpP l seq bt (allG l)).length xc) ∧ CA w'.heap.size w' xa (drpP l seq bt (allG l)) ∧ Below V.heap.size V w') := fun V x c hx hc =>
    Calls.mono (drop_any x m c seq bt l V hx hl hc hmx) (by
      rintro r w' ⟨v, rfl, hr, b⟩
      obtain ⟨xa, xc, rfl, _, hca⟩ := ca_row hr
      exact ⟨xa, xc, rfl, hca, b⟩)
  have H20 : Hid (∀ V, Below w.heap.size w V → Calls Try.prog 22 #[.slice a m cp, .int .u64 (seq : Nat), .bool bt] V fun r w' => ∃ xa xc, r = .returned (.slice xa (drpP l seq bt (allG l)).length xc) ∧ CA w'.heap.size w' xa (drpP l seq bt (allG l)) ∧ Below V.heap.size V w') := fun V hV =>
    Calls.mono (rdrop_all a m cp seq bt l V (HCA.out V hV) hl hm hmx) (by
      rintro r w' ⟨v, rfl, hr, b⟩
      obtain ⟨xa, xc, rfl, _, hca⟩ := ca_row hr
      exact ⟨xa, xc, rfl, hca, b⟩)
  have H16 : Hid (∀ V x y cx cy (n : Nat) (L : List Cl), CA V.heap.size V x L → CA V.heap.size V y L → L.length = n → n < 1000000000000000 → Calls Try.prog 16 #[.slice x n cx, .slice y n cy] V fun r w' => r = .returned (.bool true) ∧ Below V.heap.size V w') := fun V x y cx cy n L hx hy hl hn =>
    Calls.mono (same_eq x y n cx cy L V hx hy hl hn) (by
      rintro r w' ⟨rfl, q, rfl⟩
      exact ⟨rfl, belD V q⟩)
  obtain ⟨nv, hnv⟩ : ∃ nv, (drpP l seq bt (allG l)).length = nv := ⟨_, rfl⟩
  have hvb : nv < 1000000000000000 := by have h1 := drp_le l seq bt (allG l); have h2 := allG_sum l; omega
  rw [hnv] at H19 H20
  have HNV : Hid ((drpP l seq bt (allG l)).length = nv) := hnv
  clear hnv
  cases a with
  | none =>
    obtain rfl := ca_none hca
    obtain rfl : 0 = m := hl
    obtain rfl : cp = 0 := hn rfl
    have hv0 : drpP [] seq bt (allG []) = [] := by simp [allG, drpP, sortedC, grps]
    obtain rfl : 0 = nv := by have := HNV.out; rw [hv0] at this; exact this
    have K19 : Hid (∀ V x, Calls Try.prog 21 #[.slice x 0 0, .int .u64 (seq : Nat), .bool bt] V fun r w' => (∃ xa xc, r = .returned (.slice xa 0 xc)) ∧ Below V.heap.size V w') := fun V x => Calls.mono (H19.out V x 0 (CA.nil _ _ _) (Nat.le_refl _)) (by rintro r w' ⟨xa, xc, rfl, _, b⟩; exact ⟨⟨_, _, rfl⟩, b⟩)
    have K20 : Hid (∀ V, Below w.heap.size w V → Calls Try.prog 22 #[.slice none 0 0, .int .u64 (seq : Nat), .bool bt] V fun r w' => (∃ xa xc, r = .returned (.slice xa 0 xc)) ∧ Below V.heap.size V w') := fun V hV => Calls.mono (H20.out V hV) (by rintro r w' ⟨xa, xc, rfl, _, b⟩; exact ⟨⟨_, _, rfl⟩, b⟩)
    have K16 : Hid (∀ V x y cx cy, Calls Try.prog 16 #[.slice x 0 cx, .slice y 0 cy] V fun r w' => r = .returned (.bool true) ∧ Below V.heap.size V w') := fun V x y cx cy => H16.out V x y cx cy 0 [] (CA.nil _ _ _) (CA.nil _ _ _) rfl (by omega)
    clear H19 H20 H16 hv0 HNV HLF HCA hca hn hm hmx hvb
    go_enter Try.func7, Try.ntmps7
    go_wp2_with (first
      | (go_at_call 9; refine Calls.mono HAW.out ?_; rintro e w1 ⟨rfl, b1⟩; have HB1 : Hid (Below w.heap.size w (w1.alloc (.cells #[] 24))) := b1.trans (((Below.refl _ w1).alloc (Nat.le_refl _) _).mono b1.size); clear b1)
      | (go_at_call 21; refine Calls.mono (K19.out _ _) ?_; rintro e w4 ⟨⟨xa, xc, rfl⟩, b4⟩; have HB4 : Hid (Below w.heap.size w w4) := HB1.out.trans (b4.mono HB1.out.size); clear b4)
      | (go_at_call 22; refine Calls.mono (K20.out _ HB4.out) ?_; rintro e w5 ⟨⟨ya, yc, rfl⟩, b5⟩; have HB5 : Hid (Below w.heap.size w w5) := HB4.out.trans (b5.mono HB4.out.size); clear b5)
      | (go_at_call 16; refine Calls.mono (K16.out _ _ _ _ _) ?_; rintro e w6 ⟨rfl, b6⟩; have HB6 : Hid (Below w.heap.size w w6) := (by first | exact HB6.out.trans (b6.mono HB6.out.size) | exact HB5.out.trans (b6.mono HB5.out.size)); clear b6))
    go_ret
    exact ⟨rfl, HB6.out⟩
  | some ad =>
    clear hl hn
    have hmb : m < 1000000000000000 := by omega
    go_enter Try.func7, Try.ntmps7
    go_wp2_with (first
      | (go_at_call 9; refine Calls.mono HAW.out ?_; rintro e w1 ⟨rfl, b1⟩; have HB1 : Hid (Below w.heap.size w w1) := b1; clear b1; have HRX : Hid (RowAt (w1.alloc (.cells #[] 24)) w1.heap.size 24 4 (.slice (some ⟨w1.heap.size, 0, none⟩) 0 0) 0 []) := ⟨rfl, Or.inr ⟨w1.heap.size, 0, #[], rfl, Nat.le_refl _, World.alloc_heap_new _ _, Nat.le_refl _, Nat.zero_le _, rfl, rfl⟩⟩; have HBA : Hid (Below w.heap.size w (w1.alloc (.cells #[] 24))) := HB1.out.trans (((Below.refl _ w1).alloc (Nat.le_refl _) _).mono HB1.out.size); have HNC : Hid (∀ j u, (flC l)[j]? = some u → (w1.alloc (.cells #[] 24)).cell? (ad.add j) = some u) := ca_flat' (HCA.out _ HBA.out))
      | (at_builtin; refine wpList_append_own _ rfl _ _ 25 rfl w1.heap.size 24 i0 (.agg #[.string ByteArray.empty, .int .u64 0, .string ByteArray.empty, .bool false]) 4 48 Try.underlying25 hi hz0 hz1 hz2 rfl (by decide) _ _ _ rfl HRX.out ad m cp (flC l) rfl HLF.out HNC.out (flC_one l) (by unfold maxLen; omega) (by omega) (by simp) ?_; intro v2 w3 hown2 hg2 _; have hr : w3.ownsRow w1.heap.size 24 4 v2 l.length (flC l) := (by rw [HL.out]; simpa using hown2); have HB3 : Hid (Below w.heap.size w w3) := HBA.out.grown hg2 HBA.out.size (fun k e => Nat.le_trans HB1.out.size (World.ownsRow.lt HRX.out k e).1); obtain ⟨va, vc, hv, hc, hca3⟩ := ca_row hr; rw [HL.out] at hv hc; subst hv; have HC3 : Hid (∀ V, Below w3.heap.size w3 V → CA V.heap.size V va l) := (fun V hV => (hca3.below (fun b hb => hV.block b hb)).up hV.size); clear hr hown2 hg2 hca3)
      | (go_at_call 21; refine Calls.mono (H19.out _ _ _ (HC3.out _ (Below.refl _ _)) hc) ?_; rintro e w4 ⟨xa, xc, rfl, hx4, b4⟩; have HX4 : Hid (∀ V, Below w4.heap.size w4 V → CA V.heap.size V xa (drpP l seq bt (allG l))) := (fun V hV => (hx4.below (fun b hb => hV.block b hb)).up hV.size); have HD4 : Hid (Below w3.heap.size w3 w4) := b4; have HB4 : Hid (Below w.heap.size w w4) := HB3.out.trans (b4.mono HB3.out.size); clear b4 hx4)
      | (go_at_call 22; refine Calls.mono (H20.out _ HB4.out) ?_; rintro e w5 ⟨ya, yc, rfl, hy5, b5⟩; have HY5 : Hid (CA w5.heap.size w5 ya (drpP l seq bt (allG l))) := hy5; have HE5 : Hid (Below w4.heap.size w4 w5) := b5; have HD5 : Hid (Below w3.heap.size w3 w5) := HD4.out.trans (b5.mono HD4.out.size); have HB5 : Hid (Below w.heap.size w w5) := HB4.out.trans (b5.mono HB4.out.size); clear b5 hy5; have H16a : Hid (Calls Try.prog 16 #[.slice xa nv xc, .slice ya nv yc] w5 fun r w' => r = .returned (.bool true) ∧ Below w5.heap.size w5 w') := H16.out w5 xa ya xc yc nv (drpP l seq bt (allG l)) (HX4.out _ HE5.out) HY5.out HNV.out hvb; clear HY5 HX4)
      | (go_at_call 16; refine Calls.mono H16b.out ?_; rintro e w7 ⟨rfl, b7⟩; have HB7 : Hid (Below w.heap.size w w7) := HB6.out.trans (b7.mono HB6.out.size); clear b7)
      | (go_at_call 16; refine Calls.mono H16a.out ?_; rintro e w6 ⟨rfl, b6⟩; have HD6 : Hid (Below w3.heap.size w3 w6) := HD5.out.trans (b6.mono HD5.out.size); have HB6 : Hid (Below w.heap.size w w6) := HB5.out.trans (b6.mono HB5.out.size); clear b6; have H16b : Hid (Calls Try.prog 16 #[.slice va m vc, .slice (some ad) m cp] w6 fun r w' => r = .returned (.bool true) ∧ Below w6.heap.size w6 w') := H16.out w6 va (some ad) vc cp m l (HC3.out _ HD6.out) (HCA.out _ HB6.out) HL.out hmb))
    go_ret
    exact ⟨rfl, HB7.out⟩
end Go.Proofs.Ytohamjoiohfoiaa
