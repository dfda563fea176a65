/-
  The walks of CredMints and CredVerifies.
-/
import Derived.Test.YtedibkcempcpnaaDoorTLiv
namespace Go.Proofs.YtedibkcempcpnaaDoor.T
open Go.RowKit
set_option maxRecDepth 20000 in
set_option maxHeartbeats 8000000 in
theorem mints_walk (a : Option Addr) (c B : Nat) (l : List Tn) (t : Tn) (w : World) (h : TA B w a l) (hB : B ≤ w.heap.size) (hl : l.length ≤ 4000000000000) (hz : ∀ t ∈ l, tnZ t) (ht : tnZ t) (m : Int) (hm : w.cell? ⟨1, 0, none⟩ = some (.int .i64 m)) (hK : GK w) :
    Calls Tryd.prog 3 #[.slice a l.length c, tnV t] w fun e w' => e = .returned (.bool true) ∧ Below w.heap.size w w' := by
  have H1 : Hid (∀ W, Below w.heap.size w W → _) := fun W b => mint_any t ht.1 ht.2 W (hK.below b)
  have H2 : Hid (∀ W : World, _) := fun W => qmint_any t ht.1 ht.2 W
  have H3 : Hid (∀ W, Below w.heap.size w W → _) := fun W b => lives_any m W (mx_below hm b) (hK.below b)
  have H4 : Hid (∀ W, Below w.heap.size w W → _) := fun W b => check_any a c B l W (TA.below h (fun q hq => b.block q (by omega))) (by have := b.size; omega) hl hz
  have H5 : Hid (∀ W, Below w.heap.size w W → _) := fun W b => qcheck_any a c B l W (TA.below h (fun q hq => b.block q (by omega))) (by have := b.size; omega) hl hz
  obtain ⟨R, hR⟩ : ∃ R, mintR t = R := ⟨_, rfl⟩
  rw [hR] at H1 H2
  obtain ⟨C, hC⟩ : ∃ C, chkR l = C := ⟨_, rfl⟩
  rw [hC] at H4 H5
  obtain ⟨n, hn⟩ : ∃ n, l.length = n := ⟨_, rfl⟩
  rw [hn] at H4 H5 ⊢
  clear hR hC hn hl hz ht hm hK h hB
  obtain ⟨rs, re⟩ := R
  simp only at H1 H2
  have e1 : (rs.toList == rs.toList) = true := by simp
  have e2 : (re == re) = true := by simp
  have e3 : (C == C) = true := by simp
  obtain ⟨W0, hW0⟩ : ∃ W0, w.alloc (.cells (tnA t) 24) = W0 := ⟨_, rfl⟩
  have HB0 : Hid (Below w.heap.size w W0) := by rw [Hid, ← hW0]; exact (Below.refl _ _).alloc (Nat.le_refl _) _
  have HX0 : Hid (TnB W0 w.heap.size t) := by rw [Hid, ← hW0]; exact block_alloc_at _ _
  obtain ⟨c0, c1, c2⟩ := HX0.out.cells
  unfold tnA at hW0
  unfold tnV at H1 H2 ⊢
  go_enter Tryd.func3, Tryd.ntmps3
  go_wp2_with fail
  try rw [hW0]
  refine (H1.out _ HB0.out).mono ?_
  rintro e w1 ⟨rfl, b1⟩
  have HB1 : Hid (Below w.heap.size w w1) := HB0.out.trans (b1.mono HB0.out.size)
  have HX1 : Hid (TnB w1 w.heap.size t) := HX0.out.below b1
  clear b1 c0 c1 c2 hW0
  obtain ⟨c0, c1, c2⟩ := HX1.out.cells
  go_wp2_with fail
  refine (H2.out _).mono ?_
  rintro e w2 ⟨rfl, b2⟩
  have HB2 : Hid (Below w.heap.size w w2) := HB1.out.trans (b2.mono HB1.out.size)
  clear b2 c0 c1 c2
  go_wp2_with fail
  refine (H3.out _ HB2.out).mono ?_
  rintro e w3 ⟨rfl, b3⟩
  have HB3 : Hid (Below w.heap.size w w3) := HB2.out.trans (b3.mono HB2.out.size)
  clear b3
  go_wp2_with fail
  refine (H4.out _ HB3.out).mono ?_
  rintro e w4 ⟨rfl, b4⟩
  have HB4 : Hid (Below w.heap.size w w4) := HB3.out.trans (b4.mono HB3.out.size)
  clear b4
  go_wp2_with fail
  refine (H5.out _ HB4.out).mono ?_
  rintro e w5 ⟨rfl, b5⟩
  have HB5 : Hid (Below w.heap.size w w5) := HB4.out.trans (b5.mono HB4.out.size)
  clear b5
  go_wp2_with fail
  go_ret
  exact ⟨rfl, HB5.out⟩
set_option maxRecDepth 20000 in
set_option maxHeartbeats 8000000 in
theorem verifies_walk (a : Option Addr) (c B : Nat) (l : List Tn) (s : ByteArray) (va : Option Addr) (vc : Nat) (vs : List ByteArray) (w : World) (h : TA B w a l) (hv : SA B w va vs) (hB : B ≤ w.heap.size) (hl : l.length ≤ 4000000000000) (hz : ∀ t ∈ l, tnZ t) (hvl : vs.length ≤ 1000000000000) (hs : ∀ v ∈ vs, v.size < 4294967281) (hss : s.size < 4294967281) (m : Int) (hm : w.cell? ⟨1, 0, none⟩ = some (.int .i64 m)) (hK : GK w) :
    Calls Tryd.prog 4 #[.slice a l.length c, .string s, .slice va vs.length vc] w fun e w' => e = .returned (.bool true) ∧ Below w.heap.size w w' := by
  have HTA : Hid (∀ W, Below w.heap.size w W → TA B W a l) := fun W b => TA.below h (fun q hq => b.block q (by omega))
  have HSA : Hid (∀ W, Below w.heap.size w W → SA B W va vs) := fun W b => SA.below hv (fun q hq => b.block q (by omega))
  have H1 : Hid (∀ W, Below w.heap.size w W → _) := fun W b => verify_any a c B l s W (HTA.out W b) (by have := b.size; omega) hl hz hss m (mx_below hm b) (hK.below b)
  have H2 : Hid (∀ W, Below w.heap.size w W → _) := fun W b => qverify_any a c B l s W (HTA.out W b) (by have := b.size; omega) hl hz
  have H3 : Hid (∀ W : World, _) := fun W => bearer_any s (by omega) W
  have H4 : Hid (∀ W : World, _) := fun W => qbearer_any s (by omega) W
  have H5 : Hid (∀ W, Below w.heap.size w W → _) := fun W b => who_any a c B l va vc vs W (HTA.out W b) (HSA.out W b) (by have := b.size; omega) hl hz hvl hs m (mx_below hm b) (hK.below b)
  have H6 : Hid (∀ W, Below w.heap.size w W → _) := fun W b => qwho_any a c B l va vc vs W (HTA.out W b) (HSA.out W b) (by have := b.size; omega) hl hz hvl hs
  have H7 : Hid (∀ W, Below w.heap.size w W → _) := fun W b => lives_any m W (mx_below hm b) (hK.below b)
  obtain ⟨R, hR⟩ : ∃ R, verR l s = R := ⟨_, rfl⟩
  rw [hR] at H1 H2
  obtain ⟨C, hC⟩ : ∃ C, bearR s = C := ⟨_, rfl⟩
  rw [hC] at H3 H4
  obtain ⟨D, hD⟩ : ∃ D, whoR l vs = D := ⟨_, rfl⟩
  rw [hD] at H5 H6
  obtain ⟨n, hn⟩ : ∃ n, l.length = n := ⟨_, rfl⟩
  obtain ⟨k, hk⟩ : ∃ k, vs.length = k := ⟨_, rfl⟩
  rw [hn] at H1 H2
  rw [hn, hk] at H5 H6 ⊢
  clear hR hC hn hl hz hm hK h hB hD hk hvl hs hss hv HTA HSA
  obtain ⟨r1, r2⟩ := R
  obtain ⟨c1, c2⟩ := C
  obtain ⟨d1, d2⟩ := D
  simp only at H1 H2 H3 H4 H5 H6
  have e1 : (r1 == r1) = true := by simp
  have e2 : (r2 == r2) = true := by simp
  have e3 : (c1.toList == c1.toList) = true := by simp
  have e4 : (c2 == c2) = true := by simp
  have e5 : (d1 == d1) = true := by simp
  have e6 : (d2 == d2) = true := by simp
  go_enter Tryd.func4, Tryd.ntmps4
  go_wp2_with fail
  refine (H1.out _ (Below.refl _ _)).mono ?_
  rintro e w1 ⟨rfl, b1⟩
  have HB1 : Hid (Below w.heap.size w w1) := b1
  clear b1
  go_wp2_with fail
  refine (H2.out _ HB1.out).mono ?_
  rintro e w2 ⟨rfl, b2⟩
  have HB2 : Hid (Below w.heap.size w w2) := HB1.out.trans (b2.mono HB1.out.size)
  clear b2
  go_wp2_with fail
  refine (H3.out _).mono ?_
  rintro e w3 ⟨rfl, b3⟩
  have HB3 : Hid (Below w.heap.size w w3) := HB2.out.trans (b3.mono HB2.out.size)
  clear b3
  go_wp2_with fail
  refine (H4.out _).mono ?_
  rintro e w4 ⟨rfl, b4⟩
  have HB4 : Hid (Below w.heap.size w w4) := HB3.out.trans (b4.mono HB3.out.size)
  clear b4
  go_wp2_with fail
  refine (H5.out _ HB4.out).mono ?_
  rintro e w5 ⟨rfl, b5⟩
  have HB5 : Hid (Below w.heap.size w w5) := HB4.out.trans (b5.mono HB4.out.size)
  clear b5
  go_wp2_with fail
  refine (H6.out _ HB5.out).mono ?_
  rintro e w6 ⟨rfl, b6⟩
  have HB6 : Hid (Below w.heap.size w w6) := HB5.out.trans (b6.mono HB5.out.size)
  clear b6
  go_wp2_with fail
  refine (H7.out _ HB6.out).mono ?_
  rintro e w7 ⟨rfl, b7⟩
  have HB7 : Hid (Below w.heap.size w w7) := HB6.out.trans (b7.mono HB6.out.size)
  clear b7
  go_wp2_with fail
  go_ret
  exact ⟨rfl, HB7.out⟩
end Go.Proofs.YtedibkcempcpnaaDoor.T
