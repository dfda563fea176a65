/-
  The walk of CredApart.
-/
import Derived.Test.YtedibkcempcpnaaDoorTLiv
import Derived.Deep.Cut
namespace Go.Proofs.YtedibkcempcpnaaDoor.T
open Go.RowKit
def two (x y : Tn) : Array Value := #[.string x.name, .string x.key, .int .i64 x.quota, .string y.name, .string y.key, .int .i64 y.quota]
theorem ta_two {W : World} {g : Nat} {x y : Tn} (h : W.heap[g]? = some (.cells (two x y) 24 (0, 0))) : TA W.heap.size W (some ⟨g, 0, none⟩) [x, y] := fun j u hj => by
  have hg := (Array.getElem?_eq_some_iff.1 h).1
  match j, hj with
  | 0, hj =>
    simp only [List.getElem?_cons_zero, Option.some.injEq] at hj
    subst hj
    exact ⟨g, 0, rfl, hg, cell_of_block h rfl, cell_of_block h rfl, cell_of_block h rfl⟩
  | 1, hj =>
    simp only [List.getElem?_cons_succ, List.getElem?_cons_zero, Option.some.injEq] at hj
    subst hj
    exact ⟨g, 0, rfl, hg, cell_of_block h rfl, cell_of_block h rfl, cell_of_block h rfl⟩
theorem z_one {x : Tn} (hx : tnZ x) : ∀ t ∈ [x], tnZ t := fun t ht => by rw [List.mem_singleton] at ht; subst ht; exact hx
theorem z_two {x y : Tn} (hx : tnZ x) (hy : tnZ y) : ∀ t ∈ [x, y], tnZ t := fun t ht => by
  rw [List.mem_cons, List.mem_singleton] at ht
  rcases ht with rfl | rfl
  · exact hx
  · exact hy
theorem mintR_no {t : Tn} (h : okT t = false) : mintR t = (⟨#[]⟩, 1) := by rw [mintR, if_neg (by rw [h]; decide)]
set_option maxRecDepth 20000 in
set_option maxHeartbeats 8000000 in
theorem apart_walk (x y : Tn) (hx : tnZ x) (hy : tnZ y) (w : World) (m : Int) (hm : w.cell? ⟨1, 0, none⟩ = some (.int .i64 m)) (hK : GK w) :
    Calls Tryd.prog 7 #[tnV x, tnV y] w fun e w' => e = .returned (.bool true) ∧ Below w.heap.size w w' := by
  have HM : Hid (∀ W, Below w.heap.size w W → W.cell? ⟨1, 0, none⟩ = some (.int .i64 m)) := fun W b => mx_below hm b
  have HGK : Hid (∀ W, Below w.heap.size w W → GK W) := fun W b => hK.below b
  have H1 : Hid (∀ W, Below w.heap.size w W → _) := fun W b => mint_any x hx.1 hx.2 W (HGK.out W b)
  have H2 : Hid (∀ W, Below w.heap.size w W → _) := fun W b => mint_any y hy.1 hy.2 W (HGK.out W b)
  have H3 : Hid (∀ W, Below w.heap.size w W → _) := fun W b => lives_any m W (HM.out W b) (HGK.out W b)
  have H4 : Hid (∀ s : ByteArray, s.size < 4294967281 → ∀ (W : World) g, Below w.heap.size w W → W.heap[g]? = some (Obj.cells (two x y) 24 (0, 0)) → _) := fun s hs W g b q => verify_any (some ⟨g, 0, none⟩) 2 W.heap.size [x, y] s W (ta_two q) (Nat.le_refl _) (by simp) (z_two hx hy) hs m (HM.out W b) (HGK.out W b)
  have H5 : Hid (∀ s : ByteArray, s.size < 4294967281 → ∀ W g, Below w.heap.size w W → TnB W g x → _) := fun s hs W g b q => verify_any (some ⟨g, 0, none⟩) 1 W.heap.size [x] s W (ta_one q) (Nat.le_refl _) (by simp) (z_one hx) hs m (HM.out W b) (HGK.out W b)
  simp only [List.length_cons, List.length_nil, Nat.zero_add, Nat.reduceAdd] at H4 H5
  clear hm hK hx hy
  obtain ⟨W0, hW0⟩ : ∃ W0, (w.alloc (.cells (tnA x) 24)).alloc (.cells (tnA y) 24) = W0 := ⟨_, rfl⟩
  have HB0 : Hid (Below w.heap.size w W0) := by rw [Hid, ← hW0]; exact ((Below.refl _ _).alloc (Nat.le_refl _) _).alloc (by simp) _
  have HX0 : Hid (TnB W0 w.heap.size x) := by rw [Hid, ← hW0]; exact (show TnB (w.alloc (.cells (tnA x) 24)) w.heap.size x from block_alloc_at _ _).below ((Below.refl _ _).alloc (Nat.le_refl _) _)
  have HY0 : Hid (TnB W0 (w.heap.size + 1) y) := by
    have := block_alloc_at (w.alloc (.cells (tnA x) 24)) (.cells (tnA y) 24)
    rw [hW0, World.size_alloc] at this
    exact this
  obtain ⟨c0, c1, c2⟩ := HX0.out.cells
  obtain ⟨d0, d1, d2⟩ := HY0.out.cells
  have HW0 : Hid _ := hW0
  simp only [tnA] at HW0
  clear hW0
  unfold tnV at H1 H2 ⊢
  go_enter Tryd.func7, Tryd.ntmps7
  go_upto_region 1 with fail
  rw [HW0.out]
  go_wp2_with fail
  refine (H1.out _ HB0.out).mono ?_
  rintro e w1 ⟨rfl, b1⟩
  have HB1 : Hid (Below w.heap.size w w1) := HB0.out.trans (b1.mono HB0.out.size)
  have HX1 : Hid (TnB w1 w.heap.size x) := HX0.out.below b1
  have HY1 : Hid (TnB w1 (w.heap.size + 1) y) := HY0.out.below b1
  clear b1 c0 c1 c2 d0 d1 d2
  obtain ⟨d0, d1, d2⟩ := HY1.out.cells
  go_wp2_with fail
  refine (H2.out _ HB1.out).mono ?_
  rintro e w2 ⟨rfl, b2⟩
  have HB2 : Hid (Below w.heap.size w w2) := HB1.out.trans (b2.mono HB1.out.size)
  have HX2 : Hid (TnB w2 w.heap.size x) := HX1.out.below b2
  have HY2 : Hid (TnB w2 (w.heap.size + 1) y) := HY1.out.below b2
  clear b2 d0 d1 d2
  go_wp2_with fail
  refine (H3.out _ HB2.out).mono ?_
  rintro e w3 ⟨rfl, b3⟩
  have HB3 : Hid (Below w.heap.size w w3) := HB2.out.trans (b3.mono HB2.out.size)
  have HX3 : Hid (TnB w3 w.heap.size x) := HX2.out.below b3
  have HY3 : Hid (TnB w3 (w.heap.size + 1) y) := HY2.out.below b3
  clear b3
  obtain ⟨c0, c1, c2⟩ := HX3.out.cells
  obtain ⟨d0, d1, d2⟩ := HY3.out.cells
  cases hox : okT x with
  | false =>
    rw [mintR_no hox]
    go_wp2_with fail
    go_ret
    exact ⟨rfl, HB3.out⟩
  | true =>
    rw [mintR_ok hox]
    cases hoy : okT y with
    | false =>
      rw [mintR_no hoy]
      go_wp2_with fail
      go_ret
      exact ⟨rfl, HB3.out⟩
    | true =>
      rw [mintR_ok hoy]
      by_cases hne : x.name = y.name
      · have q1 : (x.name.toList == y.name.toList) = true := toList_eq' hne
        go_wp2_with fail
        go_ret
        exact ⟨rfl, HB3.out⟩
      · have q1 : (x.name.toList == y.name.toList) = false := toList_ne hne
        have HG : Hid (goodT [x, y]) := good_two hox hoy hne
        have H41 : Hid (∀ (W : World) g, Below w.heap.size w W → W.heap[g]? = some (Obj.cells (two x y) 24 (0, 0)) → _) := fun W g b q => H4.out (credT y) (by have := credT_size hoy; omega) W g b q
        rw [ver_own HG.out (i := 1) rfl rfl, show (((1 : Nat) : Int), (0 : Int)) = (1, 0) from rfl] at H41
        have H42 : Hid (∀ (W : World) g, Below w.heap.size w W → W.heap[g]? = some (Obj.cells (two x y) 24 (0, 0)) → _) := fun W g b q => H4.out (credT x) (by have := credT_size hox; omega) W g b q
        rw [ver_own HG.out (i := 0) rfl rfl, show (((0 : Nat) : Int), (0 : Int)) = (0, 0) from rfl] at H42
        have H51 : Hid (∀ W g, Below w.heap.size w W → TnB W g x → _) := fun W g b q => H5.out (credT y) (by have := credT_size hoy; omega) W g b q
        rw [ver_no (good_one hox) (fun i t hi => by
          match i, hi with
          | 0, hi =>
            simp only [List.getElem?_cons_zero, Option.some.injEq] at hi
            subst hi
            exact cred_ne hox hoy hne)] at H51
        have q2 : ((credT x).toList != (credT y).toList) = true := by rw [bne, toList_ne (cred_ne hox hoy hne)]; rfl
        have q3 : ((credT x).toList == (credT y).toList) = false := toList_ne (cred_ne hox hoy hne)
        obtain ⟨X, hX⟩ : ∃ X, credT x = X := ⟨_, rfl⟩
        obtain ⟨Y, hY⟩ : ∃ Y, credT y = Y := ⟨_, rfl⟩
        rw [hX] at H42 q2 q3 ⊢
        rw [hY] at H41 H51 q2 q3 ⊢
        clear hX hY H4 H5 hox hoy hne HG
        obtain ⟨W4, hW4⟩ : ∃ W4, w3.alloc (.cells (two x y) 24) = W4 := ⟨_, rfl⟩
        have HB4 : Hid (Below w.heap.size w W4) := by rw [Hid, ← hW4]; exact HB3.out.alloc HB3.out.size _
        have HX4 : Hid (TnB W4 w.heap.size x) := by rw [Hid, ← hW4]; exact HX3.out.below ((Below.refl _ _).alloc (Nat.le_refl _) _)
        have HY4 : Hid (TnB W4 (w.heap.size + 1) y) := by rw [Hid, ← hW4]; exact HY3.out.below ((Below.refl _ _).alloc (Nat.le_refl _) _)
        have HT4 : Hid (W4.heap[w3.heap.size]? = some (.cells (two x y) 24 (0, 0))) := by rw [Hid, ← hW4]; exact block_alloc_at _ _
        unfold two at hW4
        go_wp2_with fail
        try rw [hW4]
        refine (H41.out _ _ HB4.out HT4.out).mono ?_
        rintro e w5 ⟨rfl, b5⟩
        have HB5 : Hid (Below w.heap.size w w5) := HB4.out.trans (b5.mono HB4.out.size)
        have HX5 : Hid (TnB w5 w.heap.size x) := HX4.out.below b5
        have HY5 : Hid (TnB w5 (w.heap.size + 1) y) := HY4.out.below b5
        clear b5 hW4 c0 c1 c2 d0 d1 d2
        obtain ⟨c0, c1, c2⟩ := HX5.out.cells
        obtain ⟨d0, d1, d2⟩ := HY5.out.cells
        obtain ⟨W6, hW6⟩ : ∃ W6, w5.alloc (.cells (two x y) 24) = W6 := ⟨_, rfl⟩
        have HB6 : Hid (Below w.heap.size w W6) := by rw [Hid, ← hW6]; exact HB5.out.alloc HB5.out.size _
        have HX6 : Hid (TnB W6 w.heap.size x) := by rw [Hid, ← hW6]; exact HX5.out.below ((Below.refl _ _).alloc (Nat.le_refl _) _)
        have HT6 : Hid (W6.heap[w5.heap.size]? = some (.cells (two x y) 24 (0, 0))) := by rw [Hid, ← hW6]; exact block_alloc_at _ _
        unfold two at hW6
        go_wp2_with fail
        try rw [hW6]
        refine (H42.out _ _ HB6.out HT6.out).mono ?_
        rintro e w7 ⟨rfl, b7⟩
        have HB7 : Hid (Below w.heap.size w w7) := HB6.out.trans (b7.mono HB6.out.size)
        have HX7 : Hid (TnB w7 w.heap.size x) := HX6.out.below b7
        clear b7 hW6 c0 c1 c2 d0 d1 d2
        obtain ⟨c0, c1, c2⟩ := HX7.out.cells
        obtain ⟨W8, hW8⟩ : ∃ W8, w7.alloc (.cells (tnA x) 24) = W8 := ⟨_, rfl⟩
        have HB8 : Hid (Below w.heap.size w W8) := by rw [Hid, ← hW8]; exact HB7.out.alloc HB7.out.size _
        have HT8 : Hid (TnB W8 w7.heap.size x) := by rw [Hid, ← hW8]; exact block_alloc_at _ _
        unfold tnA at hW8
        go_wp2_with fail
        try rw [hW8]
        refine (H51.out _ _ HB8.out HT8.out).mono ?_
        rintro e w9 ⟨rfl, b9⟩
        have HB9 : Hid (Below w.heap.size w w9) := HB8.out.trans (b9.mono HB8.out.size)
        clear b9 hW8 c0 c1 c2
        go_wp2_with fail
        go_ret
        exact ⟨rfl, HB9.out⟩
end Go.Proofs.YtedibkcempcpnaaDoor.T
