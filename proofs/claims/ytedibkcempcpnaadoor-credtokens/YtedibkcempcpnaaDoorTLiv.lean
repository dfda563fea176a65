/-
  The contract of lives.
-/
import Derived.Test.YtedibkcempcpnaaDoorTLvp
namespace Go.Proofs.YtedibkcempcpnaaDoor.T
open Go.RowKit
theorem TA.up {B B' : Nat} {w : World} {a : Option Addr} {l : List Tn} (h : TA B w a l) (k : B ≤ B') : TA B' w a l := fun j t hj => by
  obtain ⟨b, off, e, hb, r⟩ := h j t hj
  exact ⟨b, off, e, by omega, r⟩
theorem ta_one {W : World} {g : Nat} {t : Tn} (h : TnB W g t) : TA W.heap.size W (some ⟨g, 0, none⟩) [t] := fun j u hj => by
  match j, hj with
  | 0, hj =>
    simp only [List.getElem?_cons_zero, Option.some.injEq] at hj
    subst hj
    obtain ⟨c0, c1, c2⟩ := h.cells
    exact ⟨g, 0, rfl, (Array.getElem?_eq_some_iff.1 h).1, c0, c1, c2⟩
theorem sa_one {W : World} {g : Nat} {s : ByteArray} (h : W.cell? ⟨g, 0, none⟩ = some (.string s)) (hg : g < W.heap.size) : SA W.heap.size W (some ⟨g, 0, none⟩) [s] := fun j u hj => by
  match j, hj with
  | 0, hj =>
    simp only [List.getElem?_cons_zero, Option.some.injEq] at hj
    subst hj
    exact ⟨g, 0, rfl, hg, h⟩
theorem lvT_z : ∀ t ∈ [lvT], tnZ t := fun t ht => by
  rw [List.mem_singleton] at ht
  subst ht
  exact ⟨by decide, by decide⟩
set_option maxRecDepth 20000 in
set_option maxHeartbeats 4000000 in
theorem lives_any (m : Int) (w : World) (hm : w.cell? ⟨1, 0, none⟩ = some (.int .i64 m)) (hK : GK w) : Calls Tryd.prog 10 #[] w fun e w' => e = .returned (.bool true) ∧ Below w.heap.size w w' := by
  have HM : Hid (∀ W, Below w.heap.size w W → W.cell? ⟨1, 0, none⟩ = some (.int .i64 m)) := fun W b => mx_below hm b
  have HGK : Hid (∀ W, Below w.heap.size w W → GK W) := fun W b => hK.below b
  have H1 : Hid (∀ W, Below w.heap.size w W → _) := fun W b => mint_any lvT (by decide) (by decide) W (HGK.out W b)
  rw [lvT_mint] at H1
  have H2 : Hid (∀ W g h, Below w.heap.size w W → TnB W g lvT → W.cell? ⟨h, 0, none⟩ = some (.string (BearB ++ credT lvT)) → h < W.heap.size → _) := fun W g h b q1 q2 q3 => who_any (some ⟨g, 0, none⟩) 1 W.heap.size [lvT] (some ⟨h, 0, none⟩) 1 [BearB ++ credT lvT] W (ta_one q1) (sa_one q2 q3) (Nat.le_refl _) (by decide) lvT_z (by simp) (fun v hv => by
    rw [List.mem_singleton] at hv
    subst hv
    rw [ByteArray.size_append, lvT_size]
    decide) m (HM.out W b) (HGK.out W b)
  rw [lvT_who] at H2
  have H3 : Hid (∀ W g, Below w.heap.size w W → TnB W g lvT → _) := fun W g b q1 => who_any (some ⟨g, 0, none⟩) 1 W.heap.size [lvT] none 0 [] W (ta_one q1) (fun j t h => by simp at h) (Nat.le_refl _) (by decide) lvT_z (by simp) (fun v hv => by cases hv) m (HM.out W b) (HGK.out W b)
  rw [lvT_none] at H3
  have H4 : Hid (∀ W : World, _) := fun W => token_any 0 0 (by decide) (by decide) W
  have hx := lvT_size
  have hy := tokT_size 0 0
  obtain ⟨X, hX⟩ : ∃ X, credT lvT = X := ⟨_, rfl⟩
  rw [hX] at H1 H2 hx
  obtain ⟨Y, hY⟩ : ∃ Y, tokT 0 0 = Y := ⟨_, rfl⟩
  rw [hY] at H4 hy
  have HS : Hid _ := hx
  have HY : Hid _ := hy
  have hx1 : (X.size : Int) = 69 := by omega
  have hy1 : (Y.size : Int) = 22 := by omega
  have hx2 : ¬ 9223372036854775807 < 7 + X.size := by omega
  clear hX hY hm hK hx hy
  simp only [List.length_cons, List.length_nil, Nat.zero_add, tnV] at H1 H2 H3
  rw [show BearB = (⟨#[66, 101, 97, 114, 101, 114, 32]⟩ : ByteArray) from rfl] at H2
  obtain ⟨W0, hW0⟩ : ∃ W0, w.alloc (.cells (tnA lvT) 24) = W0 := ⟨_, rfl⟩
  have HB0 : Hid (Below w.heap.size w W0) := by rw [Hid, ← hW0]; exact (Below.refl _ _).alloc (Nat.le_refl _) _
  have HX0 : Hid (TnB W0 w.heap.size lvT) := by rw [Hid, ← hW0]; exact block_alloc_at _ _
  obtain ⟨c0, c1, c2⟩ := HX0.out.cells
  simp only [lvT] at c0 c1 c2 H1
  simp only [tnA, lvT] at hW0
  go_enter Tryd.func10, Tryd.ntmps10
  go_wp2_with fail
  try rw [hW0]
  refine (H1.out _ HB0.out).mono ?_
  rintro e w1 ⟨rfl, b1⟩
  have HB1 : Hid (Below w.heap.size w w1) := HB0.out.trans (b1.mono HB0.out.size)
  have HX1 : Hid (TnB w1 w.heap.size lvT) := HX0.out.below b1
  clear hW0 c0 c1 c2 b1
  obtain ⟨W2, hW2⟩ : ∃ W2, w1.alloc (.cells #[.string (⟨#[66, 101, 97, 114, 101, 114, 32]⟩ ++ X)] 9) = W2 := ⟨_, rfl⟩
  have HB2 : Hid (Below w.heap.size w W2) := by rw [Hid, ← hW2]; exact HB1.out.alloc HB1.out.size _
  have HX2 : Hid (TnB W2 w.heap.size lvT) := by rw [Hid, ← hW2]; exact HX1.out.below ((Below.refl _ _).alloc (Nat.le_refl _) _)
  have HC2 : Hid (W2.cell? ⟨w1.heap.size, 0, none⟩ = some (.string (⟨#[66, 101, 97, 114, 101, 114, 32]⟩ ++ X))) := by rw [Hid, ← hW2]; exact cell_of_block (block_alloc_at w1 _) rfl
  have HL2 : Hid (w1.heap.size < W2.heap.size) := by rw [Hid, ← hW2]; simp
  go_wp2_with fail
  try rw [hW2]
  refine (H2.out _ _ _ HB2.out HX2.out HC2.out HL2.out).mono ?_
  rintro e w3 ⟨rfl, b3⟩
  have HB3 : Hid (Below w.heap.size w w3) := HB2.out.trans (b3.mono HB2.out.size)
  have HX3 : Hid (TnB w3 w.heap.size lvT) := HX2.out.below b3
  clear hW2 b3
  go_wp2_with fail
  refine (H3.out _ _ HB3.out HX3.out).mono ?_
  rintro e w4 ⟨rfl, b4⟩
  have HB4 : Hid (Below w.heap.size w w4) := HB3.out.trans (b4.mono HB3.out.size)
  clear b4
  go_wp2_with fail
  refine (H4.out _).mono ?_
  rintro e w5 ⟨rfl, b5⟩
  have HB5 : Hid (Below w.heap.size w w5) := HB4.out.trans (b5.mono HB4.out.size)
  clear b5
  go_wp2_with fail
  go_ret
  exact ⟨rfl, HB5.out⟩
end Go.Proofs.YtedibkcempcpnaaDoor.T
