/-
  The contract of the twin's Set.
-/
import Derived.Test.YtimabpfahhbadaaDoorQmy
import Derived.Test.YtimabpfahhbadaaDoorQst0
namespace Go.Proofs.YtimabpfahhbadaaDoor
open Go.RowKit
set_option maxRecDepth 20000 in
set_option maxHeartbeats 32000000 in
theorem qset_any (c : Ck) (hz : ckZ 1000000000 c) (w : World) : Calls Tryd.prog 17 #[ckV c] w fun e w' => e = .returned (.tuple #[.string (setR c).1, .int .i64 (setR c).2]) ∧ Below w.heap.size w w' := by
  have H1 : Hid (∀ W : World, _) := fun W => qmay_any c hz W
  have HG : Hid (mayR c = true → setR c = (qs5 c, 0)) := fun h => by rw [setR_good h, qs5_eq c (may_parts h).2.2.2.1.1]
  have HF : Hid (mayR c = false → setR c = (⟨#[]⟩, 190)) := setR_bad
  have H2 : Hid (mayR c = true → ∀ W : World, _) := fun h W => qnum_any (may_parts h).2.2.2.1.1 (may_parts h).2.2.2.1.2 W
  have HNZ : Hid (mayR c = true → (numB c.age.toNat).size ≤ 10) := fun h => numB_size (by have := (may_parts h).2.2.2.1; omega)
  obtain ⟨T, hT⟩ : ∃ T, setR c = T := ⟨_, rfl⟩
  rw [hT] at HG HF ⊢
  obtain ⟨my, hmy⟩ : ∃ my, mayR c = my := ⟨_, rfl⟩
  rw [hmy] at H1 HG HF H2 HNZ
  clear hT hmy
  obtain ⟨W0, hW0⟩ : ∃ W0, w.alloc (.cells (ckA c) 37) = W0 := ⟨_, rfl⟩
  have HB0 : Hid (Below w.heap.size w W0) := by rw [Hid, ← hW0]; exact (Below.refl _ _).alloc (Nat.le_refl _) _
  have HX0 : Hid (W0.heap[w.heap.size]? = some (.cells (ckA c) 37 (0, 0))) := by rw [Hid, ← hW0]; exact block_alloc_at _ _
  obtain ⟨c0, c1, c2, c3, c4, c5, c6, c7⟩ := ck_cells HX0.out
  obtain ⟨z0, z1, z2, z3⟩ := hz
  unfold ckA at hW0
  unfold ckV
  go_enter Tryd.func17, Tryd.ntmps17
  go_wp2_with fail
  try rw [hW0]
  refine (H1.out _).mono ?_
  rintro e w1 ⟨rfl, b1⟩
  have HB1 : Hid (Below w.heap.size w w1) := HB0.out.trans (b1.mono HB0.out.size)
  have HX1 : Hid (w1.heap[w.heap.size]? = some (.cells (ckA c) 37 (0, 0))) := below_old HX0.out b1
  clear hW0 c0 c1 c2 c3 c4 c5 c6 c7 H1 b1
  obtain ⟨c0, c1, c2, c3, c4, c5, c6, c7⟩ := ck_cells HX1.out
  cases my with
  | false =>
    have HR : Hid (T = (⟨#[]⟩, 190)) := HF.out rfl
    go_wp2_with fail
    go_ret2
    exact ⟨by rw [HR.out]; rfl, HB1.out⟩
  | true =>
    have HR : Hid (T = (qs5 c, 0)) := HG.out rfl
    have H3 : Hid (∀ W : World, _) := fun W => H2.out rfl W
    have nz := HNZ.out rfl
    clear HG HF H2 HNZ
    obtain ⟨nm, vl, pa, ag, hs, hh, sc, sm⟩ := c
    simp only at c0 c1 c2 c3 c4 c5 c6 c7 z0 z1 z2 z3 H3 nz
    have e0 := isEmpty_size pa
    have e1 := isEmpty_size sm
    obtain ⟨bp, hbp⟩ : ∃ bp, decide (pa.size = 0) = bp := ⟨_, rfl⟩
    obtain ⟨bm, hbm⟩ : ∃ bm, decide (sm.size = 0) = bm := ⟨_, rfl⟩
    rw [hbp] at e0
    rw [hbm] at e1
    have hk0 : hasK ⟨nm, vl, pa, ag, hs, hh, sc, sm⟩ 0 = !bp := by rw [← hbp]; rfl
    have hk4 : hasK ⟨nm, vl, pa, ag, hs, hh, sc, sm⟩ 4 = !bm := by rw [← hbm]; rfl
    have HRR : Hid (T.1 = qs5 ⟨nm, vl, pa, ag, hs, hh, sc, sm⟩ ∧ T.2 = 0) := by rw [Hid, HR.out]; exact ⟨rfl, rfl⟩
    obtain ⟨t1, t2⟩ := T
    simp only at HRR
    have HK0 : Hid _ := hk0
    have HK4 : Hid _ := hk4
    clear hbp hbm hk0 hk4 HR
    dsimp only
    cases bp <;> cases bm <;> cases hs <;> cases hh <;> cases sc
    all_goals
      have HV := HRR.out
      rw [qs5, HK4.out, qs4, qs3, qs2, qs1, HK0.out] at HV
      simp only [hasK, Bool.not_true, Bool.not_false, cond_true, cond_false, qs0] at HV
      have HVV : Hid _ := HV
      clear HV HRR HK0 HK4
      go_wp2_with (first | (go_at_call 35; refine (H3.out _).mono ?_; rintro e w2 ⟨rfl, b2⟩; have c5' := (ck_cells (below_old HX1.out b2)).2.2.2.2.2.1; have c6' := (ck_cells (below_old HX1.out b2)).2.2.2.2.2.2.1; have c7' := (ck_cells (below_old HX1.out b2)).2.2.2.2.2.2.2))
      all_goals
        first
          | (exfalso; omega)
          | (go_ret2
             exact ⟨by rw [HVV.out.1, HVV.out.2]; rfl, by first | exact HB1.out | exact HB1.out.trans (b2.mono HB1.out.size)⟩)
end Go.Proofs.YtimabpfahhbadaaDoor
