/-
  The contract of the twin's Target: some of its kinds.
-/
import Derived.Test.YtbpfggpljfpfcaaDoorQth
namespace Go.Proofs.YtbpfggpljfpfcaaDoor
open Go.RowKit
set_option maxRecDepth 20000 in
set_option maxHeartbeats 32000000 in
theorem qt_1 (yk : Int) (ya yb : List UInt8) (yf : Int) (ym : Bool) (h0 : -9223372036854775808 ≤ yf) (h1 : yf ≤ 9223372036854775807) (ht : ya.length ≤ 10000000) (hu : yb.length ≤ 10000000) (hk : yk = 1) (w : World) :
    Calls Tryd.prog 19 #[.agg #[.int .i64 yk, .string (bOf ya), .string (bOf yb), .int .i64 yf, .bool ym]] w (TgP w (tgtR ⟨yk, ya, yb, yf, ym⟩)) := by
  have HE1 : Hid (∀ W : World, _) := fun W => rescape_any (bOf ya) W (by rw [bOf_size]; omega)
  have HE2 : Hid (∀ W : World, _) := fun W => rescape_any (bOf yb) W (by rw [bOf_size]; omega)
  rw [show (bOf ya).data.toList = ya from rfl, show (⟨(escOf ya).toArray⟩ : ByteArray) = bOf (escOf ya) from rfl] at HE1
  rw [show (bOf yb).data.toList = yb from rfl, show (⟨(escOf yb).toArray⟩ : ByteArray) = bOf (escOf yb) from rfl] at HE2
  have HL1 := escOf_len ya
  have HL2 := escOf_len yb
  obtain ⟨W0, hW0⟩ : ∃ W0, w.alloc (.cells #[.int .i64 yk, .string (bOf ya), .string (bOf yb), .int .i64 yf, .bool ym] 23) = W0 := ⟨_, rfl⟩
  have HB0 : Hid (Below w.heap.size w W0) := by rw [Hid, ← hW0]; exact below_new _ _
  have HX0 : Hid (XB W0 w.heap.size ⟨yk, ya, yb, yf, ym⟩) := by rw [Hid, ← hW0]; exact block_alloc_at _ _
  have HSS : Hid (∀ W, Below W0.heap.size W0 W → W.cell? ⟨w.heap.size, 1, none⟩ = some (.string (bOf ya)) ∧ W.cell? ⟨w.heap.size, 2, none⟩ = some (.string (bOf yb))) := fun W b => by
    obtain ⟨_, x1, x2, _, _⟩ := XB.cells (XB.below HX0.out b)
    exact ⟨x1, x2⟩
  obtain ⟨x1, x2⟩ := HSS.out W0 (Below.refl _ _)
  have HBD : Hid (Below W0.heap.size W0 W0.drew) := (Below.refl _ _).drew
  have hbad : (bare ⟨1, ya, yb, yf, ym⟩ && !ym) = false ∨ 1024 < p1.length → tgtR ⟨yk, ya, yb, yf, ym⟩ = none := by subst hk; exact fun h => sel_f h
  have hgood : (bare ⟨1, ya, yb, yf, ym⟩ && !ym) = true → p1.length ≤ 1024 → tgtR ⟨yk, ya, yb, yf, ym⟩ = some (mPost, p1) := by subst hk; exact fun h hl => sel_t h hl
  obtain ⟨R, hR⟩ : ∃ R, tgtR ⟨yk, ya, yb, yf, ym⟩ = R := ⟨_, rfl⟩
  rw [hR] at hbad hgood ⊢
  subst hk
  have f0 : (bOf ([] : List UInt8)).toList = [] := by rw [ByteArray.toList_eq]; rfl
  have g0 : (bOf ([] : List UInt8)).toList.isEmpty = true := bOf_empty []
  clear hR
  go_enter Tryd.func19, Tryd.ntmps19
  go_upto_region 2 with fail
  try rw [hW0]
  clear hW0
  go_cut [7, 8] from 11 (fun s7 s8 wx => s7 = .string (bOf (escOf ya)) ∧ s8 = .string (bOf (escOf yb)) ∧ Hid (Below W0.heap.size W0 wx))
  case first =>
    go_region_held (fun W => W.cell? ⟨w.heap.size, 1, none⟩ = some (.string (bOf ya)) ∧ W.cell? ⟨w.heap.size, 2, none⟩ = some (.string (bOf yb))) (first | assumption | go_keep)
      (first
      | (go_at_call 38; with_reducible refine (HE2.out _).mono ?_; rintro e w6 ⟨rfl, b6⟩; have q6 : Below W0.heap.size W0 w6 := q5.trans (b6.mono q5.size); have hS6 := HSS.out w6 q6)
      | (go_at_call 38; with_reducible refine (HE1.out _).mono ?_; rintro e w5 ⟨rfl, b5⟩; have q5 : Below W0.heap.size W0 w5 := q6.trans (b5.mono q6.size); have hS5 := HSS.out w5 q5)
      | (go_at_call 38; with_reducible refine (HE1.out _).mono ?_; rintro e w5 ⟨rfl, b5⟩; have q5 : Below W0.heap.size W0 w5 := HBD.out.trans (b5.mono HBD.out.size); have hS5 := HSS.out w5 q5)
      | (go_at_call 38; with_reducible refine (HE2.out _).mono ?_; rintro e w6 ⟨rfl, b6⟩; have q6 : Below W0.heap.size W0 w6 := HBD.out.trans (b6.mono HBD.out.size); have hS6 := HSS.out w6 q6))
    all_goals
      go_wp2_with fail
      go_meet
      exact ⟨rfl, rfl, by first | exact q5 | exact q6⟩
  case rest =>
    obtain ⟨rfl, rfl, HBC⟩ := hcut
    have hgc : w.heap.size < wc.heap.size := Nat.lt_of_lt_of_le HX0.out.lt HBC.out.size
    obtain ⟨y0, y1, y2, y3, y4⟩ := XB.cells (XB.below HX0.out HBC.out)
    simp only at y0 y1 y2 y3 y4
    have HBW : Hid (Below w.heap.size w wc) := below_on HB0.out HBC.out
    have HXC : Hid (XB wc w.heap.size _) := XB.below HX0.out HBC.out
    clear HE1 HE2 HX0 HSS x1 x2 HBD HB0 HBC
    by_cases e1 : ya = []
    · subst e1
      by_cases e2 : yb = []
      · subst e2
        by_cases e3 : yf = 0
        · subst e3
          by_cases e4 : ym = false
          · subst e4
            have HR : Hid (R = some (mPost, p1)) := hgood rfl (by decide)
            clear hbad hgood
            go_wp2_with fail
            all_goals
              go_ret3
              exact ⟨by rw [HR.out]; rfl, by first | exact HBW.out.alloc HBW.out.size _ | exact (HBW.out.alloc HBW.out.size _).setCell (by first | exact HBW.out.size) _ | exact ((HBW.out.alloc HBW.out.size _).setCell (by first | exact HBW.out.size) _).setCell (by first | exact HBW.out.size) _ | exact (((HBW.out.alloc HBW.out.size _).setCell (by first | exact HBW.out.size) _).setCell (by first | exact HBW.out.size) _).setCell (by first | exact HBW.out.size) _ | exact ((HBW.out.alloc HBW.out.size _).drew.setCell (by first | exact HBW.out.size) _).setCell (by first | exact HBW.out.size) _ | exact (((HBW.out.alloc HBW.out.size _).drew.setCell (by first | exact HBW.out.size) _).setCell (by first | exact HBW.out.size) _).setCell (by first | exact HBW.out.size) _ | exact HBW.out | exact (HBW.out.alloc HBW.out.size _).drew | exact (HBW.out.alloc HBW.out.size _).drew.setCell (by first | exact HBW.out.size) _⟩
          · obtain rfl : ym = true := by simpa using e4
            have HR : Hid (R = none) := hbad (Or.inl (by simp [bare, *]))
            clear hbad hgood
            go_wp2_with fail
            all_goals
              go_ret3
              exact ⟨by rw [HR.out]; rfl, by first | exact HBW.out.alloc HBW.out.size _ | exact (HBW.out.alloc HBW.out.size _).setCell (by first | exact HBW.out.size) _ | exact ((HBW.out.alloc HBW.out.size _).setCell (by first | exact HBW.out.size) _).setCell (by first | exact HBW.out.size) _ | exact (((HBW.out.alloc HBW.out.size _).setCell (by first | exact HBW.out.size) _).setCell (by first | exact HBW.out.size) _).setCell (by first | exact HBW.out.size) _ | exact ((HBW.out.alloc HBW.out.size _).drew.setCell (by first | exact HBW.out.size) _).setCell (by first | exact HBW.out.size) _ | exact (((HBW.out.alloc HBW.out.size _).drew.setCell (by first | exact HBW.out.size) _).setCell (by first | exact HBW.out.size) _).setCell (by first | exact HBW.out.size) _ | exact HBW.out | exact (HBW.out.alloc HBW.out.size _).drew | exact (HBW.out.alloc HBW.out.size _).drew.setCell (by first | exact HBW.out.size) _⟩
        · have HR : Hid (R = none) := hbad (Or.inl (by simp [bare, *]))
          clear hbad hgood
          go_wp2_with fail
          all_goals
            go_ret3
            exact ⟨by rw [HR.out]; rfl, by first | exact HBW.out.alloc HBW.out.size _ | exact (HBW.out.alloc HBW.out.size _).setCell (by first | exact HBW.out.size) _ | exact ((HBW.out.alloc HBW.out.size _).setCell (by first | exact HBW.out.size) _).setCell (by first | exact HBW.out.size) _ | exact (((HBW.out.alloc HBW.out.size _).setCell (by first | exact HBW.out.size) _).setCell (by first | exact HBW.out.size) _).setCell (by first | exact HBW.out.size) _ | exact ((HBW.out.alloc HBW.out.size _).drew.setCell (by first | exact HBW.out.size) _).setCell (by first | exact HBW.out.size) _ | exact (((HBW.out.alloc HBW.out.size _).drew.setCell (by first | exact HBW.out.size) _).setCell (by first | exact HBW.out.size) _).setCell (by first | exact HBW.out.size) _ | exact HBW.out | exact (HBW.out.alloc HBW.out.size _).drew | exact (HBW.out.alloc HBW.out.size _).drew.setCell (by first | exact HBW.out.size) _⟩
      · have f2 := ne_bOf e2
        have g2 : (bOf yb).toList.isEmpty = false := nonempty_false e2
        have i2 := ne_list e2
        have HR : Hid (R = none) := hbad (Or.inl (by simp [bare, *]))
        clear hbad hgood
        go_wp2_with fail
        all_goals
          go_ret3
          exact ⟨by rw [HR.out]; rfl, by first | exact HBW.out.alloc HBW.out.size _ | exact (HBW.out.alloc HBW.out.size _).setCell (by first | exact HBW.out.size) _ | exact ((HBW.out.alloc HBW.out.size _).setCell (by first | exact HBW.out.size) _).setCell (by first | exact HBW.out.size) _ | exact (((HBW.out.alloc HBW.out.size _).setCell (by first | exact HBW.out.size) _).setCell (by first | exact HBW.out.size) _).setCell (by first | exact HBW.out.size) _ | exact ((HBW.out.alloc HBW.out.size _).drew.setCell (by first | exact HBW.out.size) _).setCell (by first | exact HBW.out.size) _ | exact (((HBW.out.alloc HBW.out.size _).drew.setCell (by first | exact HBW.out.size) _).setCell (by first | exact HBW.out.size) _).setCell (by first | exact HBW.out.size) _ | exact HBW.out | exact (HBW.out.alloc HBW.out.size _).drew | exact (HBW.out.alloc HBW.out.size _).drew.setCell (by first | exact HBW.out.size) _⟩
    · have f1 := ne_bOf e1
      have g1 : (bOf ya).toList.isEmpty = false := nonempty_false e1
      have i1 := ne_list e1
      have HR : Hid (R = none) := hbad (Or.inl (by simp [bare, *]))
      clear hbad hgood
      go_wp2_with fail
      all_goals
        go_ret3
        exact ⟨by rw [HR.out]; rfl, by first | exact HBW.out.alloc HBW.out.size _ | exact (HBW.out.alloc HBW.out.size _).setCell (by first | exact HBW.out.size) _ | exact ((HBW.out.alloc HBW.out.size _).setCell (by first | exact HBW.out.size) _).setCell (by first | exact HBW.out.size) _ | exact (((HBW.out.alloc HBW.out.size _).setCell (by first | exact HBW.out.size) _).setCell (by first | exact HBW.out.size) _).setCell (by first | exact HBW.out.size) _ | exact ((HBW.out.alloc HBW.out.size _).drew.setCell (by first | exact HBW.out.size) _).setCell (by first | exact HBW.out.size) _ | exact (((HBW.out.alloc HBW.out.size _).drew.setCell (by first | exact HBW.out.size) _).setCell (by first | exact HBW.out.size) _).setCell (by first | exact HBW.out.size) _ | exact HBW.out | exact (HBW.out.alloc HBW.out.size _).drew | exact (HBW.out.alloc HBW.out.size _).drew.setCell (by first | exact HBW.out.size) _⟩
set_option maxRecDepth 20000 in
set_option maxHeartbeats 32000000 in
theorem qt_6 (yk : Int) (ya yb : List UInt8) (yf : Int) (ym : Bool) (h0 : -9223372036854775808 ≤ yf) (h1 : yf ≤ 9223372036854775807) (ht : ya.length ≤ 10000000) (hu : yb.length ≤ 10000000) (hk : yk = 6) (w : World) :
    Calls Tryd.prog 19 #[.agg #[.int .i64 yk, .string (bOf ya), .string (bOf yb), .int .i64 yf, .bool ym]] w (TgP w (tgtR ⟨yk, ya, yb, yf, ym⟩)) := by
  have HE1 : Hid (∀ W : World, _) := fun W => rescape_any (bOf ya) W (by rw [bOf_size]; omega)
  have HE2 : Hid (∀ W : World, _) := fun W => rescape_any (bOf yb) W (by rw [bOf_size]; omega)
  rw [show (bOf ya).data.toList = ya from rfl, show (⟨(escOf ya).toArray⟩ : ByteArray) = bOf (escOf ya) from rfl] at HE1
  rw [show (bOf yb).data.toList = yb from rfl, show (⟨(escOf yb).toArray⟩ : ByteArray) = bOf (escOf yb) from rfl] at HE2
  have HL1 := escOf_len ya
  have HL2 := escOf_len yb
  obtain ⟨W0, hW0⟩ : ∃ W0, w.alloc (.cells #[.int .i64 yk, .string (bOf ya), .string (bOf yb), .int .i64 yf, .bool ym] 23) = W0 := ⟨_, rfl⟩
  have HB0 : Hid (Below w.heap.size w W0) := by rw [Hid, ← hW0]; exact below_new _ _
  have HX0 : Hid (XB W0 w.heap.size ⟨yk, ya, yb, yf, ym⟩) := by rw [Hid, ← hW0]; exact block_alloc_at _ _
  have HSS : Hid (∀ W, Below W0.heap.size W0 W → W.cell? ⟨w.heap.size, 1, none⟩ = some (.string (bOf ya)) ∧ W.cell? ⟨w.heap.size, 2, none⟩ = some (.string (bOf yb))) := fun W b => by
    obtain ⟨_, x1, x2, _, _⟩ := XB.cells (XB.below HX0.out b)
    exact ⟨x1, x2⟩
  obtain ⟨x1, x2⟩ := HSS.out W0 (Below.refl _ _)
  have HBD : Hid (Below W0.heap.size W0 W0.drew) := (Below.refl _ _).drew
  have hbad : (bare ⟨6, ya, yb, yf, ym⟩ && !ym) = false ∨ 1024 < p1.length → tgtR ⟨yk, ya, yb, yf, ym⟩ = none := by subst hk; exact fun h => sel_f h
  have hgood : (bare ⟨6, ya, yb, yf, ym⟩ && !ym) = true → p1.length ≤ 1024 → tgtR ⟨yk, ya, yb, yf, ym⟩ = some (mDel, p1) := by subst hk; exact fun h hl => sel_t h hl
  obtain ⟨R, hR⟩ : ∃ R, tgtR ⟨yk, ya, yb, yf, ym⟩ = R := ⟨_, rfl⟩
  rw [hR] at hbad hgood ⊢
  subst hk
  have f0 : (bOf ([] : List UInt8)).toList = [] := by rw [ByteArray.toList_eq]; rfl
  have g0 : (bOf ([] : List UInt8)).toList.isEmpty = true := bOf_empty []
  clear hR
  go_enter Tryd.func19, Tryd.ntmps19
  go_upto_region 2 with fail
  try rw [hW0]
  clear hW0
  go_cut [7, 8] from 11 (fun s7 s8 wx => s7 = .string (bOf (escOf ya)) ∧ s8 = .string (bOf (escOf yb)) ∧ Hid (Below W0.heap.size W0 wx))
  case first =>
    go_region_held (fun W => W.cell? ⟨w.heap.size, 1, none⟩ = some (.string (bOf ya)) ∧ W.cell? ⟨w.heap.size, 2, none⟩ = some (.string (bOf yb))) (first | assumption | go_keep)
      (first
      | (go_at_call 38; with_reducible refine (HE2.out _).mono ?_; rintro e w6 ⟨rfl, b6⟩; have q6 : Below W0.heap.size W0 w6 := q5.trans (b6.mono q5.size); have hS6 := HSS.out w6 q6)
      | (go_at_call 38; with_reducible refine (HE1.out _).mono ?_; rintro e w5 ⟨rfl, b5⟩; have q5 : Below W0.heap.size W0 w5 := q6.trans (b5.mono q6.size); have hS5 := HSS.out w5 q5)
      | (go_at_call 38; with_reducible refine (HE1.out _).mono ?_; rintro e w5 ⟨rfl, b5⟩; have q5 : Below W0.heap.size W0 w5 := HBD.out.trans (b5.mono HBD.out.size); have hS5 := HSS.out w5 q5)
      | (go_at_call 38; with_reducible refine (HE2.out _).mono ?_; rintro e w6 ⟨rfl, b6⟩; have q6 : Below W0.heap.size W0 w6 := HBD.out.trans (b6.mono HBD.out.size); have hS6 := HSS.out w6 q6))
    all_goals
      go_wp2_with fail
      go_meet
      exact ⟨rfl, rfl, by first | exact q5 | exact q6⟩
  case rest =>
    obtain ⟨rfl, rfl, HBC⟩ := hcut
    have hgc : w.heap.size < wc.heap.size := Nat.lt_of_lt_of_le HX0.out.lt HBC.out.size
    obtain ⟨y0, y1, y2, y3, y4⟩ := XB.cells (XB.below HX0.out HBC.out)
    simp only at y0 y1 y2 y3 y4
    have HBW : Hid (Below w.heap.size w wc) := below_on HB0.out HBC.out
    have HXC : Hid (XB wc w.heap.size _) := XB.below HX0.out HBC.out
    clear HE1 HE2 HX0 HSS x1 x2 HBD HB0 HBC
    by_cases e1 : ya = []
    · subst e1
      by_cases e2 : yb = []
      · subst e2
        by_cases e3 : yf = 0
        · subst e3
          by_cases e4 : ym = false
          · subst e4
            have HR : Hid (R = some (mDel, p1)) := hgood rfl (by decide)
            clear hbad hgood
            go_wp2_with fail
            all_goals
              go_ret3
              exact ⟨by rw [HR.out]; rfl, by first | exact HBW.out.alloc HBW.out.size _ | exact (HBW.out.alloc HBW.out.size _).setCell (by first | exact HBW.out.size) _ | exact ((HBW.out.alloc HBW.out.size _).setCell (by first | exact HBW.out.size) _).setCell (by first | exact HBW.out.size) _ | exact (((HBW.out.alloc HBW.out.size _).setCell (by first | exact HBW.out.size) _).setCell (by first | exact HBW.out.size) _).setCell (by first | exact HBW.out.size) _ | exact ((HBW.out.alloc HBW.out.size _).drew.setCell (by first | exact HBW.out.size) _).setCell (by first | exact HBW.out.size) _ | exact (((HBW.out.alloc HBW.out.size _).drew.setCell (by first | exact HBW.out.size) _).setCell (by first | exact HBW.out.size) _).setCell (by first | exact HBW.out.size) _ | exact HBW.out | exact (HBW.out.alloc HBW.out.size _).drew | exact (HBW.out.alloc HBW.out.size _).drew.setCell (by first | exact HBW.out.size) _⟩
          · obtain rfl : ym = true := by simpa using e4
            have HR : Hid (R = none) := hbad (Or.inl (by simp [bare, *]))
            clear hbad hgood
            go_wp2_with fail
            all_goals
              go_ret3
              exact ⟨by rw [HR.out]; rfl, by first | exact HBW.out.alloc HBW.out.size _ | exact (HBW.out.alloc HBW.out.size _).setCell (by first | exact HBW.out.size) _ | exact ((HBW.out.alloc HBW.out.size _).setCell (by first | exact HBW.out.size) _).setCell (by first | exact HBW.out.size) _ | exact (((HBW.out.alloc HBW.out.size _).setCell (by first | exact HBW.out.size) _).setCell (by first | exact HBW.out.size) _).setCell (by first | exact HBW.out.size) _ | exact ((HBW.out.alloc HBW.out.size _).drew.setCell (by first | exact HBW.out.size) _).setCell (by first | exact HBW.out.size) _ | exact (((HBW.out.alloc HBW.out.size _).drew.setCell (by first | exact HBW.out.size) _).setCell (by first | exact HBW.out.size) _).setCell (by first | exact HBW.out.size) _ | exact HBW.out | exact (HBW.out.alloc HBW.out.size _).drew | exact (HBW.out.alloc HBW.out.size _).drew.setCell (by first | exact HBW.out.size) _⟩
        · have HR : Hid (R = none) := hbad (Or.inl (by simp [bare, *]))
          clear hbad hgood
          go_wp2_with fail
          all_goals
            go_ret3
            exact ⟨by rw [HR.out]; rfl, by first | exact HBW.out.alloc HBW.out.size _ | exact (HBW.out.alloc HBW.out.size _).setCell (by first | exact HBW.out.size) _ | exact ((HBW.out.alloc HBW.out.size _).setCell (by first | exact HBW.out.size) _).setCell (by first | exact HBW.out.size) _ | exact (((HBW.out.alloc HBW.out.size _).setCell (by first | exact HBW.out.size) _).setCell (by first | exact HBW.out.size) _).setCell (by first | exact HBW.out.size) _ | exact ((HBW.out.alloc HBW.out.size _).drew.setCell (by first | exact HBW.out.size) _).setCell (by first | exact HBW.out.size) _ | exact (((HBW.out.alloc HBW.out.size _).drew.setCell (by first | exact HBW.out.size) _).setCell (by first | exact HBW.out.size) _).setCell (by first | exact HBW.out.size) _ | exact HBW.out | exact (HBW.out.alloc HBW.out.size _).drew | exact (HBW.out.alloc HBW.out.size _).drew.setCell (by first | exact HBW.out.size) _⟩
      · have f2 := ne_bOf e2
        have g2 : (bOf yb).toList.isEmpty = false := nonempty_false e2
        have i2 := ne_list e2
        have HR : Hid (R = none) := hbad (Or.inl (by simp [bare, *]))
        clear hbad hgood
        go_wp2_with fail
        all_goals
          go_ret3
          exact ⟨by rw [HR.out]; rfl, by first | exact HBW.out.alloc HBW.out.size _ | exact (HBW.out.alloc HBW.out.size _).setCell (by first | exact HBW.out.size) _ | exact ((HBW.out.alloc HBW.out.size _).setCell (by first | exact HBW.out.size) _).setCell (by first | exact HBW.out.size) _ | exact (((HBW.out.alloc HBW.out.size _).setCell (by first | exact HBW.out.size) _).setCell (by first | exact HBW.out.size) _).setCell (by first | exact HBW.out.size) _ | exact ((HBW.out.alloc HBW.out.size _).drew.setCell (by first | exact HBW.out.size) _).setCell (by first | exact HBW.out.size) _ | exact (((HBW.out.alloc HBW.out.size _).drew.setCell (by first | exact HBW.out.size) _).setCell (by first | exact HBW.out.size) _).setCell (by first | exact HBW.out.size) _ | exact HBW.out | exact (HBW.out.alloc HBW.out.size _).drew | exact (HBW.out.alloc HBW.out.size _).drew.setCell (by first | exact HBW.out.size) _⟩
    · have f1 := ne_bOf e1
      have g1 : (bOf ya).toList.isEmpty = false := nonempty_false e1
      have i1 := ne_list e1
      have HR : Hid (R = none) := hbad (Or.inl (by simp [bare, *]))
      clear hbad hgood
      go_wp2_with fail
      all_goals
        go_ret3
        exact ⟨by rw [HR.out]; rfl, by first | exact HBW.out.alloc HBW.out.size _ | exact (HBW.out.alloc HBW.out.size _).setCell (by first | exact HBW.out.size) _ | exact ((HBW.out.alloc HBW.out.size _).setCell (by first | exact HBW.out.size) _).setCell (by first | exact HBW.out.size) _ | exact (((HBW.out.alloc HBW.out.size _).setCell (by first | exact HBW.out.size) _).setCell (by first | exact HBW.out.size) _).setCell (by first | exact HBW.out.size) _ | exact ((HBW.out.alloc HBW.out.size _).drew.setCell (by first | exact HBW.out.size) _).setCell (by first | exact HBW.out.size) _ | exact (((HBW.out.alloc HBW.out.size _).drew.setCell (by first | exact HBW.out.size) _).setCell (by first | exact HBW.out.size) _).setCell (by first | exact HBW.out.size) _ | exact HBW.out | exact (HBW.out.alloc HBW.out.size _).drew | exact (HBW.out.alloc HBW.out.size _).drew.setCell (by first | exact HBW.out.size) _⟩
set_option maxRecDepth 20000 in
set_option maxHeartbeats 32000000 in
theorem qt_9 (yk : Int) (ya yb : List UInt8) (yf : Int) (ym : Bool) (h0 : -9223372036854775808 ≤ yf) (h1 : yf ≤ 9223372036854775807) (ht : ya.length ≤ 10000000) (hu : yb.length ≤ 10000000) (hk : yk = 9) (w : World) :
    Calls Tryd.prog 19 #[.agg #[.int .i64 yk, .string (bOf ya), .string (bOf yb), .int .i64 yf, .bool ym]] w (TgP w (tgtR ⟨yk, ya, yb, yf, ym⟩)) := by
  have HE1 : Hid (∀ W : World, _) := fun W => rescape_any (bOf ya) W (by rw [bOf_size]; omega)
  have HE2 : Hid (∀ W : World, _) := fun W => rescape_any (bOf yb) W (by rw [bOf_size]; omega)
  rw [show (bOf ya).data.toList = ya from rfl, show (⟨(escOf ya).toArray⟩ : ByteArray) = bOf (escOf ya) from rfl] at HE1
  rw [show (bOf yb).data.toList = yb from rfl, show (⟨(escOf yb).toArray⟩ : ByteArray) = bOf (escOf yb) from rfl] at HE2
  have HL1 := escOf_len ya
  have HL2 := escOf_len yb
  obtain ⟨W0, hW0⟩ : ∃ W0, w.alloc (.cells #[.int .i64 yk, .string (bOf ya), .string (bOf yb), .int .i64 yf, .bool ym] 23) = W0 := ⟨_, rfl⟩
  have HB0 : Hid (Below w.heap.size w W0) := by rw [Hid, ← hW0]; exact below_new _ _
  have HX0 : Hid (XB W0 w.heap.size ⟨yk, ya, yb, yf, ym⟩) := by rw [Hid, ← hW0]; exact block_alloc_at _ _
  have HSS : Hid (∀ W, Below W0.heap.size W0 W → W.cell? ⟨w.heap.size, 1, none⟩ = some (.string (bOf ya)) ∧ W.cell? ⟨w.heap.size, 2, none⟩ = some (.string (bOf yb))) := fun W b => by
    obtain ⟨_, x1, x2, _, _⟩ := XB.cells (XB.below HX0.out b)
    exact ⟨x1, x2⟩
  obtain ⟨x1, x2⟩ := HSS.out W0 (Below.refl _ _)
  have HBD : Hid (Below W0.heap.size W0 W0.drew) := (Below.refl _ _).drew
  have hbad : (bare ⟨9, ya, yb, yf, ym⟩ && !ym) = false ∨ 1024 < pSt.length → tgtR ⟨yk, ya, yb, yf, ym⟩ = none := by subst hk; exact fun h => sel_f h
  have hgood : (bare ⟨9, ya, yb, yf, ym⟩ && !ym) = true → pSt.length ≤ 1024 → tgtR ⟨yk, ya, yb, yf, ym⟩ = some (mGet, pSt) := by subst hk; exact fun h hl => sel_t h hl
  obtain ⟨R, hR⟩ : ∃ R, tgtR ⟨yk, ya, yb, yf, ym⟩ = R := ⟨_, rfl⟩
  rw [hR] at hbad hgood ⊢
  subst hk
  have f0 : (bOf ([] : List UInt8)).toList = [] := by rw [ByteArray.toList_eq]; rfl
  have g0 : (bOf ([] : List UInt8)).toList.isEmpty = true := bOf_empty []
  clear hR
  go_enter Tryd.func19, Tryd.ntmps19
  go_upto_region 2 with fail
  try rw [hW0]
  clear hW0
  go_cut [7, 8] from 11 (fun s7 s8 wx => s7 = .string (bOf (escOf ya)) ∧ s8 = .string (bOf (escOf yb)) ∧ Hid (Below W0.heap.size W0 wx))
  case first =>
    go_region_held (fun W => W.cell? ⟨w.heap.size, 1, none⟩ = some (.string (bOf ya)) ∧ W.cell? ⟨w.heap.size, 2, none⟩ = some (.string (bOf yb))) (first | assumption | go_keep)
      (first
      | (go_at_call 38; with_reducible refine (HE2.out _).mono ?_; rintro e w6 ⟨rfl, b6⟩; have q6 : Below W0.heap.size W0 w6 := q5.trans (b6.mono q5.size); have hS6 := HSS.out w6 q6)
      | (go_at_call 38; with_reducible refine (HE1.out _).mono ?_; rintro e w5 ⟨rfl, b5⟩; have q5 : Below W0.heap.size W0 w5 := q6.trans (b5.mono q6.size); have hS5 := HSS.out w5 q5)
      | (go_at_call 38; with_reducible refine (HE1.out _).mono ?_; rintro e w5 ⟨rfl, b5⟩; have q5 : Below W0.heap.size W0 w5 := HBD.out.trans (b5.mono HBD.out.size); have hS5 := HSS.out w5 q5)
      | (go_at_call 38; with_reducible refine (HE2.out _).mono ?_; rintro e w6 ⟨rfl, b6⟩; have q6 : Below W0.heap.size W0 w6 := HBD.out.trans (b6.mono HBD.out.size); have hS6 := HSS.out w6 q6))
    all_goals
      go_wp2_with fail
      go_meet
      exact ⟨rfl, rfl, by first | exact q5 | exact q6⟩
  case rest =>
    obtain ⟨rfl, rfl, HBC⟩ := hcut
    have hgc : w.heap.size < wc.heap.size := Nat.lt_of_lt_of_le HX0.out.lt HBC.out.size
    obtain ⟨y0, y1, y2, y3, y4⟩ := XB.cells (XB.below HX0.out HBC.out)
    simp only at y0 y1 y2 y3 y4
    have HBW : Hid (Below w.heap.size w wc) := below_on HB0.out HBC.out
    have HXC : Hid (XB wc w.heap.size _) := XB.below HX0.out HBC.out
    clear HE1 HE2 HX0 HSS x1 x2 HBD HB0 HBC
    by_cases e1 : ya = []
    · subst e1
      by_cases e2 : yb = []
      · subst e2
        by_cases e3 : yf = 0
        · subst e3
          by_cases e4 : ym = false
          · subst e4
            have HR : Hid (R = some (mGet, pSt)) := hgood rfl (by decide)
            clear hbad hgood
            go_wp2_with fail
            all_goals
              go_ret3
              exact ⟨by rw [HR.out]; rfl, by first | exact HBW.out.alloc HBW.out.size _ | exact (HBW.out.alloc HBW.out.size _).setCell (by first | exact HBW.out.size) _ | exact ((HBW.out.alloc HBW.out.size _).setCell (by first | exact HBW.out.size) _).setCell (by first | exact HBW.out.size) _ | exact (((HBW.out.alloc HBW.out.size _).setCell (by first | exact HBW.out.size) _).setCell (by first | exact HBW.out.size) _).setCell (by first | exact HBW.out.size) _ | exact ((HBW.out.alloc HBW.out.size _).drew.setCell (by first | exact HBW.out.size) _).setCell (by first | exact HBW.out.size) _ | exact (((HBW.out.alloc HBW.out.size _).drew.setCell (by first | exact HBW.out.size) _).setCell (by first | exact HBW.out.size) _).setCell (by first | exact HBW.out.size) _ | exact HBW.out | exact (HBW.out.alloc HBW.out.size _).drew | exact (HBW.out.alloc HBW.out.size _).drew.setCell (by first | exact HBW.out.size) _⟩
          · obtain rfl : ym = true := by simpa using e4
            have HR : Hid (R = none) := hbad (Or.inl (by simp [bare, *]))
            clear hbad hgood
            go_wp2_with fail
            all_goals
              go_ret3
              exact ⟨by rw [HR.out]; rfl, by first | exact HBW.out.alloc HBW.out.size _ | exact (HBW.out.alloc HBW.out.size _).setCell (by first | exact HBW.out.size) _ | exact ((HBW.out.alloc HBW.out.size _).setCell (by first | exact HBW.out.size) _).setCell (by first | exact HBW.out.size) _ | exact (((HBW.out.alloc HBW.out.size _).setCell (by first | exact HBW.out.size) _).setCell (by first | exact HBW.out.size) _).setCell (by first | exact HBW.out.size) _ | exact ((HBW.out.alloc HBW.out.size _).drew.setCell (by first | exact HBW.out.size) _).setCell (by first | exact HBW.out.size) _ | exact (((HBW.out.alloc HBW.out.size _).drew.setCell (by first | exact HBW.out.size) _).setCell (by first | exact HBW.out.size) _).setCell (by first | exact HBW.out.size) _ | exact HBW.out | exact (HBW.out.alloc HBW.out.size _).drew | exact (HBW.out.alloc HBW.out.size _).drew.setCell (by first | exact HBW.out.size) _⟩
        · have HR : Hid (R = none) := hbad (Or.inl (by simp [bare, *]))
          clear hbad hgood
          go_wp2_with fail
          all_goals
            go_ret3
            exact ⟨by rw [HR.out]; rfl, by first | exact HBW.out.alloc HBW.out.size _ | exact (HBW.out.alloc HBW.out.size _).setCell (by first | exact HBW.out.size) _ | exact ((HBW.out.alloc HBW.out.size _).setCell (by first | exact HBW.out.size) _).setCell (by first | exact HBW.out.size) _ | exact (((HBW.out.alloc HBW.out.size _).setCell (by first | exact HBW.out.size) _).setCell (by first | exact HBW.out.size) _).setCell (by first | exact HBW.out.size) _ | exact ((HBW.out.alloc HBW.out.size _).drew.setCell (by first | exact HBW.out.size) _).setCell (by first | exact HBW.out.size) _ | exact (((HBW.out.alloc HBW.out.size _).drew.setCell (by first | exact HBW.out.size) _).setCell (by first | exact HBW.out.size) _).setCell (by first | exact HBW.out.size) _ | exact HBW.out | exact (HBW.out.alloc HBW.out.size _).drew | exact (HBW.out.alloc HBW.out.size _).drew.setCell (by first | exact HBW.out.size) _⟩
      · have f2 := ne_bOf e2
        have g2 : (bOf yb).toList.isEmpty = false := nonempty_false e2
        have i2 := ne_list e2
        have HR : Hid (R = none) := hbad (Or.inl (by simp [bare, *]))
        clear hbad hgood
        go_wp2_with fail
        all_goals
          go_ret3
          exact ⟨by rw [HR.out]; rfl, by first | exact HBW.out.alloc HBW.out.size _ | exact (HBW.out.alloc HBW.out.size _).setCell (by first | exact HBW.out.size) _ | exact ((HBW.out.alloc HBW.out.size _).setCell (by first | exact HBW.out.size) _).setCell (by first | exact HBW.out.size) _ | exact (((HBW.out.alloc HBW.out.size _).setCell (by first | exact HBW.out.size) _).setCell (by first | exact HBW.out.size) _).setCell (by first | exact HBW.out.size) _ | exact ((HBW.out.alloc HBW.out.size _).drew.setCell (by first | exact HBW.out.size) _).setCell (by first | exact HBW.out.size) _ | exact (((HBW.out.alloc HBW.out.size _).drew.setCell (by first | exact HBW.out.size) _).setCell (by first | exact HBW.out.size) _).setCell (by first | exact HBW.out.size) _ | exact HBW.out | exact (HBW.out.alloc HBW.out.size _).drew | exact (HBW.out.alloc HBW.out.size _).drew.setCell (by first | exact HBW.out.size) _⟩
    · have f1 := ne_bOf e1
      have g1 : (bOf ya).toList.isEmpty = false := nonempty_false e1
      have i1 := ne_list e1
      have HR : Hid (R = none) := hbad (Or.inl (by simp [bare, *]))
      clear hbad hgood
      go_wp2_with fail
      all_goals
        go_ret3
        exact ⟨by rw [HR.out]; rfl, by first | exact HBW.out.alloc HBW.out.size _ | exact (HBW.out.alloc HBW.out.size _).setCell (by first | exact HBW.out.size) _ | exact ((HBW.out.alloc HBW.out.size _).setCell (by first | exact HBW.out.size) _).setCell (by first | exact HBW.out.size) _ | exact (((HBW.out.alloc HBW.out.size _).setCell (by first | exact HBW.out.size) _).setCell (by first | exact HBW.out.size) _).setCell (by first | exact HBW.out.size) _ | exact ((HBW.out.alloc HBW.out.size _).drew.setCell (by first | exact HBW.out.size) _).setCell (by first | exact HBW.out.size) _ | exact (((HBW.out.alloc HBW.out.size _).drew.setCell (by first | exact HBW.out.size) _).setCell (by first | exact HBW.out.size) _).setCell (by first | exact HBW.out.size) _ | exact HBW.out | exact (HBW.out.alloc HBW.out.size _).drew | exact (HBW.out.alloc HBW.out.size _).drew.setCell (by first | exact HBW.out.size) _⟩
end Go.Proofs.YtbpfggpljfpfcaaDoor
