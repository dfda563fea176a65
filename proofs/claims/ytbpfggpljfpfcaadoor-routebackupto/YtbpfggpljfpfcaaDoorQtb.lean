/-
  The contract of the twin's Target: some of its kinds.
-/
import Derived.Test.YtbpfggpljfpfcaaDoorQth
namespace Go.Proofs.YtbpfggpljfpfcaaDoor
open Go.RowKit
set_option maxRecDepth 20000 in
set_option maxHeartbeats 32000000 in
theorem qt_2t (yk : Int) (ya yb : List UInt8) (yf : Int) (ym : Bool) (h0 : -9223372036854775808 ≤ yf) (h1 : yf ≤ 9223372036854775807) (ht : ya.length ≤ 10000000) (hu : yb.length ≤ 10000000) (hk : yk = 2) (hm : ym = true) (w : World) :
    Calls Tryd.prog 19 #[.agg #[.int .i64 yk, .string (bOf ya), .string (bOf yb), .int .i64 yf, .bool ym]] w (TgP w (tgtR ⟨yk, ya, yb, yf, ym⟩)) := by
  have HE1 : Hid (∀ W : World, _) := fun W => rescape_any (bOf ya) W (by rw [bOf_size]; omega)
  have HE2 : Hid (∀ W : World, _) := fun W => rescape_any (bOf yb) W (by rw [bOf_size]; omega)
  rw [show (bOf ya).data.toList = ya from rfl, show (⟨(escOf ya).toArray⟩ : ByteArray) = bOf (escOf ya) from rfl] at HE1
  rw [show (bOf yb).data.toList = yb from rfl, show (⟨(escOf yb).toArray⟩ : ByteArray) = bOf (escOf yb) from rfl] at HE2
  have HL1 := escOf_len ya
  have HL2 := escOf_len yb
  obtain ⟨W0, hW0⟩ : ∃ W0, w.alloc (.cells #[.int .i64 yk, .string (bOf ya), .string (bOf yb), .int .i64 yf, .bool ym] 23) = W0 := ⟨_, rfl⟩
  have HB0 : Hid (Below w.heap.size w W0) := by rw [Hid, ← hW0]; exact below_new _ _
  have HX0 : Hid (XB W0 w.heap.size ⟨yk, ya, yb, yf, ym⟩) := by rw [Hid, ← hW0]; exact block_alloc_at _ _
  have HSS : Hid (∀ W, Below W0.heap.size W0 W → W.cell? ⟨w.heap.size, 1, none⟩ = some (.string (bOf ya)) ∧ W.cell? ⟨w.heap.size, 2, none⟩ = some (.string (bOf yb))) := fun W b => by
    obtain ⟨_, x1, x2, _, _⟩ := XB.cells (XB.below HX0.out b)
    exact ⟨x1, x2⟩
  obtain ⟨x1, x2⟩ := HSS.out W0 (Below.refl _ _)
  have HBD : Hid (Below W0.heap.size W0 W0.drew) := (Below.refl _ _).drew
  have hbad : (bare ⟨2, ya, yb, yf, true⟩) = false ∨ 1024 < pMe.length → tgtR ⟨yk, ya, yb, yf, ym⟩ = none := by subst hk hm; exact fun h => sel_f h
  have hgood : (bare ⟨2, ya, yb, yf, true⟩) = true → pMe.length ≤ 1024 → tgtR ⟨yk, ya, yb, yf, ym⟩ = some (mGet, pMe) := by subst hk hm; exact fun h hl => sel_t h hl
  obtain ⟨R, hR⟩ : ∃ R, tgtR ⟨yk, ya, yb, yf, ym⟩ = R := ⟨_, rfl⟩
  rw [hR] at hbad hgood ⊢
  subst hk
  subst hm
  have f0 : (bOf ([] : List UInt8)).toList = [] := by rw [ByteArray.toList_eq]; rfl
  have g0 : (bOf ([] : List UInt8)).toList.isEmpty = true := bOf_empty []
  clear hR
  have hz1 : ¬ 9223372036854775807 < 10 + (bOf (escOf ya)).size := by rw [bOf_size]; omega
  go_enter Tryd.func19, Tryd.ntmps19
  go_upto_region 2 with fail
  try rw [hW0]
  clear hW0
  go_cut [7, 8] from 11 (fun s7 s8 wx => s7 = .string (bOf (escOf ya)) ∧ s8 = .string (bOf (escOf yb)) ∧ Hid (Below W0.heap.size W0 wx))
  case first =>
    go_region_held (fun W => W.cell? ⟨w.heap.size, 1, none⟩ = some (.string (bOf ya)) ∧ W.cell? ⟨w.heap.size, 2, none⟩ = some (.string (bOf yb))) (first | assumption | go_keep)
      (first
      | (go_at_call 38; with_reducible refine (HE2.out _).mono ?_; rintro e w6 ⟨rfl, b6⟩; have q6 : Below W0.heap.size W0 w6 := q5.trans (b6.mono q5.size); have hS6 := HSS.out w6 q6)
      | (go_at_call 38; with_reducible refine (HE1.out _).mono ?_; rintro e w5 ⟨rfl, b5⟩; have q5 : Below W0.heap.size W0 w5 := q6.trans (b5.mono q6.size); have hS5 := HSS.out w5 q5)
      | (go_at_call 38; with_reducible refine (HE1.out _).mono ?_; rintro e w5 ⟨rfl, b5⟩; have q5 : Below W0.heap.size W0 w5 := HBD.out.trans (b5.mono HBD.out.size); have hS5 := HSS.out w5 q5)
      | (go_at_call 38; with_reducible refine (HE2.out _).mono ?_; rintro e w6 ⟨rfl, b6⟩; have q6 : Below W0.heap.size W0 w6 := HBD.out.trans (b6.mono HBD.out.size); have hS6 := HSS.out w6 q6))
    all_goals
      go_wp2_with fail
      go_meet
      exact ⟨rfl, rfl, by first | exact q5 | exact q6⟩
  case rest =>
    obtain ⟨rfl, rfl, HBC⟩ := hcut
    have hgc : w.heap.size < wc.heap.size := Nat.lt_of_lt_of_le HX0.out.lt HBC.out.size
    obtain ⟨y0, y1, y2, y3, y4⟩ := XB.cells (XB.below HX0.out HBC.out)
    simp only at y0 y1 y2 y3 y4
    have HBW : Hid (Below w.heap.size w wc) := below_on HB0.out HBC.out
    have HXC : Hid (XB wc w.heap.size _) := XB.below HX0.out HBC.out
    clear HE1 HE2 HX0 HSS x1 x2 HBD HB0 HBC
    by_cases e1 : ya = []
    · subst e1
      by_cases e2 : yb = []
      · subst e2
        by_cases e3 : yf = 0
        · subst e3
          have HR : Hid (R = some (mGet, pMe)) := hgood rfl (by decide)
          clear hbad hgood
          go_wp2_with fail
          go_region
          all_goals go_wp2_with fail
          all_goals
            go_ret3
            exact ⟨by rw [HR.out]; rfl, by first | exact HBW.out.alloc HBW.out.size _ | exact (HBW.out.alloc HBW.out.size _).setCell (by first | exact HBW.out.size) _ | exact ((HBW.out.alloc HBW.out.size _).setCell (by first | exact HBW.out.size) _).setCell (by first | exact HBW.out.size) _ | exact (((HBW.out.alloc HBW.out.size _).setCell (by first | exact HBW.out.size) _).setCell (by first | exact HBW.out.size) _).setCell (by first | exact HBW.out.size) _ | exact ((HBW.out.alloc HBW.out.size _).drew.setCell (by first | exact HBW.out.size) _).setCell (by first | exact HBW.out.size) _ | exact (((HBW.out.alloc HBW.out.size _).drew.setCell (by first | exact HBW.out.size) _).setCell (by first | exact HBW.out.size) _).setCell (by first | exact HBW.out.size) _ | exact HBW.out | exact (HBW.out.alloc HBW.out.size _).drew | exact (HBW.out.alloc HBW.out.size _).drew.setCell (by first | exact HBW.out.size) _⟩
        · have HR : Hid (R = none) := hbad (Or.inl (by simp [bare, *]))
          clear hbad hgood
          go_wp2_with fail
          go_region
          all_goals go_wp2_with fail
          all_goals
            go_ret3
            exact ⟨by rw [HR.out]; rfl, by first | exact HBW.out.alloc HBW.out.size _ | exact (HBW.out.alloc HBW.out.size _).setCell (by first | exact HBW.out.size) _ | exact ((HBW.out.alloc HBW.out.size _).setCell (by first | exact HBW.out.size) _).setCell (by first | exact HBW.out.size) _ | exact (((HBW.out.alloc HBW.out.size _).setCell (by first | exact HBW.out.size) _).setCell (by first | exact HBW.out.size) _).setCell (by first | exact HBW.out.size) _ | exact ((HBW.out.alloc HBW.out.size _).drew.setCell (by first | exact HBW.out.size) _).setCell (by first | exact HBW.out.size) _ | exact (((HBW.out.alloc HBW.out.size _).drew.setCell (by first | exact HBW.out.size) _).setCell (by first | exact HBW.out.size) _).setCell (by first | exact HBW.out.size) _ | exact HBW.out | exact (HBW.out.alloc HBW.out.size _).drew | exact (HBW.out.alloc HBW.out.size _).drew.setCell (by first | exact HBW.out.size) _⟩
      · have f2 := ne_bOf e2
        have g2 : (bOf yb).toList.isEmpty = false := nonempty_false e2
        have i2 := ne_list e2
        have HR : Hid (R = none) := hbad (Or.inl (by simp [bare, *]))
        clear hbad hgood
        go_wp2_with fail
        go_region
        all_goals go_wp2_with fail
        all_goals
          go_ret3
          exact ⟨by rw [HR.out]; rfl, by first | exact HBW.out.alloc HBW.out.size _ | exact (HBW.out.alloc HBW.out.size _).setCell (by first | exact HBW.out.size) _ | exact ((HBW.out.alloc HBW.out.size _).setCell (by first | exact HBW.out.size) _).setCell (by first | exact HBW.out.size) _ | exact (((HBW.out.alloc HBW.out.size _).setCell (by first | exact HBW.out.size) _).setCell (by first | exact HBW.out.size) _).setCell (by first | exact HBW.out.size) _ | exact ((HBW.out.alloc HBW.out.size _).drew.setCell (by first | exact HBW.out.size) _).setCell (by first | exact HBW.out.size) _ | exact (((HBW.out.alloc HBW.out.size _).drew.setCell (by first | exact HBW.out.size) _).setCell (by first | exact HBW.out.size) _).setCell (by first | exact HBW.out.size) _ | exact HBW.out | exact (HBW.out.alloc HBW.out.size _).drew | exact (HBW.out.alloc HBW.out.size _).drew.setCell (by first | exact HBW.out.size) _⟩
    · have f1 := ne_bOf e1
      have g1 : (bOf ya).toList.isEmpty = false := nonempty_false e1
      have i1 := ne_list e1
      have HR : Hid (R = none) := hbad (Or.inl (by simp [bare, *]))
      clear hbad hgood
      go_wp2_with fail
      go_region
      all_goals go_wp2_with fail
      all_goals
        go_ret3
        exact ⟨by rw [HR.out]; rfl, by first | exact HBW.out.alloc HBW.out.size _ | exact (HBW.out.alloc HBW.out.size _).setCell (by first | exact HBW.out.size) _ | exact ((HBW.out.alloc HBW.out.size _).setCell (by first | exact HBW.out.size) _).setCell (by first | exact HBW.out.size) _ | exact (((HBW.out.alloc HBW.out.size _).setCell (by first | exact HBW.out.size) _).setCell (by first | exact HBW.out.size) _).setCell (by first | exact HBW.out.size) _ | exact ((HBW.out.alloc HBW.out.size _).drew.setCell (by first | exact HBW.out.size) _).setCell (by first | exact HBW.out.size) _ | exact (((HBW.out.alloc HBW.out.size _).drew.setCell (by first | exact HBW.out.size) _).setCell (by first | exact HBW.out.size) _).setCell (by first | exact HBW.out.size) _ | exact HBW.out | exact (HBW.out.alloc HBW.out.size _).drew | exact (HBW.out.alloc HBW.out.size _).drew.setCell (by first | exact HBW.out.size) _⟩
set_option maxRecDepth 20000 in
set_option maxHeartbeats 32000000 in
theorem qt_2f (yk : Int) (ya yb : List UInt8) (yf : Int) (ym : Bool) (h0 : -9223372036854775808 ≤ yf) (h1 : yf ≤ 9223372036854775807) (ht : ya.length ≤ 10000000) (hu : yb.length ≤ 10000000) (hk : yk = 2) (hm : ym = false) (w : World) :
    Calls Tryd.prog 19 #[.agg #[.int .i64 yk, .string (bOf ya), .string (bOf yb), .int .i64 yf, .bool ym]] w (TgP w (tgtR ⟨yk, ya, yb, yf, ym⟩)) := by
  have HE1 : Hid (∀ W : World, _) := fun W => rescape_any (bOf ya) W (by rw [bOf_size]; omega)
  have HE2 : Hid (∀ W : World, _) := fun W => rescape_any (bOf yb) W (by rw [bOf_size]; omega)
  rw [show (bOf ya).data.toList = ya from rfl, show (⟨(escOf ya).toArray⟩ : ByteArray) = bOf (escOf ya) from rfl] at HE1
  rw [show (bOf yb).data.toList = yb from rfl, show (⟨(escOf yb).toArray⟩ : ByteArray) = bOf (escOf yb) from rfl] at HE2
  have HL1 := escOf_len ya
  have HL2 := escOf_len yb
  obtain ⟨W0, hW0⟩ : ∃ W0, w.alloc (.cells #[.int .i64 yk, .string (bOf ya), .string (bOf yb), .int .i64 yf, .bool ym] 23) = W0 := ⟨_, rfl⟩
  have HB0 : Hid (Below w.heap.size w W0) := by rw [Hid, ← hW0]; exact below_new _ _
  have HX0 : Hid (XB W0 w.heap.size ⟨yk, ya, yb, yf, ym⟩) := by rw [Hid, ← hW0]; exact block_alloc_at _ _
  have HSS : Hid (∀ W, Below W0.heap.size W0 W → W.cell? ⟨w.heap.size, 1, none⟩ = some (.string (bOf ya)) ∧ W.cell? ⟨w.heap.size, 2, none⟩ = some (.string (bOf yb))) := fun W b => by
    obtain ⟨_, x1, x2, _, _⟩ := XB.cells (XB.below HX0.out b)
    exact ⟨x1, x2⟩
  obtain ⟨x1, x2⟩ := HSS.out W0 (Below.refl _ _)
  have HBD : Hid (Below W0.heap.size W0 W0.drew) := (Below.refl _ _).drew
  have hbad : (tokS ⟨2, ya, yb, yf, ym⟩) = false ∨ 1024 < (pS2 ya).length → tgtR ⟨yk, ya, yb, yf, ym⟩ = none := by subst hk hm; exact fun h => sel_f h
  have hgood : (tokS ⟨2, ya, yb, yf, ym⟩) = true → (pS2 ya).length ≤ 1024 → tgtR ⟨yk, ya, yb, yf, ym⟩ = some (mGet, (pS2 ya)) := by subst hk hm; exact fun h hl => sel_t h hl
  obtain ⟨R, hR⟩ : ∃ R, tgtR ⟨yk, ya, yb, yf, ym⟩ = R := ⟨_, rfl⟩
  rw [hR] at hbad hgood ⊢
  subst hk
  subst hm
  have f0 : (bOf ([] : List UInt8)).toList = [] := by rw [ByteArray.toList_eq]; rfl
  have g0 : (bOf ([] : List UInt8)).toList.isEmpty = true := bOf_empty []
  clear hR
  have HTT : Hid ((⟨#[47, 115, 101, 115, 115, 105, 111, 110, 115, 47]⟩ : ByteArray) ++ bOf (escOf ya) = bOf (pS2 ya)) := by apply ext_list; simp [bOf, pS2, wSess]
  have hlen : (pS2 ya).length = 10 + (bOf (escOf ya)).size + 0 := by rw [bOf_size]; simp [pS2, wSess]; try omega
  have hz1 : ¬ 9223372036854775807 < 10 + (bOf (escOf ya)).size := by rw [bOf_size]; omega
  go_enter Tryd.func19, Tryd.ntmps19
  go_upto_region 2 with fail
  try rw [hW0]
  clear hW0
  go_cut [7, 8] from 11 (fun s7 s8 wx => s7 = .string (bOf (escOf ya)) ∧ s8 = .string (bOf (escOf yb)) ∧ Hid (Below W0.heap.size W0 wx))
  case first =>
    go_region_held (fun W => W.cell? ⟨w.heap.size, 1, none⟩ = some (.string (bOf ya)) ∧ W.cell? ⟨w.heap.size, 2, none⟩ = some (.string (bOf yb))) (first | assumption | go_keep)
      (first
      | (go_at_call 38; with_reducible refine (HE2.out _).mono ?_; rintro e w6 ⟨rfl, b6⟩; have q6 : Below W0.heap.size W0 w6 := q5.trans (b6.mono q5.size); have hS6 := HSS.out w6 q6)
      | (go_at_call 38; with_reducible refine (HE1.out _).mono ?_; rintro e w5 ⟨rfl, b5⟩; have q5 : Below W0.heap.size W0 w5 := q6.trans (b5.mono q6.size); have hS5 := HSS.out w5 q5)
      | (go_at_call 38; with_reducible refine (HE1.out _).mono ?_; rintro e w5 ⟨rfl, b5⟩; have q5 : Below W0.heap.size W0 w5 := HBD.out.trans (b5.mono HBD.out.size); have hS5 := HSS.out w5 q5)
      | (go_at_call 38; with_reducible refine (HE2.out _).mono ?_; rintro e w6 ⟨rfl, b6⟩; have q6 : Below W0.heap.size W0 w6 := HBD.out.trans (b6.mono HBD.out.size); have hS6 := HSS.out w6 q6))
    all_goals
      go_wp2_with fail
      go_meet
      exact ⟨rfl, rfl, by first | exact q5 | exact q6⟩
  case rest =>
    obtain ⟨rfl, rfl, HBC⟩ := hcut
    have hgc : w.heap.size < wc.heap.size := Nat.lt_of_lt_of_le HX0.out.lt HBC.out.size
    obtain ⟨y0, y1, y2, y3, y4⟩ := XB.cells (XB.below HX0.out HBC.out)
    simp only at y0 y1 y2 y3 y4
    have HBW : Hid (Below w.heap.size w wc) := below_on HB0.out HBC.out
    have HXC : Hid (XB wc w.heap.size _) := XB.below HX0.out HBC.out
    clear HE1 HE2 HX0 HSS x1 x2 HBD HB0 HBC
    by_cases e2 : yb = []
    · subst e2
      by_cases e3 : yf = 0
      · subst e3
        by_cases e1 : ya = []
        · have HR : Hid (R = none) := hbad (Or.inl (by simp [tokS, *]))
          subst e1
          clear hbad hgood
          go_wp2_with fail
          go_region
          all_goals go_wp2_with fail
          all_goals
            go_ret3
            exact ⟨by rw [HR.out]; rfl, by first | exact HBW.out.alloc HBW.out.size _ | exact (HBW.out.alloc HBW.out.size _).setCell (by first | exact HBW.out.size) _ | exact ((HBW.out.alloc HBW.out.size _).setCell (by first | exact HBW.out.size) _).setCell (by first | exact HBW.out.size) _ | exact (((HBW.out.alloc HBW.out.size _).setCell (by first | exact HBW.out.size) _).setCell (by first | exact HBW.out.size) _).setCell (by first | exact HBW.out.size) _ | exact ((HBW.out.alloc HBW.out.size _).drew.setCell (by first | exact HBW.out.size) _).setCell (by first | exact HBW.out.size) _ | exact (((HBW.out.alloc HBW.out.size _).drew.setCell (by first | exact HBW.out.size) _).setCell (by first | exact HBW.out.size) _).setCell (by first | exact HBW.out.size) _ | exact HBW.out | exact (HBW.out.alloc HBW.out.size _).drew | exact (HBW.out.alloc HBW.out.size _).drew.setCell (by first | exact HBW.out.size) _⟩
        · have f1 := ne_bOf e1
          have g1 : (bOf ya).toList.isEmpty = false := nonempty_false e1
          have i1 := ne_list e1
          by_cases hl : (pS2 ya).length ≤ 1024
          · have HR : Hid (R = some (mGet, pS2 ya)) := hgood (by simp [tokS, *]) hl
            have hl1 : ¬ 1024 < 10 + (bOf (escOf ya)).size := by omega
            have hl2 : ¬ (1024 : Int) < 10 + ((bOf (escOf ya)).size : Int) := by omega
            clear hbad hgood hl hlen
            go_wp2_with fail
            go_region
            all_goals go_wp2_with fail
            all_goals
              go_ret3
              exact ⟨by rw [HR.out]; rw [HTT.out]; rfl, by first | exact HBW.out.alloc HBW.out.size _ | exact (HBW.out.alloc HBW.out.size _).setCell (by first | exact HBW.out.size) _ | exact ((HBW.out.alloc HBW.out.size _).setCell (by first | exact HBW.out.size) _).setCell (by first | exact HBW.out.size) _ | exact (((HBW.out.alloc HBW.out.size _).setCell (by first | exact HBW.out.size) _).setCell (by first | exact HBW.out.size) _).setCell (by first | exact HBW.out.size) _ | exact ((HBW.out.alloc HBW.out.size _).drew.setCell (by first | exact HBW.out.size) _).setCell (by first | exact HBW.out.size) _ | exact (((HBW.out.alloc HBW.out.size _).drew.setCell (by first | exact HBW.out.size) _).setCell (by first | exact HBW.out.size) _).setCell (by first | exact HBW.out.size) _ | exact HBW.out | exact (HBW.out.alloc HBW.out.size _).drew | exact (HBW.out.alloc HBW.out.size _).drew.setCell (by first | exact HBW.out.size) _⟩
          · have HR : Hid (R = none) := hbad (Or.inr (by omega))
            have hl1 : 1024 < 10 + (bOf (escOf ya)).size := by omega
            have hl2 : (1024 : Int) < 10 + ((bOf (escOf ya)).size : Int) := by omega
            clear hbad hgood hl hlen
            go_wp2_with fail
            go_region
            all_goals go_wp2_with fail
            all_goals
              go_ret3
              exact ⟨by rw [HR.out]; rfl, by first | exact HBW.out.alloc HBW.out.size _ | exact (HBW.out.alloc HBW.out.size _).setCell (by first | exact HBW.out.size) _ | exact ((HBW.out.alloc HBW.out.size _).setCell (by first | exact HBW.out.size) _).setCell (by first | exact HBW.out.size) _ | exact (((HBW.out.alloc HBW.out.size _).setCell (by first | exact HBW.out.size) _).setCell (by first | exact HBW.out.size) _).setCell (by first | exact HBW.out.size) _ | exact ((HBW.out.alloc HBW.out.size _).drew.setCell (by first | exact HBW.out.size) _).setCell (by first | exact HBW.out.size) _ | exact (((HBW.out.alloc HBW.out.size _).drew.setCell (by first | exact HBW.out.size) _).setCell (by first | exact HBW.out.size) _).setCell (by first | exact HBW.out.size) _ | exact HBW.out | exact (HBW.out.alloc HBW.out.size _).drew | exact (HBW.out.alloc HBW.out.size _).drew.setCell (by first | exact HBW.out.size) _⟩
      · have HR : Hid (R = none) := hbad (Or.inl (by simp [tokS, *]))
        clear hbad hgood
        go_wp2_with fail
        go_region
        all_goals go_wp2_with fail
        all_goals
          go_ret3
          exact ⟨by rw [HR.out]; rfl, by first | exact HBW.out.alloc HBW.out.size _ | exact (HBW.out.alloc HBW.out.size _).setCell (by first | exact HBW.out.size) _ | exact ((HBW.out.alloc HBW.out.size _).setCell (by first | exact HBW.out.size) _).setCell (by first | exact HBW.out.size) _ | exact (((HBW.out.alloc HBW.out.size _).setCell (by first | exact HBW.out.size) _).setCell (by first | exact HBW.out.size) _).setCell (by first | exact HBW.out.size) _ | exact ((HBW.out.alloc HBW.out.size _).drew.setCell (by first | exact HBW.out.size) _).setCell (by first | exact HBW.out.size) _ | exact (((HBW.out.alloc HBW.out.size _).drew.setCell (by first | exact HBW.out.size) _).setCell (by first | exact HBW.out.size) _).setCell (by first | exact HBW.out.size) _ | exact HBW.out | exact (HBW.out.alloc HBW.out.size _).drew | exact (HBW.out.alloc HBW.out.size _).drew.setCell (by first | exact HBW.out.size) _⟩
    · have f2 := ne_bOf e2
      have g2 : (bOf yb).toList.isEmpty = false := nonempty_false e2
      have i2 := ne_list e2
      have HR : Hid (R = none) := hbad (Or.inl (by simp [tokS, *]))
      clear hbad hgood
      go_wp2_with fail
      go_region
      all_goals go_wp2_with fail
      all_goals
        go_ret3
        exact ⟨by rw [HR.out]; rfl, by first | exact HBW.out.alloc HBW.out.size _ | exact (HBW.out.alloc HBW.out.size _).setCell (by first | exact HBW.out.size) _ | exact ((HBW.out.alloc HBW.out.size _).setCell (by first | exact HBW.out.size) _).setCell (by first | exact HBW.out.size) _ | exact (((HBW.out.alloc HBW.out.size _).setCell (by first | exact HBW.out.size) _).setCell (by first | exact HBW.out.size) _).setCell (by first | exact HBW.out.size) _ | exact ((HBW.out.alloc HBW.out.size _).drew.setCell (by first | exact HBW.out.size) _).setCell (by first | exact HBW.out.size) _ | exact (((HBW.out.alloc HBW.out.size _).drew.setCell (by first | exact HBW.out.size) _).setCell (by first | exact HBW.out.size) _).setCell (by first | exact HBW.out.size) _ | exact HBW.out | exact (HBW.out.alloc HBW.out.size _).drew | exact (HBW.out.alloc HBW.out.size _).drew.setCell (by first | exact HBW.out.size) _⟩
set_option maxRecDepth 20000 in
set_option maxHeartbeats 32000000 in
theorem qt_8 (yk : Int) (ya yb : List UInt8) (yf : Int) (ym : Bool) (h0 : -9223372036854775808 ≤ yf) (h1 : yf ≤ 9223372036854775807) (ht : ya.length ≤ 10000000) (hu : yb.length ≤ 10000000) (hk : yk = 8) (w : World) :
    Calls Tryd.prog 19 #[.agg #[.int .i64 yk, .string (bOf ya), .string (bOf yb), .int .i64 yf, .bool ym]] w (TgP w (tgtR ⟨yk, ya, yb, yf, ym⟩)) := by
  have HE1 : Hid (∀ W : World, _) := fun W => rescape_any (bOf ya) W (by rw [bOf_size]; omega)
  have HE2 : Hid (∀ W : World, _) := fun W => rescape_any (bOf yb) W (by rw [bOf_size]; omega)
  rw [show (bOf ya).data.toList = ya from rfl, show (⟨(escOf ya).toArray⟩ : ByteArray) = bOf (escOf ya) from rfl] at HE1
  rw [show (bOf yb).data.toList = yb from rfl, show (⟨(escOf yb).toArray⟩ : ByteArray) = bOf (escOf yb) from rfl] at HE2
  have HL1 := escOf_len ya
  have HL2 := escOf_len yb
  obtain ⟨W0, hW0⟩ : ∃ W0, w.alloc (.cells #[.int .i64 yk, .string (bOf ya), .string (bOf yb), .int .i64 yf, .bool ym] 23) = W0 := ⟨_, rfl⟩
  have HB0 : Hid (Below w.heap.size w W0) := by rw [Hid, ← hW0]; exact below_new _ _
  have HX0 : Hid (XB W0 w.heap.size ⟨yk, ya, yb, yf, ym⟩) := by rw [Hid, ← hW0]; exact block_alloc_at _ _
  have HSS : Hid (∀ W, Below W0.heap.size W0 W → W.cell? ⟨w.heap.size, 1, none⟩ = some (.string (bOf ya)) ∧ W.cell? ⟨w.heap.size, 2, none⟩ = some (.string (bOf yb))) := fun W b => by
    obtain ⟨_, x1, x2, _, _⟩ := XB.cells (XB.below HX0.out b)
    exact ⟨x1, x2⟩
  obtain ⟨x1, x2⟩ := HSS.out W0 (Below.refl _ _)
  have HBD : Hid (Below W0.heap.size W0 W0.drew) := (Below.refl _ _).drew
  have hbad : (decide (0 ≤ yf ∧ yf ≤ 999999999) && (ya.isEmpty && (yb.isEmpty && !ym))) = false ∨ 1024 < (pA yf).length → tgtR ⟨yk, ya, yb, yf, ym⟩ = none := by subst hk; exact fun h => sel_f h
  have hgood : (decide (0 ≤ yf ∧ yf ≤ 999999999) && (ya.isEmpty && (yb.isEmpty && !ym))) = true → (pA yf).length ≤ 1024 → tgtR ⟨yk, ya, yb, yf, ym⟩ = some (mGet, (pA yf)) := by subst hk; exact fun h hl => sel_t h hl
  obtain ⟨R, hR⟩ : ∃ R, tgtR ⟨yk, ya, yb, yf, ym⟩ = R := ⟨_, rfl⟩
  rw [hR] at hbad hgood ⊢
  subst hk
  have f0 : (bOf ([] : List UInt8)).toList = [] := by rw [ByteArray.toList_eq]; rfl
  have g0 : (bOf ([] : List UInt8)).toList.isEmpty = true := bOf_empty []
  clear hR
  have hpl := pA_len h0 h1
  go_enter Tryd.func19, Tryd.ntmps19
  go_upto_region 2 with fail
  try rw [hW0]
  clear hW0
  go_cut [7, 8] from 11 (fun s7 s8 wx => s7 = .string (bOf (escOf ya)) ∧ s8 = .string (bOf (escOf yb)) ∧ Hid (Below W0.heap.size W0 wx))
  case first =>
    go_region_held (fun W => W.cell? ⟨w.heap.size, 1, none⟩ = some (.string (bOf ya)) ∧ W.cell? ⟨w.heap.size, 2, none⟩ = some (.string (bOf yb))) (first | assumption | go_keep)
      (first
      | (go_at_call 38; with_reducible refine (HE2.out _).mono ?_; rintro e w6 ⟨rfl, b6⟩; have q6 : Below W0.heap.size W0 w6 := q5.trans (b6.mono q5.size); have hS6 := HSS.out w6 q6)
      | (go_at_call 38; with_reducible refine (HE1.out _).mono ?_; rintro e w5 ⟨rfl, b5⟩; have q5 : Below W0.heap.size W0 w5 := q6.trans (b5.mono q6.size); have hS5 := HSS.out w5 q5)
      | (go_at_call 38; with_reducible refine (HE1.out _).mono ?_; rintro e w5 ⟨rfl, b5⟩; have q5 : Below W0.heap.size W0 w5 := HBD.out.trans (b5.mono HBD.out.size); have hS5 := HSS.out w5 q5)
      | (go_at_call 38; with_reducible refine (HE2.out _).mono ?_; rintro e w6 ⟨rfl, b6⟩; have q6 : Below W0.heap.size W0 w6 := HBD.out.trans (b6.mono HBD.out.size); have hS6 := HSS.out w6 q6))
    all_goals
      go_wp2_with fail
      go_meet
      exact ⟨rfl, rfl, by first | exact q5 | exact q6⟩
  case rest =>
    obtain ⟨rfl, rfl, HBC⟩ := hcut
    have hgc : w.heap.size < wc.heap.size := Nat.lt_of_lt_of_le HX0.out.lt HBC.out.size
    obtain ⟨y0, y1, y2, y3, y4⟩ := XB.cells (XB.below HX0.out HBC.out)
    simp only at y0 y1 y2 y3 y4
    have HBW : Hid (Below w.heap.size w wc) := below_on HB0.out HBC.out
    have HXC : Hid (XB wc w.heap.size _) := XB.below HX0.out HBC.out
    clear HE1 HE2 HX0 HSS x1 x2 HBD HB0 HBC
    rcases (by omega : yf < 0 ∨ (0 ≤ yf ∧ 999999999 < yf) ∨ (0 ≤ yf ∧ yf ≤ 999999999)) with hr | ⟨hr, hr2⟩ | ⟨hr, hr2⟩
    · have HR : Hid (R = none) := hbad (Or.inl (by simp; omega))
      clear hbad hgood
      go_wp2_with fail
      all_goals
        go_ret3
        exact ⟨by rw [HR.out]; rfl, by first | exact HBW.out.alloc HBW.out.size _ | exact (HBW.out.alloc HBW.out.size _).setCell (by first | exact HBW.out.size) _ | exact ((HBW.out.alloc HBW.out.size _).setCell (by first | exact HBW.out.size) _).setCell (by first | exact HBW.out.size) _ | exact (((HBW.out.alloc HBW.out.size _).setCell (by first | exact HBW.out.size) _).setCell (by first | exact HBW.out.size) _).setCell (by first | exact HBW.out.size) _ | exact ((HBW.out.alloc HBW.out.size _).drew.setCell (by first | exact HBW.out.size) _).setCell (by first | exact HBW.out.size) _ | exact (((HBW.out.alloc HBW.out.size _).drew.setCell (by first | exact HBW.out.size) _).setCell (by first | exact HBW.out.size) _).setCell (by first | exact HBW.out.size) _ | exact HBW.out | exact (HBW.out.alloc HBW.out.size _).drew | exact (HBW.out.alloc HBW.out.size _).drew.setCell (by first | exact HBW.out.size) _⟩
    · have hr1 : ¬ yf < 0 := by omega
      have HR : Hid (R = none) := hbad (Or.inl (by simp; omega))
      clear hbad hgood
      go_wp2_with fail
      all_goals
        go_ret3
        exact ⟨by rw [HR.out]; rfl, by first | exact HBW.out.alloc HBW.out.size _ | exact (HBW.out.alloc HBW.out.size _).setCell (by first | exact HBW.out.size) _ | exact ((HBW.out.alloc HBW.out.size _).setCell (by first | exact HBW.out.size) _).setCell (by first | exact HBW.out.size) _ | exact (((HBW.out.alloc HBW.out.size _).setCell (by first | exact HBW.out.size) _).setCell (by first | exact HBW.out.size) _).setCell (by first | exact HBW.out.size) _ | exact ((HBW.out.alloc HBW.out.size _).drew.setCell (by first | exact HBW.out.size) _).setCell (by first | exact HBW.out.size) _ | exact (((HBW.out.alloc HBW.out.size _).drew.setCell (by first | exact HBW.out.size) _).setCell (by first | exact HBW.out.size) _).setCell (by first | exact HBW.out.size) _ | exact HBW.out | exact (HBW.out.alloc HBW.out.size _).drew | exact (HBW.out.alloc HBW.out.size _).drew.setCell (by first | exact HBW.out.size) _⟩
    · obtain ⟨n, hn⟩ : ∃ n : Nat, yf = n := ⟨yf.toNat, by omega⟩
      subst hn
      have hn9 : n ≤ 1000000000 := by omega
      have hr1 : ¬ (n : Int) < 0 := by omega
      have hr2' : ¬ (999999999 : Int) < (n : Int) := by omega
      have HTT : Hid ((⟨#[47, 97, 117, 100, 105, 116, 63, 102, 114, 111, 109, 61]⟩ : ByteArray) ++ bOf (Lib.decDigits n) = bOf (pA (n : Int))) := by rw [Hid, pA, Lib.itoa_nonneg]; exact app_bOf [47, 97, 117, 100, 105, 116, 63, 102, 114, 111, 109, 61] _
      have hdl : (Lib.decDigits n).length ≤ 20 := by have := itoa_len (n := (n : Int)) (by omega) (by omega); rw [Lib.itoa_nonneg] at this; exact this
      have HQD : Hid (∀ W : World, _) := fun W => qdigits_any n hn9 W
      have hz1 : ¬ 9223372036854775807 < 12 + (bOf (Lib.decDigits n)).size := by rw [bOf_size]; omega
      have hl1 : ¬ 1024 < 12 + (bOf (Lib.decDigits n)).size := by rw [bOf_size]; omega
      have hl2 : ¬ (1024 : Int) < 12 + ((bOf (Lib.decDigits n)).size : Int) := by rw [bOf_size]; omega
      clear hdl
      obtain ⟨V, hV⟩ : ∃ V, wc.alloc (.cells #[.int .i64 8, .string ⟨#[]⟩, .string ⟨#[]⟩, .int .i64 0, .bool false] 23) = V := ⟨_, rfl⟩
      have HVC : Hid (XB V wc.heap.size ⟨8, [], [], 0, false⟩) := by rw [Hid, ← hV]; exact block_alloc_at _ _
      have HVB : Hid (Below w.heap.size w V) := by rw [Hid, ← hV]; exact HBW.out.alloc HBW.out.size _
      have HVX : Hid (XB V w.heap.size ⟨8, ya, yb, (n : Int), ym⟩) := by rw [Hid, ← hV]; exact alloc_old HXC.out
      have HV : Hid _ := hV
      have q3 : V.cell? ⟨w.heap.size, 3, none⟩ = some (.int .i64 (n : Int)) := (XB.cells HVX.out).2.2.2.1
      have q0 : V.cell? ⟨w.heap.size, 0, none⟩ = some (.int .i64 8) := (XB.cells HVX.out).1
      clear hV
      go_wp2_with fail
      rw [HV.out]
      clear HV q3 q0 y0 y1 y2 y3 y4
      refine (HQD.out V).mono ?_
      rintro e w8 ⟨rfl, b8⟩
      have HB8 : Hid (Below w.heap.size w w8) := below_on HVB.out b8
      obtain ⟨y0, y1, y2, y3, y4⟩ := XB.cells (XB.below HVX.out b8)
      obtain ⟨v0, v1, v2, v3, v4⟩ := XB.cells (XB.below HVC.out b8)
      obtain ⟨z0, z1, z2, z3, z4⟩ := XB.free (XB.below HVC.out b8)
      have hgn : wc.heap.size ≠ w.heap.size := by omega
      simp only at y0 y1 y2 y3 y4 v0 v1 v2 v3 v4
      rw [show bOf ([] : List UInt8) = ⟨#[]⟩ from rfl] at v1 v2
      clear b8 HQD
      by_cases e1 : ya = []
      · subst e1
        by_cases e2 : yb = []
        · subst e2
          by_cases e4 : ym = false
          · subst e4
            have HR : Hid (R = some (mGet, pA (n : Int))) := hgood (by simp; omega) hpl
            clear hbad hgood
            go_wp2_with fail
            all_goals
              go_ret3
              exact ⟨by rw [HR.out]; rw [HTT.out]; rfl, by first | exact HB8.out.setCell (by first | exact HBW.out.size) _ | exact HB8.out⟩
          · obtain rfl : ym = true := by simpa using e4
            have HR : Hid (R = none) := hbad (Or.inl (by simp [*]))
            clear hbad hgood
            go_wp2_with fail
            all_goals
              go_ret3
              exact ⟨by rw [HR.out]; rfl, by first | exact HB8.out.setCell (by first | exact HBW.out.size) _ | exact HB8.out⟩
        · have f2 := ne_bOf e2
          have g2 : (bOf yb).toList.isEmpty = false := nonempty_false e2
          have i2 := ne_list e2
          have HR : Hid (R = none) := hbad (Or.inl (by simp [*]))
          clear hbad hgood
          go_wp2_with fail
          all_goals
            go_ret3
            exact ⟨by rw [HR.out]; rfl, by first | exact HB8.out.setCell (by first | exact HBW.out.size) _ | exact HB8.out⟩
      · have f1 := ne_bOf e1
        have g1 : (bOf ya).toList.isEmpty = false := nonempty_false e1
        have i1 := ne_list e1
        have HR : Hid (R = none) := hbad (Or.inl (by simp [*]))
        clear hbad hgood
        go_wp2_with fail
        all_goals
          go_ret3
          exact ⟨by rw [HR.out]; rfl, by first | exact HB8.out.setCell (by first | exact HBW.out.size) _ | exact HB8.out⟩
end Go.Proofs.YtbpfggpljfpfcaaDoor
