/-
  The contract of find, its ways one by one.
-/
import Derived.Test.YtefigcnfcbdecaaFindH
namespace Go.Proofs.Ytefigcnfcbdecaa
open Go.RowKit
section
variable (b off cap N at_ : Nat) (begun : Bool) (w : World) (sk rm m P a2 R : Nat)
set_option maxRecDepth 100000 in
set_option maxHeartbeats 4000000 in
theorem find_d4z (_hat : at_ ≤ N) (_hN : N ≤ 140737488355328) (_hcap : N ≤ cap) (_hac : at_ < cap)
    (HP : Hid (∀ W : World, Calls Try.prog 31 #[.int .i64 at_] W fun r w' => r = .returned (.tuple #[.int .i64 (sk : Nat), .int .i64 (rm : Nat)]) ∧ w' = W)) (_hsk : sk ≤ 6) (_hrm : rm ≤ 1017)
    (_hmin : (if (N : Int) < (at_ : Int) + (sk : Int) then (N : Int) else (at_ : Int) + (sk : Int)) = (m : Int)) (_hm : at_ ≤ m) (_hm2 : m ≤ N) (_hmP : m - at_ = P)
    (HZ : Hid (∀ (c : Nat) (W : World), Below w.heap.size w W → Calls Try.prog 39 #[.slice (some ⟨b, off + at_, none⟩) P c] W fun r w' => r = .returned (.bool true) ∧ w' = W)) (_ha2 : (at_ : Int) + (P : Int) = (a2 : Int)) (_ha2N : a2 ≤ N) (_hR : N - a2 = R) (_hR0 : ((R : Int) == 0) = false) (hR7 : Hid (7 ≤ R)) (hRC : Hid (R ≤ cap - a2)) (_ha2c : a2 < cap) (x0 x1 x2 x3 x4 x5 x6 : UInt8) (hX : ∀ j v, [u8v x0, u8v x1, u8v x2, u8v x3, u8v x4, u8v x5, u8v x6][j]? = some v → ∀ W : World, Below w.heap.size w W → W.cell? ⟨b, off + a2 + j, none⟩ = some v) (HNN : Hid (x4.toNat * 256 + x5.toNat = 0)) (HFo : Hid (∀ W : World, Calls Try.prog 40 #[.int .u8 x6.toNat, .bool begun] W fun r w' => r = .returned (.bool true) ∧ w' = W)) (HR7n : Hid (7 ≤ R)) (p : ByteArray) (HCV : Hid (∀ W : World, Below w.heap.size w W → (convert 33 9 (.slice (some ⟨b, off + a2, none⟩) 0 0)).run Try.prog W = .ok (.string p) W)) (y0 y1 y2 y3 y4 y5 y6 : UInt8) (HHd : Hid (∀ W : World, Calls Try.prog 32 #[.int .u8 x6.toNat, .string p] W fun r w' => r = .returned (.agg #[.int .u8 y0.toNat, .int .u8 y1.toNat, .int .u8 y2.toNat, .int .u8 y3.toNat, .int .u8 y4.toNat, .int .u8 y5.toNat, .int .u8 y6.toNat]) ∧ Below W.heap.size W w')) (hne : ([x0, x1, x2, x3, x4, x5, x6] == [y0, y1, y2, y3, y4, y5, y6]) = false) :
    Calls Try.prog 38 #[.slice (some ⟨b, off, none⟩) N cap, .int .i64 at_, .bool begun] w fun r w' => r = .returned (errV 3) ∧ Below w.heap.size w w' := by
  have B1 : Below w.heap.size w ((w.alloc (.cells #[.int .u8 0, .slice none 0 0, .int .i64 0] 82)).alloc (.cells #[.int .u8 0, .int .u8 0, .int .u8 0, .int .u8 0, .int .u8 0, .int .u8 0, .int .u8 0] 71)) := ((Below.refl _ w).alloc (Nat.le_refl _) _).alloc (by simp) _
  have hcp := copy7 (w.alloc (.cells #[.int .u8 0, .slice none 0 0, .int .i64 0] 82)) ⟨b, off + a2, none⟩ R (cap - a2) hR7.out x0 x1 x2 x3 x4 x5 x6 (fun j v hj => by rw [addr_add]; exact hX j v hj _ B1)
  rw [show (w.alloc (.cells #[.int .u8 0, .slice none 0 0, .int .i64 0] 82)).heap.size = w.heap.size + 1 by simp] at hcp
  simp only [z7, u8v] at hcp
  clear hX B1
  have B0 : Below w.heap.size w (w.alloc (.cells #[.int .u8 0, .slice none 0 0, .int .i64 0] 82)) := (Below.refl _ w).alloc (Nat.le_refl _) _
  go_enter Try.func38, Try.ntmps38
  go_wp2_with fail
  refine (HP.out _).mono ?_
  rintro e w1 ⟨rfl, hw⟩
  subst hw
  go_wp2_with fail
  refine (HZ.out _ _ B0).mono ?_
  rintro e w2 ⟨rfl, hw⟩
  subst hw
  go_upto_region 7 with fail
  have h7 := hR7.out
  have hRC' := hRC.out
  generalize cap - a2 = C at *
  clear _hR _hmP _hmin HP HZ
  go_upto_region 13 with fail
  clear hcp B0
  have hn : bits BinOp.or IntKind.i64 (wrap64 (wrap64 (x4.toNat : Int) * 256)) (wrap64 (x5.toNat : Int)) = (0 : Int) := by rw [or_bytes, HNN.out]; rfl
  generalize hW : (w.alloc (.cells #[.int .u8 0, .slice none 0 0, .int .i64 0] 82)).alloc (.cells #[.int .u8 x0.toNat, .int .u8 x1.toNat, .int .u8 x2.toNat, .int .u8 x3.toNat, .int .u8 x4.toNat, .int .u8 x5.toNat, .int .u8 x6.toNat] 71) = W3
  have c0 : W3.cell? ⟨w.heap.size + 1, 0, none⟩ = some (.int .u8 x0.toNat) := by subst hW; go_simp
  have c1 : W3.cell? ⟨w.heap.size + 1, 1, none⟩ = some (.int .u8 x1.toNat) := by subst hW; go_simp
  have c2 : W3.cell? ⟨w.heap.size + 1, 2, none⟩ = some (.int .u8 x2.toNat) := by subst hW; go_simp
  have c3 : W3.cell? ⟨w.heap.size + 1, 3, none⟩ = some (.int .u8 x3.toNat) := by subst hW; go_simp
  have c4 : W3.cell? ⟨w.heap.size + 1, 4, none⟩ = some (.int .u8 x4.toNat) := by subst hW; go_simp
  have c5 : W3.cell? ⟨w.heap.size + 1, 5, none⟩ = some (.int .u8 x5.toNat) := by subst hW; go_simp
  have c6 : W3.cell? ⟨w.heap.size + 1, 6, none⟩ = some (.int .u8 x6.toNat) := by subst hW; go_simp
  have f0 : W3.cell? ⟨w.heap.size, 0, none⟩ = some (.int .u8 0) := by subst hW; go_simp
  have f1 : W3.cell? ⟨w.heap.size, 1, none⟩ = some (.slice none 0 0) := by subst hW; go_simp
  have f2 : W3.cell? ⟨w.heap.size, 2, none⟩ = some (.int .i64 0) := by subst hW; go_simp
  have fz : ∀ j, W3.frozen? ⟨w.heap.size, j, none⟩ = false := fun j => by subst hW; go_simp
  have B3 : Below w.heap.size w W3 := by rw [← hW]; exact ((Below.refl _ w).alloc (Nat.le_refl _) _).alloc (by simp) _
  have hz3 : w.heap.size + 1 < W3.heap.size := by rw [← hW]; simp
  clear hW
  go_quiet (fail)
  have B4 : Below w.heap.size w (W3.drewN nq) := B3.trans ⟨rfl, rfl, rfl, Nat.le_refl _, fun _ _ => rfl⟩
  have hz4 : w.heap.size + 1 < (W3.drewN nq).heap.size := hz3
  have e0 : (W3.drewN nq).cell? ⟨w.heap.size + 1, 0, none⟩ = some (.int .u8 x0.toNat) := c0
  have e1 : (W3.drewN nq).cell? ⟨w.heap.size + 1, 1, none⟩ = some (.int .u8 x1.toNat) := c1
  have e2 : (W3.drewN nq).cell? ⟨w.heap.size + 1, 2, none⟩ = some (.int .u8 x2.toNat) := c2
  have e3 : (W3.drewN nq).cell? ⟨w.heap.size + 1, 3, none⟩ = some (.int .u8 x3.toNat) := c3
  have e4 : (W3.drewN nq).cell? ⟨w.heap.size + 1, 4, none⟩ = some (.int .u8 x4.toNat) := c4
  have e5 : (W3.drewN nq).cell? ⟨w.heap.size + 1, 5, none⟩ = some (.int .u8 x5.toNat) := c5
  have e6 : (W3.drewN nq).cell? ⟨w.heap.size + 1, 6, none⟩ = some (.int .u8 x6.toNat) := c6
  have g0 : (W3.drewN nq).cell? ⟨w.heap.size, 0, none⟩ = some (.int .u8 0) := f0
  have g1 : (W3.drewN nq).cell? ⟨w.heap.size, 1, none⟩ = some (.slice none 0 0) := f1
  have g2 : (W3.drewN nq).cell? ⟨w.heap.size, 2, none⟩ = some (.int .i64 0) := f2
  have gz : ∀ j, (W3.drewN nq).frozen? ⟨w.heap.size, j, none⟩ = false := fz
  generalize W3.drewN nq = V at *
  clear c0 c1 c2 c3 c4 c5 c6 f0 f1 f2 fz B3 hz3 hn
  have hR7n := HR7n.out
  go_wp2_with fail
  refine (HFo.out _).mono ?_
  rintro e w5 ⟨rfl, hw⟩
  subst hw
  go_upto_region 20 with fail
  have hcv : (convert 33 9 (.slice (some ⟨b, off + a2, none⟩) 0 0)).run Try.prog w5.drew = .ok (.string p) w5.drew := HCV.out _ (B4.drew)
  have heq := eq7 x0 x1 x2 x3 x4 x5 x6 y0 y1 y2 y3 y4 y5 y6
  rw [hne] at heq
  have HD : ∀ w6, Below w5.drew.heap.size w5.drew w6 → w6.cell? ⟨w.heap.size + 1, 0, none⟩ = some (.int .u8 x0.toNat) ∧ w6.cell? ⟨w.heap.size + 1, 1, none⟩ = some (.int .u8 x1.toNat) ∧ w6.cell? ⟨w.heap.size + 1, 2, none⟩ = some (.int .u8 x2.toNat) ∧ w6.cell? ⟨w.heap.size + 1, 3, none⟩ = some (.int .u8 x3.toNat) ∧ w6.cell? ⟨w.heap.size + 1, 4, none⟩ = some (.int .u8 x4.toNat) ∧ w6.cell? ⟨w.heap.size + 1, 5, none⟩ = some (.int .u8 x5.toNat) ∧ w6.cell? ⟨w.heap.size + 1, 6, none⟩ = some (.int .u8 x6.toNat) := fun w6 b6 => ⟨(b6.cell (p := ⟨w.heap.size + 1, 0, none⟩) hz4).trans e0, (b6.cell (p := ⟨w.heap.size + 1, 1, none⟩) hz4).trans e1, (b6.cell (p := ⟨w.heap.size + 1, 2, none⟩) hz4).trans e2, (b6.cell (p := ⟨w.heap.size + 1, 3, none⟩) hz4).trans e3, (b6.cell (p := ⟨w.heap.size + 1, 4, none⟩) hz4).trans e4, (b6.cell (p := ⟨w.heap.size + 1, 5, none⟩) hz4).trans e5, (b6.cell (p := ⟨w.heap.size + 1, 6, none⟩) hz4).trans e6⟩
  have HG : ∀ w6, Below w5.drew.heap.size w5.drew w6 → w6.cell? ⟨w.heap.size, 0, none⟩ = some (.int .u8 0) ∧ w6.cell? ⟨w.heap.size, 1, none⟩ = some (.slice none 0 0) ∧ w6.cell? ⟨w.heap.size, 2, none⟩ = some (.int .i64 0) ∧ (∀ j, w6.frozen? ⟨w.heap.size, j, none⟩ = false) := fun w6 b6 => ⟨(b6.cell (p := ⟨w.heap.size, 0, none⟩) (by show w.heap.size < w5.heap.size; omega)).trans g0, (b6.cell (p := ⟨w.heap.size, 1, none⟩) (by show w.heap.size < w5.heap.size; omega)).trans g1, (b6.cell (p := ⟨w.heap.size, 2, none⟩) (by show w.heap.size < w5.heap.size; omega)).trans g2, fun j => (b6.frozen (p := ⟨w.heap.size, j, none⟩) (by show w.heap.size < w5.heap.size; omega)).trans (gz j)⟩
  have HDD : Hid _ := HD
  have HGG : Hid _ := HG
  clear HD HG
  go_region_with (go_at_call 32; refine (HHd.out _).mono ?_; rintro e w6 ⟨rfl, b6⟩; obtain ⟨d0, d1, d2, d3, d4, d5, d6⟩ := HDD.out w6 b6; obtain ⟨k0, k1, k2, kz⟩ := HGG.out w6 b6)
  all_goals go_wp2_with fail
  all_goals have B6 : Below w.heap.size w w6 := (B4.drew).trans (b6.mono (show w.heap.size ≤ w5.drew.heap.size from B4.size))
  all_goals exact bodyPost_ret (v := errV 3) (by simp [results, Try.results38, go_sem, errV, k0, k1, k2]) rfl ⟨rfl, ((B6.setCell (p := ⟨w.heap.size, 0, none⟩) (Nat.le_refl _) _).setCell (p := ⟨w.heap.size, 1, none⟩) (Nat.le_refl _) _).setCell (p := ⟨w.heap.size, 2, none⟩) (Nat.le_refl _) _⟩
set_option maxRecDepth 100000 in
set_option maxHeartbeats 4000000 in
theorem find_d5z (_hat : at_ ≤ N) (_hN : N ≤ 140737488355328) (_hcap : N ≤ cap) (_hac : at_ < cap)
    (HP : Hid (∀ W : World, Calls Try.prog 31 #[.int .i64 at_] W fun r w' => r = .returned (.tuple #[.int .i64 (sk : Nat), .int .i64 (rm : Nat)]) ∧ w' = W)) (_hsk : sk ≤ 6) (_hrm : rm ≤ 1017)
    (_hmin : (if (N : Int) < (at_ : Int) + (sk : Int) then (N : Int) else (at_ : Int) + (sk : Int)) = (m : Int)) (_hm : at_ ≤ m) (_hm2 : m ≤ N) (_hmP : m - at_ = P)
    (HZ : Hid (∀ (c : Nat) (W : World), Below w.heap.size w W → Calls Try.prog 39 #[.slice (some ⟨b, off + at_, none⟩) P c] W fun r w' => r = .returned (.bool true) ∧ w' = W)) (_ha2 : (at_ : Int) + (P : Int) = (a2 : Int)) (_ha2N : a2 ≤ N) (_hR : N - a2 = R) (_hR0 : ((R : Int) == 0) = false) (hR7 : Hid (7 ≤ R)) (hRC : Hid (R ≤ cap - a2)) (_ha2c : a2 < cap) (x0 x1 x2 x3 x4 x5 x6 : UInt8) (hX : ∀ j v, [u8v x0, u8v x1, u8v x2, u8v x3, u8v x4, u8v x5, u8v x6][j]? = some v → ∀ W : World, Below w.heap.size w W → W.cell? ⟨b, off + a2 + j, none⟩ = some v) (HNN : Hid (x4.toNat * 256 + x5.toNat = 0)) (HFo : Hid (∀ W : World, Calls Try.prog 40 #[.int .u8 x6.toNat, .bool begun] W fun r w' => r = .returned (.bool true) ∧ w' = W)) (HR7n : Hid (7 ≤ R)) (p : ByteArray) (HCV : Hid (∀ W : World, Below w.heap.size w W → (convert 33 9 (.slice (some ⟨b, off + a2, none⟩) 0 0)).run Try.prog W = .ok (.string p) W)) (y0 y1 y2 y3 y4 y5 y6 : UInt8) (HHd : Hid (∀ W : World, Calls Try.prog 32 #[.int .u8 x6.toNat, .string p] W fun r w' => r = .returned (.agg #[.int .u8 y0.toNat, .int .u8 y1.toNat, .int .u8 y2.toNat, .int .u8 y3.toNat, .int .u8 y4.toNat, .int .u8 y5.toNat, .int .u8 y6.toNat]) ∧ Below W.heap.size W w')) (hne : ([x0, x1, x2, x3, x4, x5, x6] == [y0, y1, y2, y3, y4, y5, y6]) = true) :
    Calls Try.prog 38 #[.slice (some ⟨b, off, none⟩) N cap, .int .i64 at_, .bool begun] w fun r w' => r = .returned (.tuple #[.agg #[.int .u8 x6.toNat, .slice (some ⟨b, off + a2, none⟩) 0 0, .int .i64 ((a2 : Int) + 7)], .int .i64 0]) ∧ Below w.heap.size w w' := by
  have B1 : Below w.heap.size w ((w.alloc (.cells #[.int .u8 0, .slice none 0 0, .int .i64 0] 82)).alloc (.cells #[.int .u8 0, .int .u8 0, .int .u8 0, .int .u8 0, .int .u8 0, .int .u8 0, .int .u8 0] 71)) := ((Below.refl _ w).alloc (Nat.le_refl _) _).alloc (by simp) _
  have hcp := copy7 (w.alloc (.cells #[.int .u8 0, .slice none 0 0, .int .i64 0] 82)) ⟨b, off + a2, none⟩ R (cap - a2) hR7.out x0 x1 x2 x3 x4 x5 x6 (fun j v hj => by rw [addr_add]; exact hX j v hj _ B1)
  rw [show (w.alloc (.cells #[.int .u8 0, .slice none 0 0, .int .i64 0] 82)).heap.size = w.heap.size + 1 by simp] at hcp
  simp only [z7, u8v] at hcp
  clear hX B1
  have B0 : Below w.heap.size w (w.alloc (.cells #[.int .u8 0, .slice none 0 0, .int .i64 0] 82)) := (Below.refl _ w).alloc (Nat.le_refl _) _
  go_enter Try.func38, Try.ntmps38
  go_wp2_with fail
  refine (HP.out _).mono ?_
  rintro e w1 ⟨rfl, hw⟩
  subst hw
  go_wp2_with fail
  refine (HZ.out _ _ B0).mono ?_
  rintro e w2 ⟨rfl, hw⟩
  subst hw
  go_upto_region 7 with fail
  have h7 := hR7.out
  have hRC' := hRC.out
  generalize cap - a2 = C at *
  clear _hR _hmP _hmin HP HZ
  go_upto_region 13 with fail
  clear hcp B0
  have hn : bits BinOp.or IntKind.i64 (wrap64 (wrap64 (x4.toNat : Int) * 256)) (wrap64 (x5.toNat : Int)) = (0 : Int) := by rw [or_bytes, HNN.out]; rfl
  generalize hW : (w.alloc (.cells #[.int .u8 0, .slice none 0 0, .int .i64 0] 82)).alloc (.cells #[.int .u8 x0.toNat, .int .u8 x1.toNat, .int .u8 x2.toNat, .int .u8 x3.toNat, .int .u8 x4.toNat, .int .u8 x5.toNat, .int .u8 x6.toNat] 71) = W3
  have c0 : W3.cell? ⟨w.heap.size + 1, 0, none⟩ = some (.int .u8 x0.toNat) := by subst hW; go_simp
  have c1 : W3.cell? ⟨w.heap.size + 1, 1, none⟩ = some (.int .u8 x1.toNat) := by subst hW; go_simp
  have c2 : W3.cell? ⟨w.heap.size + 1, 2, none⟩ = some (.int .u8 x2.toNat) := by subst hW; go_simp
  have c3 : W3.cell? ⟨w.heap.size + 1, 3, none⟩ = some (.int .u8 x3.toNat) := by subst hW; go_simp
  have c4 : W3.cell? ⟨w.heap.size + 1, 4, none⟩ = some (.int .u8 x4.toNat) := by subst hW; go_simp
  have c5 : W3.cell? ⟨w.heap.size + 1, 5, none⟩ = some (.int .u8 x5.toNat) := by subst hW; go_simp
  have c6 : W3.cell? ⟨w.heap.size + 1, 6, none⟩ = some (.int .u8 x6.toNat) := by subst hW; go_simp
  have f0 : W3.cell? ⟨w.heap.size, 0, none⟩ = some (.int .u8 0) := by subst hW; go_simp
  have f1 : W3.cell? ⟨w.heap.size, 1, none⟩ = some (.slice none 0 0) := by subst hW; go_simp
  have f2 : W3.cell? ⟨w.heap.size, 2, none⟩ = some (.int .i64 0) := by subst hW; go_simp
  have fz : ∀ j, W3.frozen? ⟨w.heap.size, j, none⟩ = false := fun j => by subst hW; go_simp
  have B3 : Below w.heap.size w W3 := by rw [← hW]; exact ((Below.refl _ w).alloc (Nat.le_refl _) _).alloc (by simp) _
  have hz3 : w.heap.size + 1 < W3.heap.size := by rw [← hW]; simp
  clear hW
  go_quiet (fail)
  have B4 : Below w.heap.size w (W3.drewN nq) := B3.trans ⟨rfl, rfl, rfl, Nat.le_refl _, fun _ _ => rfl⟩
  have hz4 : w.heap.size + 1 < (W3.drewN nq).heap.size := hz3
  have e0 : (W3.drewN nq).cell? ⟨w.heap.size + 1, 0, none⟩ = some (.int .u8 x0.toNat) := c0
  have e1 : (W3.drewN nq).cell? ⟨w.heap.size + 1, 1, none⟩ = some (.int .u8 x1.toNat) := c1
  have e2 : (W3.drewN nq).cell? ⟨w.heap.size + 1, 2, none⟩ = some (.int .u8 x2.toNat) := c2
  have e3 : (W3.drewN nq).cell? ⟨w.heap.size + 1, 3, none⟩ = some (.int .u8 x3.toNat) := c3
  have e4 : (W3.drewN nq).cell? ⟨w.heap.size + 1, 4, none⟩ = some (.int .u8 x4.toNat) := c4
  have e5 : (W3.drewN nq).cell? ⟨w.heap.size + 1, 5, none⟩ = some (.int .u8 x5.toNat) := c5
  have e6 : (W3.drewN nq).cell? ⟨w.heap.size + 1, 6, none⟩ = some (.int .u8 x6.toNat) := c6
  have g0 : (W3.drewN nq).cell? ⟨w.heap.size, 0, none⟩ = some (.int .u8 0) := f0
  have g1 : (W3.drewN nq).cell? ⟨w.heap.size, 1, none⟩ = some (.slice none 0 0) := f1
  have g2 : (W3.drewN nq).cell? ⟨w.heap.size, 2, none⟩ = some (.int .i64 0) := f2
  have gz : ∀ j, (W3.drewN nq).frozen? ⟨w.heap.size, j, none⟩ = false := fz
  generalize W3.drewN nq = V at *
  clear c0 c1 c2 c3 c4 c5 c6 f0 f1 f2 fz B3 hz3 hn
  have hR7n := HR7n.out
  go_wp2_with fail
  refine (HFo.out _).mono ?_
  rintro e w5 ⟨rfl, hw⟩
  subst hw
  go_upto_region 20 with fail
  have hcv : (convert 33 9 (.slice (some ⟨b, off + a2, none⟩) 0 0)).run Try.prog w5.drew = .ok (.string p) w5.drew := HCV.out _ (B4.drew)
  have heq := eq7 x0 x1 x2 x3 x4 x5 x6 y0 y1 y2 y3 y4 y5 y6
  rw [hne] at heq
  have HD : ∀ w6, Below w5.drew.heap.size w5.drew w6 → w6.cell? ⟨w.heap.size + 1, 0, none⟩ = some (.int .u8 x0.toNat) ∧ w6.cell? ⟨w.heap.size + 1, 1, none⟩ = some (.int .u8 x1.toNat) ∧ w6.cell? ⟨w.heap.size + 1, 2, none⟩ = some (.int .u8 x2.toNat) ∧ w6.cell? ⟨w.heap.size + 1, 3, none⟩ = some (.int .u8 x3.toNat) ∧ w6.cell? ⟨w.heap.size + 1, 4, none⟩ = some (.int .u8 x4.toNat) ∧ w6.cell? ⟨w.heap.size + 1, 5, none⟩ = some (.int .u8 x5.toNat) ∧ w6.cell? ⟨w.heap.size + 1, 6, none⟩ = some (.int .u8 x6.toNat) := fun w6 b6 => ⟨(b6.cell (p := ⟨w.heap.size + 1, 0, none⟩) hz4).trans e0, (b6.cell (p := ⟨w.heap.size + 1, 1, none⟩) hz4).trans e1, (b6.cell (p := ⟨w.heap.size + 1, 2, none⟩) hz4).trans e2, (b6.cell (p := ⟨w.heap.size + 1, 3, none⟩) hz4).trans e3, (b6.cell (p := ⟨w.heap.size + 1, 4, none⟩) hz4).trans e4, (b6.cell (p := ⟨w.heap.size + 1, 5, none⟩) hz4).trans e5, (b6.cell (p := ⟨w.heap.size + 1, 6, none⟩) hz4).trans e6⟩
  have HG : ∀ w6, Below w5.drew.heap.size w5.drew w6 → w6.cell? ⟨w.heap.size, 0, none⟩ = some (.int .u8 0) ∧ w6.cell? ⟨w.heap.size, 1, none⟩ = some (.slice none 0 0) ∧ w6.cell? ⟨w.heap.size, 2, none⟩ = some (.int .i64 0) ∧ (∀ j, w6.frozen? ⟨w.heap.size, j, none⟩ = false) := fun w6 b6 => ⟨(b6.cell (p := ⟨w.heap.size, 0, none⟩) (by show w.heap.size < w5.heap.size; omega)).trans g0, (b6.cell (p := ⟨w.heap.size, 1, none⟩) (by show w.heap.size < w5.heap.size; omega)).trans g1, (b6.cell (p := ⟨w.heap.size, 2, none⟩) (by show w.heap.size < w5.heap.size; omega)).trans g2, fun j => (b6.frozen (p := ⟨w.heap.size, j, none⟩) (by show w.heap.size < w5.heap.size; omega)).trans (gz j)⟩
  have HDD : Hid _ := HD
  have HGG : Hid _ := HG
  clear HD HG
  go_region_with (go_at_call 32; refine (HHd.out _).mono ?_; rintro e w6 ⟨rfl, b6⟩; obtain ⟨d0, d1, d2, d3, d4, d5, d6⟩ := HDD.out w6 b6; obtain ⟨k0, k1, k2, kz⟩ := HGG.out w6 b6)
  all_goals go_wp2_with fail
  all_goals have B6 : Below w.heap.size w w6 := (B4.drew).trans (b6.mono (show w.heap.size ≤ w5.drew.heap.size from B4.size))
  all_goals exact bodyPost_ret (v := .tuple #[.agg #[.int .u8 x6.toNat, .slice (some ⟨b, off + a2, none⟩) 0 0, .int .i64 ((a2 : Int) + 7)], .int .i64 0]) (by simp [results, Try.results38, go_sem, k0, k1, k2]) rfl ⟨rfl, ((B6.setCell (p := ⟨w.heap.size, 0, none⟩) (Nat.le_refl _) _).setCell (p := ⟨w.heap.size, 1, none⟩) (Nat.le_refl _) _).setCell (p := ⟨w.heap.size, 2, none⟩) (Nat.le_refl _) _⟩
end
end Go.Proofs.Ytefigcnfcbdecaa
