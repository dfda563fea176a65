/-
  The walk of HttpParses.
-/
import Derived.Test.YthhhoppmbimeiaaDoorLiv
import Derived.Deep.RegionHeld
namespace Go.Proofs.YthhhoppmbimeiaaDoor
open Go.RowKit
theorem row_on {w w' : World} {B e n : Nat} {v : Value} {xs : List Value} (h : w.ownsRow B e 1 v n xs) (b : Below w.heap.size w w') : w'.ownsRow B e 1 v n xs := owns_on h b
set_option maxRecDepth 20000 in
set_option maxHeartbeats 8000000 in
theorem parses_walk (s name : ByteArray) (m : Int) (w : World) (hs : s.size ≤ 140737488355328) (hn : name.size ≤ 140737488355328) (hm : w.cell? ⟨0, 0, none⟩ = some (.int .i64 m)) :
    Calls Tryd.prog 3 #[.string s, .string name] w fun e w' => e = .returned (.bool true) ∧ Below w.heap.size w w' := by
  have HM : Hid (∀ W, Below w.heap.size w W → W.cell? ⟨0, 0, none⟩ = some (.int .i64 m)) := fun W b => mx_below hm b
  obtain ⟨o1, o2⟩ := parseR_ok s
  have HOK : Hid (∀ (a : Option Addr) (c : Nat), rqOk ⟨(parseR s).met, (parseR s).tar, a, c, (parseR s).fs, (parseR s).body, (parseR s).shut⟩) := fun a c => ⟨by show (parseR s).fs.length ≤ _; omega, o2⟩
  have H1 : Hid (∀ W, Below w.heap.size w W → _) := fun W b => parse_any s m W (by omega) (HM.out W b)
  have H2 : Hid (∀ W, Calls Tryd.prog 9 #[.string s] W fun e w' => ∃ a c, e = .returned (psV (parseR s) a c) ∧ FA w'.heap.size w' a (parseR s).fs ∧ Below W.heap.size W w') := fun W => qparse_any s W (by omega)
  have H3 : Hid (∀ W, Below w.heap.size w W → _) := fun W b => lives_any m W (HM.out W b)
  have H4 : Hid (∀ a b ca cb B W, FA B W a (parseR s).fs → FA B W b (parseR s).fs → B ≤ W.heap.size → _) := fun a b ca cb B W h1 h2 h3 => same_eq (parseR s).met (parseR s).tar (parseR s).body (parseR s).shut (parseR s).fs a b ca cb B W h1 h2 h3 (by omega)
  have H5 : Hid (∀ a c B W, FA B W a (parseR s).fs → B ≤ W.heap.size → _) := fun a c B W h1 h2 => get_any ⟨(parseR s).met, (parseR s).tar, a, c, (parseR s).fs, (parseR s).body, (parseR s).shut⟩ B name W h1 h2 (HOK.out a c) hn
  have H6 : Hid (∀ a c B W, FA B W a (parseR s).fs → B ≤ W.heap.size → _) := fun a c B W h1 h2 => rget_any ⟨(parseR s).met, (parseR s).tar, a, c, (parseR s).fs, (parseR s).body, (parseR s).shut⟩ B name W h1 h2 (HOK.out a c) hn
  have H7 : Hid (∀ a c B W, FA B W a (parseR s).fs → B ≤ W.heap.size → _) := fun a c B W h1 h2 => all_any ⟨(parseR s).met, (parseR s).tar, a, c, (parseR s).fs, (parseR s).body, (parseR s).shut⟩ B name W h1 h2 (HOK.out a c) hn
  have H8 : Hid (∀ a c B W, FA B W a (parseR s).fs → B ≤ W.heap.size → _) := fun a c B W h1 h2 => rall_any ⟨(parseR s).met, (parseR s).tar, a, c, (parseR s).fs, (parseR s).body, (parseR s).shut⟩ B name W h1 h2 (HOK.out a c) hn
  have H9 : Hid (∀ a b ca cb W, TextsAt W a (allF name (parseR s).fs) → TextsAt W b (allF name (parseR s).fs) → _) := fun a b ca cb W h1 h2 => sameTexts_eq a b ca cb (allF name (parseR s).fs) W h1 h2 (by have := allF_len name (parseR s).fs; omega)
  simp only [psV, rqV] at H1 H2 H4 H5 H6 H7 H8
  obtain ⟨P, hP⟩ : ∃ P, parseR s = P := ⟨_, rfl⟩
  rw [hP] at H1 H2 H4 H5 H6 H7 H8 H9
  clear hP HOK o1 o2
  obtain ⟨met, tar, fs, body, shut, size, err⟩ := P
  simp only at H1 H2 H4 H5 H6 H7 H8 H9
  obtain ⟨F, hF⟩ : ∃ F, fs.length = F := ⟨_, rfl⟩
  rw [hF] at H1 H2 H4 H5 H6 H7 H8
  obtain ⟨gs, hgs⟩ : ∃ x, (getF name fs).1 = x := ⟨_, rfl⟩
  obtain ⟨gb, hgb⟩ : ∃ x, (getF name fs).2 = x := ⟨_, rfl⟩
  rw [hgs, hgb] at H5 H6
  obtain ⟨L, hL⟩ : ∃ x, allF name fs = x := ⟨_, rfl⟩
  rw [hL] at H7 H8 H9
  obtain ⟨n, hln⟩ : ∃ x, L.length = x := ⟨_, rfl⟩
  rw [hln] at H7 H8 H9
  have e1 : ((size : Int) != (size : Int)) = false := by simp
  have e2 : (err != err) = false := by simp
  have e3 : (gs.toList == gs.toList) = true := by simp
  have e4 : (gb == gb) = true := by simp
  clear hF hgs hgb hL hln hm
  go_enter Tryd.func3, Tryd.ntmps3
  go_wp2_with fail
  refine (H1.out _ (Below.refl _ _)).mono ?_
  rintro e w1 ⟨a1, c1, rfl, hf1, b1⟩
  obtain ⟨W1, hW1⟩ : ∃ W1, w1.alloc (.cells #[.string met, .string tar, .slice a1 F c1, .string body, .bool shut] 24) = W1 := ⟨_, rfl⟩
  have HA1 : Hid (Below w1.heap.size w1 W1) := by rw [Hid, ← hW1]; exact (Below.refl _ _).alloc (Nat.le_refl _) _
  have HB1 : Hid (Below w.heap.size w W1) := b1.trans (HA1.out.mono b1.size)
  have HX1 : Hid (RB W1 w1.heap.size met tar (.slice a1 F c1) body shut) := by rw [Hid, ← hW1]; exact block_alloc_at _ _
  have HF1 : Hid (FA W1.heap.size W1 a1 fs) := (FA.below hf1 (fun b hb => HA1.out.block b hb)).up HA1.out.size
  clear hf1 b1
  go_wp2_with fail
  try rw [hW1]
  refine (H2.out _).mono ?_
  rintro e w2 ⟨a2, c2, rfl, hf2, b2⟩
  obtain ⟨W2, hW2⟩ : ∃ W2, w2.alloc (.cells #[.string met, .string tar, .slice a2 F c2, .string body, .bool shut] 24) = W2 := ⟨_, rfl⟩
  have HA2 : Hid (Below w2.heap.size w2 W2) := by rw [Hid, ← hW2]; exact (Below.refl _ _).alloc (Nat.le_refl _) _
  have HB12 : Hid (Below W1.heap.size W1 W2) := b2.trans (HA2.out.mono b2.size)
  have HB2 : Hid (Below w.heap.size w W2) := HB1.out.trans (HB12.out.mono HB1.out.size)
  have HX2 : Hid (RB W2 w1.heap.size met tar (.slice a1 F c1) body shut) := HX1.out.below HB12.out
  have HY2 : Hid (RB W2 w2.heap.size met tar (.slice a2 F c2) body shut) := by rw [Hid, ← hW2]; exact block_alloc_at _ _
  have HF2 : Hid (FA W2.heap.size W2 a1 fs) := (FA.below HF1.out (fun b hb => HB12.out.block b hb)).up HB12.out.size
  have HG2 : Hid (FA W2.heap.size W2 a2 fs) := (FA.below hf2 (fun b hb => HA2.out.block b hb)).up HA2.out.size
  clear hf2 b2 HX1 HF1 HA1 HA2
  go_wp2_with fail
  try rw [hW2]
  refine (H3.out _ HB2.out).mono ?_
  rintro e w3 ⟨rfl, b3⟩
  have HB3 : Hid (Below w.heap.size w w3) := HB2.out.trans (b3.mono HB2.out.size)
  have HX3 : Hid (RB w3 w1.heap.size met tar (.slice a1 F c1) body shut) := HX2.out.below b3
  have HY3 : Hid (RB w3 w2.heap.size met tar (.slice a2 F c2) body shut) := HY2.out.below b3
  have HF3 : Hid (FA w3.heap.size w3 a1 fs) := (FA.below HF2.out (fun b hb => b3.block b hb)).up b3.size
  have HG3 : Hid (FA w3.heap.size w3 a2 fs) := (FA.below HG2.out (fun b hb => b3.block b hb)).up b3.size
  clear b3
  obtain ⟨k0, k1, k2, k3, k4⟩ := HX3.out.box
  obtain ⟨j0, j1, j2, j3, j4⟩ := HY3.out.box
  go_wp2_with fail
  refine (H4.out _ _ _ _ _ _ HF3.out HG3.out (Nat.le_refl _)).mono ?_
  rintro e w4 ⟨rfl, b4⟩
  have HB4 : Hid (Below w.heap.size w w4) := HB3.out.trans (b4.mono HB3.out.size)
  have HX4 : Hid (RB w4 w1.heap.size met tar (.slice a1 F c1) body shut) := HX3.out.below b4
  have HY4 : Hid (RB w4 w2.heap.size met tar (.slice a2 F c2) body shut) := HY3.out.below b4
  have HF4 : Hid (FA w4.heap.size w4 a1 fs) := (FA.below HF3.out (fun b hb => b4.block b hb)).up b4.size
  have HG4 : Hid (FA w4.heap.size w4 a2 fs) := (FA.below HG3.out (fun b hb => b4.block b hb)).up b4.size
  clear b4
  clear k0 k1 k2 k3 k4 j0 j1 j2 j3 j4
  obtain ⟨k0, k1, k2, k3, k4⟩ := HX4.out.box
  obtain ⟨j0, j1, j2, j3, j4⟩ := HY4.out.box
  go_wp2_with fail
  refine (H5.out _ _ _ _ HF4.out (Nat.le_refl _)).mono ?_
  rintro e w5 ⟨rfl, b5⟩
  have HB5 : Hid (Below w.heap.size w w5) := HB4.out.trans (b5.mono HB4.out.size)
  have HX5 : Hid (RB w5 w1.heap.size met tar (.slice a1 F c1) body shut) := HX4.out.below b5
  have HY5 : Hid (RB w5 w2.heap.size met tar (.slice a2 F c2) body shut) := HY4.out.below b5
  have HF5 : Hid (FA w5.heap.size w5 a1 fs) := (FA.below HF4.out (fun b hb => b5.block b hb)).up b5.size
  have HG5 : Hid (FA w5.heap.size w5 a2 fs) := (FA.below HG4.out (fun b hb => b5.block b hb)).up b5.size
  clear b5
  clear k0 k1 k2 k3 k4 j0 j1 j2 j3 j4
  obtain ⟨k0, k1, k2, k3, k4⟩ := HX5.out.box
  obtain ⟨j0, j1, j2, j3, j4⟩ := HY5.out.box
  go_wp2_with fail
  refine (H6.out _ _ _ _ HG5.out (Nat.le_refl _)).mono ?_
  rintro e w6 ⟨rfl, b6⟩
  have HB6 : Hid (Below w.heap.size w w6) := HB5.out.trans (b6.mono HB5.out.size)
  have HX6 : Hid (RB w6 w1.heap.size met tar (.slice a1 F c1) body shut) := HX5.out.below b6
  have HY6 : Hid (RB w6 w2.heap.size met tar (.slice a2 F c2) body shut) := HY5.out.below b6
  have HF6 : Hid (FA w6.heap.size w6 a1 fs) := (FA.below HF5.out (fun b hb => b6.block b hb)).up b6.size
  have HG6 : Hid (FA w6.heap.size w6 a2 fs) := (FA.below HG5.out (fun b hb => b6.block b hb)).up b6.size
  clear b6
  clear k0 k1 k2 k3 k4 j0 j1 j2 j3 j4
  obtain ⟨k0, k1, k2, k3, k4⟩ := HX6.out.box
  obtain ⟨j0, j1, j2, j3, j4⟩ := HY6.out.box
  have HTR : Hid (∀ A B, Below w6.heap.size w6 A → Below A.heap.size A B → Below w6.heap.size w6 B) := fun A B h1 h2 => h1.trans (h2.mono h1.size)
  have HSS : Hid (∀ V, Below w6.heap.size w6 V → V.cell? ⟨w1.heap.size, 0, none⟩ = some (.string met) ∧ V.cell? ⟨w1.heap.size, 1, none⟩ = some (.string tar) ∧ V.cell? ⟨w1.heap.size, 2, none⟩ = some (.slice a1 F c1) ∧ V.cell? ⟨w1.heap.size, 3, none⟩ = some (.string body) ∧ V.cell? ⟨w1.heap.size, 4, none⟩ = some (.bool shut) ∧ V.cell? ⟨w2.heap.size, 0, none⟩ = some (.string met) ∧ V.cell? ⟨w2.heap.size, 1, none⟩ = some (.string tar) ∧ V.cell? ⟨w2.heap.size, 2, none⟩ = some (.slice a2 F c2) ∧ V.cell? ⟨w2.heap.size, 3, none⟩ = some (.string body) ∧ V.cell? ⟨w2.heap.size, 4, none⟩ = some (.bool shut)) := fun V hV => ⟨(HX6.out.below hV).box.1, (HX6.out.below hV).box.2.1, (HX6.out.below hV).box.2.2.1, (HX6.out.below hV).box.2.2.2.1, (HX6.out.below hV).box.2.2.2.2, (HY6.out.below hV).box.1, (HY6.out.below hV).box.2.1, (HY6.out.below hV).box.2.2.1, (HY6.out.below hV).box.2.2.2.1, (HY6.out.below hV).box.2.2.2.2⟩
  have HFF : Hid (∀ V, Below w6.heap.size w6 V → FA w6.heap.size V a1 fs) := fun V hV => FA.below HF6.out (fun b hb => hV.block b hb)
  have HGG : Hid (∀ V, Below w6.heap.size w6 V → FA w6.heap.size V a2 fs) := fun V hV => FA.below HG6.out (fun b hb => hV.block b hb)
  have HZZ : Hid (∀ V, Below w6.heap.size w6 V → w6.heap.size ≤ V.heap.size) := fun V hV => hV.size
  have HBW : Hid (∀ V, Below w6.heap.size w6 V → Below w.heap.size w V) := fun V hV => HB6.out.trans (hV.mono HB6.out.size)
  have bd : Below w6.heap.size w6 w6.drew := below_drew (Below.refl _ _)
  have sd := HSS.out _ bd
  clear k0 k1 k2 k3 k4 j0 j1 j2 j3 j4
  go_wp2_with fail
  refine wp_region_held_drew (S := (fun W => W.cell? ⟨w1.heap.size, 0, none⟩ = some (.string met) ∧ W.cell? ⟨w1.heap.size, 1, none⟩ = some (.string tar) ∧ W.cell? ⟨w1.heap.size, 2, none⟩ = some (.slice a1 F c1) ∧ W.cell? ⟨w1.heap.size, 3, none⟩ = some (.string body) ∧ W.cell? ⟨w1.heap.size, 4, none⟩ = some (.bool shut) ∧ W.cell? ⟨w2.heap.size, 0, none⟩ = some (.string met) ∧ W.cell? ⟨w2.heap.size, 1, none⟩ = some (.string tar) ∧ W.cell? ⟨w2.heap.size, 2, none⟩ = some (.slice a2 F c2) ∧ W.cell? ⟨w2.heap.size, 3, none⟩ = some (.string body) ∧ W.cell? ⟨w2.heap.size, 4, none⟩ = some (.bool shut))) (by kernel_rfl) sd (fun hHeld => ?_)
  refine wpAnyH_take (i := 0) (oi := ({ dst := some 57, op := Op.move (Operand.tmp 11), type := 9, pos := "law.go:54", after := #[], guard := none } : Oper)) (v := ?_) rfl (by kernel_rfl) (by kernel_rfl) (by kernel_rfl) (fun _ _ _ h => h) (Or.inl ⟨by rfl, ?_⟩) (by assumption) ?_
  rotate_left
  · (intro w hSw; (try dsimp only at hSw); go_simp; try with_reducible rfl)
  try simp only [Act.put, List.setIfInBounds_toArray, List.set_cons_zero, List.set_cons_succ]
  refine wpAnyH_take (i := 1) (oi := ({ dst := some 58, op := Op.move (Operand.tmp 13), type := 9, pos := "law.go:54", after := #[], guard := none } : Oper)) (v := ?_) rfl (by kernel_rfl) (by kernel_rfl) (by kernel_rfl) (fun _ _ _ h => h) (Or.inl ⟨by rfl, ?_⟩) (by assumption) ?_
  rotate_left
  · (intro w hSw; (try dsimp only at hSw); go_simp; try with_reducible rfl)
  try simp only [Act.put, List.setIfInBounds_toArray, List.set_cons_zero, List.set_cons_succ]
  refine wpAnyH_take (i := 2) (oi := ({ dst := some 59, op := Op.binOp BinOp.eql 9 (Operand.tmp 57) (Operand.tmp 58) 9, type := 4, pos := "law.go:54", after := #[{ on := 0, ground := Ground.data }, { on := 1, ground := Ground.data }], guard := none } : Oper)) (v := ?_) rfl (by kernel_rfl) (by kernel_rfl) (by kernel_rfl) (fun _ _ _ h => h) (Or.inl ⟨by rfl, ?_⟩) (by assumption) ?_
  rotate_left
  · (intro w hSw; (try dsimp only at hSw); go_simp; try with_reducible rfl)
  try simp only [Act.put, List.setIfInBounds_toArray, List.set_cons_zero, List.set_cons_succ]
  refine wpAnyH_take (i := 3) (oi := ({ dst := some 60, op := Op.move (Operand.tmp 59), type := 4, pos := "law.go:54", after := #[{ on := 2, ground := Ground.data }], guard := none } : Oper)) (v := ?_) rfl (by kernel_rfl) (by kernel_rfl) (by kernel_rfl) (fun _ _ _ h => h) (Or.inl ⟨by rfl, ?_⟩) (by assumption) ?_
  rotate_left
  · (intro w hSw; (try dsimp only at hSw); go_simp; try with_reducible rfl)
  try simp only [Act.put, List.setIfInBounds_toArray, List.set_cons_zero, List.set_cons_succ]
  refine wpAnyH_take (i := 4) (oi := ({ dst := some 61, op := Op.move (Operand.tmp 12), type := 4, pos := "law.go:54", after := #[{ on := 3, ground := Ground.guard }], guard := some (3, true) } : Oper)) (v := ?_) rfl (by kernel_rfl) (by kernel_rfl) (by kernel_rfl) (fun _ _ _ h => h) (Or.inl ⟨by rfl, ?_⟩) (by assumption) ?_
  rotate_left
  · (intro w hSw; (try dsimp only at hSw); go_simp; try with_reducible rfl)
  try simp only [Act.put, List.setIfInBounds_toArray, List.set_cons_zero, List.set_cons_succ]
  refine wpAnyH_take (i := 5) (oi := ({ dst := some 62, op := Op.move (Operand.tmp 14), type := 4, pos := "law.go:54", after := #[{ on := 3, ground := Ground.guard }], guard := some (3, true) } : Oper)) (v := ?_) rfl (by kernel_rfl) (by kernel_rfl) (by kernel_rfl) (fun _ _ _ h => h) (Or.inl ⟨by rfl, ?_⟩) (by assumption) ?_
  rotate_left
  · (intro w hSw; (try dsimp only at hSw); go_simp; try with_reducible rfl)
  try simp only [Act.put, List.setIfInBounds_toArray, List.set_cons_zero, List.set_cons_succ]
  refine wpAnyH_take (i := 6) (oi := ({ dst := some 63, op := Op.binOp BinOp.eql 4 (Operand.tmp 61) (Operand.tmp 62) 4, type := 4, pos := "law.go:54", after := #[{ on := 4, ground := Ground.data }, { on := 5, ground := Ground.data }, { on := 3, ground := Ground.guard }], guard := some (3, true) } : Oper)) (v := ?_) rfl (by kernel_rfl) (by kernel_rfl) (by kernel_rfl) (fun _ _ _ h => h) (Or.inl ⟨by rfl, ?_⟩) (by assumption) ?_
  rotate_left
  · (intro w hSw; (try dsimp only at hSw); go_simp; try with_reducible rfl)
  try simp only [Act.put, List.setIfInBounds_toArray, List.set_cons_zero, List.set_cons_succ]
  refine wpAnyH_take (i := 7) (oi := ({ dst := some 64, op := Op.pick (Operand.tmp 60) (Operand.tmp 63) (Operand.const (Value.bool false)), type := 4, pos := "law.go:54", after := #[{ on := 3, ground := Ground.data }, { on := 6, ground := Ground.data }], guard := none } : Oper)) (v := ?_) rfl (by kernel_rfl) (by kernel_rfl) (by kernel_rfl) (fun _ _ _ h => h) (Or.inl ⟨by rfl, ?_⟩) (by assumption) ?_
  rotate_left
  · (intro w hSw; (try dsimp only at hSw); go_simp; try with_reducible rfl)
  try simp only [Act.put, List.setIfInBounds_toArray, List.set_cons_zero, List.set_cons_succ]
  refine wpAnyH_take (i := 8) (oi := ({ dst := some 65, op := Op.move (Operand.tmp 64), type := 4, pos := "law.go:54", after := #[{ on := 7, ground := Ground.data }, { on := 3, ground := Ground.chain }], guard := none } : Oper)) (v := ?_) rfl (by kernel_rfl) (by kernel_rfl) (by kernel_rfl) (fun _ _ _ h => h) (Or.inl ⟨by rfl, ?_⟩) (by assumption) ?_
  rotate_left
  · (intro w hSw; (try dsimp only at hSw); go_simp; try with_reducible rfl)
  try simp only [Act.put, List.setIfInBounds_toArray, List.set_cons_zero, List.set_cons_succ]
  refine wpAnyH_take (i := 9) (oi := ({ dst := some 66, op := Op.load 24 (Operand.tmp 5), type := 24, pos := "law.go:54", after := #[{ on := 8, ground := Ground.guard }], guard := some (8, true) } : Oper)) (v := ?_) rfl (by kernel_rfl) (by kernel_rfl) (by kernel_rfl) (fun _ _ _ h => h) (Or.inl ⟨by rfl, ?_⟩) (by assumption) ?_
  rotate_left
  · (intro w hSw; (try dsimp only at hSw); go_simp; try with_reducible rfl)
  try simp only [Act.put, List.setIfInBounds_toArray, List.set_cons_zero, List.set_cons_succ]
  refine wpAnyH_take (i := 10) (oi := ({ dst := some 67, op := Op.move (Operand.tmp 1), type := 9, pos := "law.go:54", after := #[{ on := 8, ground := Ground.guard }], guard := some (8, true) } : Oper)) (v := ?_) rfl (by kernel_rfl) (by kernel_rfl) (by kernel_rfl) (fun _ _ _ h => h) (Or.inl ⟨by rfl, ?_⟩) (by assumption) ?_
  rotate_left
  · (intro w hSw; (try dsimp only at hSw); go_simp; try with_reducible rfl)
  try simp only [Act.put, List.setIfInBounds_toArray, List.set_cons_zero, List.set_cons_succ]
  refine wpAnyH_take (i := 12) (oi := ({ dst := some 69, op := Op.load 24 (Operand.tmp 8), type := 24, pos := "law.go:54", after := #[{ on := 8, ground := Ground.guard }], guard := some (8, true) } : Oper)) (v := ?_) rfl (by kernel_rfl) (by kernel_rfl) (by kernel_rfl) (fun _ _ _ h => h) (Or.inl ⟨by rfl, ?_⟩) (by assumption) ?_
  rotate_left
  · (intro w hSw; (try dsimp only at hSw); go_simp; try with_reducible rfl)
  try simp only [Act.put, List.setIfInBounds_toArray, List.set_cons_zero, List.set_cons_succ]
  refine wpAnyH_take (i := 13) (oi := ({ dst := some 70, op := Op.move (Operand.tmp 1), type := 9, pos := "law.go:54", after := #[{ on := 8, ground := Ground.guard }], guard := some (8, true) } : Oper)) (v := ?_) rfl (by kernel_rfl) (by kernel_rfl) (by kernel_rfl) (fun _ _ _ h => h) (Or.inl ⟨by rfl, ?_⟩) (by assumption) ?_
  rotate_left
  · (intro w hSw; (try dsimp only at hSw); go_simp; try with_reducible rfl)
  try simp only [Act.put, List.setIfInBounds_toArray, List.set_cons_zero, List.set_cons_succ]
  refine wpAnyH_ready (rs := [11]) (by kernel_rfl) (by simp) ?_
  refine AllReadyH.cons rfl (fun K hK => ?_) AllReadyH.nil
  go_simp
  go_wp2_with (go_at_call 15; refine Calls.mono (H7.out _ _ _ _ (HFF.out _ (by assumption)) (HZZ.out _ (by assumption))) ?_; rintro e wa ⟨aa, ca, rfl, hoa, ka⟩; have ba := HTR.out _ _ (by assumption) ka; have sa := HSS.out _ ba; have HOA : Hid _ := hoa; clear hoa ka)
  refine hK.out _ _ (by first | assumption | go_keep) (fun hHeld => ?_)
  clear hK K
  refine wpAnyH_ready (rs := [14]) (by kernel_rfl) (by simp) ?_
  refine AllReadyH.cons rfl (fun K hK => ?_) AllReadyH.nil
  go_simp
  go_wp2_with (go_at_call 16; refine Calls.mono (H8.out _ _ _ _ (HGG.out _ (by assumption)) (HZZ.out _ (by assumption))) ?_; rintro e wb ⟨ab, cb, rfl, hob, kb⟩; have bb := HTR.out _ _ (by assumption) kb; have sb := HSS.out _ bb; have HOA2 : Hid _ := row_on HOA.out kb; have HOB : Hid _ := hob; clear hob kb HOA)
  refine hK.out _ _ (by first | assumption | go_keep) (fun hHeld => ?_)
  clear hK K
  refine wpAnyH_ready (rs := [15]) (by kernel_rfl) (by simp) ?_
  refine AllReadyH.cons rfl (fun K hK => ?_) AllReadyH.nil
  go_simp
  go_wp2_with (go_at_call 14; refine Calls.mono (H9.out _ _ _ _ _ (row_texts HOA2.out) (row_texts HOB.out)) ?_; rintro e wz ⟨rfl, kz⟩; have bz := HTR.out _ _ (by assumption) kz; have sz := HSS.out _ bz; clear kz)
  refine hK.out _ _ (by first | assumption | go_keep) (fun hHeld => ?_)
  clear hK K
  refine wpAnyH_take (i := 16) (oi := ({ dst := some 73, op := Op.pick (Operand.tmp 65) (Operand.tmp 72) (Operand.const (Value.bool false)), type := 4, pos := "law.go:54", after := #[{ on := 8, ground := Ground.data }, { on := 15, ground := Ground.data }], guard := none } : Oper)) (v := ?_) rfl (by kernel_rfl) (by kernel_rfl) (by kernel_rfl) (fun _ _ _ h => h) (Or.inl ⟨by rfl, ?_⟩) (by assumption) ?_
  rotate_left
  · (intro w hSw; (try dsimp only at hSw); go_simp; try with_reducible rfl)
  try simp only [Act.put, List.setIfInBounds_toArray, List.set_cons_zero, List.set_cons_succ]
  refine wpAnyH_take (i := 17) (oi := ({ dst := some 4, op := Op.assign (Operand.tmp 73), type := 4, pos := "law.go:54", after := #[{ on := 16, ground := Ground.data }, { on := 15, ground := Ground.chain }, { on := 0, ground := Ground.phase }, { on := 1, ground := Ground.phase }, { on := 2, ground := Ground.phase }, { on := 3, ground := Ground.phase }, { on := 4, ground := Ground.phase }, { on := 5, ground := Ground.phase }, { on := 6, ground := Ground.phase }, { on := 7, ground := Ground.phase }, { on := 8, ground := Ground.phase }, { on := 9, ground := Ground.phase }, { on := 10, ground := Ground.phase }, { on := 11, ground := Ground.phase }, { on := 12, ground := Ground.phase }, { on := 13, ground := Ground.phase }, { on := 14, ground := Ground.phase }, { on := 15, ground := Ground.phase }, { on := 16, ground := Ground.phase }], guard := none } : Oper)) (v := ?_) rfl (by kernel_rfl) (by kernel_rfl) (by kernel_rfl) (fun _ _ _ h => h) (Or.inl ⟨by rfl, ?_⟩) (by assumption) ?_
  rotate_left
  · (intro w hSw; (try dsimp only at hSw); go_simp; try with_reducible rfl)
  try simp only [Act.put, List.setIfInBounds_toArray, List.set_cons_zero, List.set_cons_succ]
  refine wpAnyH_done (by kernel_rfl) ?_ _
  go_wp2_with fail
  go_ret
  exact ⟨rfl, HBW.out _ (by assumption)⟩
end Go.Proofs.YthhhoppmbimeiaaDoor
