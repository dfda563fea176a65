/-
  The contracts of seek and Get.
-/
import Derived.Test.YtdgmjmohfpjlnaaPth
import Derived.Laws.ResultCell
namespace Go.Proofs.Ytdgmjmohfpjlnaa
open Go.RowKit
theorem seek_eq {n : Nat} {cell : Nat → Cl} {nx : Nat → Nat → Nat} {E : List En} (r : Rep n cell nx E) (key : ByteArray) (seq : Nat) : lsL 0 (ahE key seq E) < n := by
  rcases lsL_mem (k := 0) (B := ahE key seq E) with h | ⟨e, he, h, _⟩
  · rw [h]; have := r.size; omega
  · rw [h]
    exact (r.each e (by rw [← ah_be key seq E]; exact List.mem_append_left _ he)).2.1
theorem run_ix (W : World) (a0 a1 a2 a3 a4 a5 a6 a7 a8 a9 a10 a11 : Int) : (Instr.index 66 (.agg #[.int .i64 a0, .int .i64 a1, .int .i64 a2, .int .i64 a3, .int .i64 a4, .int .i64 a5, .int .i64 a6, .int .i64 a7, .int .i64 a8, .int .i64 a9, .int .i64 a10, .int .i64 a11]) (.int .i64 0)).run Try.prog W = .ok (.int .i64 a0) W := by
  simp [Instr.index, run_underlying Try.underlying66, asIntOf, go_sem, Try.sizeOf3, part, Try.isAgg3]
set_option maxRecDepth 20000 in
set_option maxHeartbeats 8000000 in
theorem seek_any (B g b cap : Nat) (s : St) (key : ByteArray) (seq : Nat) (w : World) (h : MA B w g b cap s) : Calls Try.prog 38 #[.pointer (some ⟨g, 0, none⟩), .string key, .int .u64 (seq : Nat)] w fun e w' => e = .returned (.int .i64 (fsL 0 (beE key seq s.E) : Nat)) ∧ Below w.heap.size w w' := by
  have HM : Hid (MA B w g b cap s) := h
  have hnx := rep_split h.rep key seq 0 (by decide)
  have hal := seek_eq h.rep key seq
  have HP : Hid (∀ W, Below w.heap.size w W → _) := fun W k => path_any B g b cap s key seq W (h.below k)
  have hF0 : (fun k => lsL k (ahE key seq s.E)) 0 = lsL 0 (ahE key seq s.E) := rfl
  obtain ⟨F, hF⟩ : ∃ F, (fun k => lsL k (ahE key seq s.E)) = F := ⟨_, rfl⟩
  rw [hF] at HP hF0
  rw [← hF0] at hnx hal
  unfold lkL at HP
  obtain ⟨p, hp⟩ : ∃ p, F 0 = p := ⟨_, rfl⟩
  rw [hp] at HP hnx hal
  have HSS : Hid (∀ W, Below w.heap.size w W → W.cell? ⟨g, 1, none⟩ = some (.slice (some ⟨b, 0, none⟩) s.n cap) ∧ W.cell? ⟨b, p * 16 + 4, none⟩ = some (.int .i64 (s.nx p 0 : Nat))) := fun W k => ⟨(h.below k).hd.2.1, (h.below k).link hal (k := 0) (by decide)⟩
  rw [hnx] at HSS
  have hpn : (p : Int) < (s.n : Int) := by omega
  obtain ⟨N, hN⟩ : ∃ N, fsL 0 (beE key seq s.E) = N := ⟨_, rfl⟩
  rw [hN] at HSS ⊢
  obtain ⟨c1, c2⟩ := HSS.out w (Below.refl _ _)
  have hsm := h.small
  clear hN hnx hF hF0 hp h hal
  have HBD : Hid (Below w.heap.size w w.drew) := (Below.refl _ _).drew
  have hS0 := HSS.out w.drew HBD.out
  have hix := fun W => run_ix W (p : Nat) (F 1 : Nat) (F 2 : Nat) (F 3 : Nat) (F 4 : Nat) (F 5 : Nat) (F 6 : Nat) (F 7 : Nat) (F 8 : Nat) (F 9 : Nat) (F 10 : Nat) (F 11 : Nat)
  go_enter Try.func38, Try.ntmps38
  go_wp2_with fail
  refine wp_region_held_drew (S := fun W => W.cell? ⟨g, 1, none⟩ = some (.slice (some ⟨b, 0, none⟩) s.n cap) ∧ W.cell? ⟨b, p * 16 + 4, none⟩ = some (.int .i64 (N : Nat))) (by kernel_rfl) hS0 (fun hHeld => ?_)
  refine wpAnyH_take (i := 0) (oi := ({ dst := some 7, op := Op.move (Operand.tmp 0), type := 23, pos := "list.go:54", after := #[], guard := none } : Oper)) (v := ?_) rfl (by kernel_rfl) (by kernel_rfl) (by kernel_rfl) (fun _ _ _ h => h) (Or.inl ⟨by rfl, ?_⟩) (by assumption) ?_
  rotate_left
  · (intro w hSw; (try dsimp only at hSw); go_simp; try with_reducible rfl)
  try simp only [Act.put, List.setIfInBounds_toArray, List.set_cons_zero, List.set_cons_succ]
  refine wpAnyH_take (i := 1) (oi := ({ dst := some 8, op := Op.nilCheck (Operand.tmp 7), type := 0, pos := "list.go:54", after := #[{ on := 0, ground := Ground.data }], guard := none } : Oper)) (v := ?_) rfl (by kernel_rfl) (by kernel_rfl) (by kernel_rfl) (fun _ _ _ h => h) (Or.inl ⟨by rfl, ?_⟩) (by assumption) ?_
  rotate_left
  · (intro w hSw; (try dsimp only at hSw); go_simp; try with_reducible rfl)
  try simp only [Act.put, List.setIfInBounds_toArray, List.set_cons_zero, List.set_cons_succ]
  refine wpAnyH_take (i := 2) (oi := ({ dst := some 9, op := Op.fieldAddr 59 (Operand.tmp 8) 1, type := 0, pos := "list.go:54", after := #[{ on := 1, ground := Ground.data }], guard := none } : Oper)) (v := ?_) rfl (by kernel_rfl) (by kernel_rfl) (by kernel_rfl) (fun _ _ _ h => h) (Or.inl ⟨by rfl, ?_⟩) (by assumption) ?_
  rotate_left
  · (intro w hSw; (try dsimp only at hSw); go_simp; try with_reducible rfl)
  try simp only [Act.put, List.setIfInBounds_toArray, List.set_cons_zero, List.set_cons_succ]
  refine wpAnyH_take (i := 3) (oi := ({ dst := some 10, op := Op.load 57 (Operand.tmp 9), type := 57, pos := "list.go:54", after := #[{ on := 2, ground := Ground.data }], guard := none } : Oper)) (v := ?_) rfl (by kernel_rfl) (by kernel_rfl) (by kernel_rfl) (fun _ _ _ h => h) (Or.inl ⟨by rfl, ?_⟩) (by assumption) ?_
  rotate_left
  · (intro w hSw; (try dsimp only at hSw); go_simp; try with_reducible rfl)
  try simp only [Act.put, List.setIfInBounds_toArray, List.set_cons_zero, List.set_cons_succ]
  refine wpAnyH_take (i := 4) (oi := ({ dst := some 11, op := Op.move (Operand.tmp 0), type := 23, pos := "list.go:54", after := #[], guard := none } : Oper)) (v := ?_) rfl (by kernel_rfl) (by kernel_rfl) (by kernel_rfl) (fun _ _ _ h => h) (Or.inl ⟨by rfl, ?_⟩) (by assumption) ?_
  rotate_left
  · (intro w hSw; (try dsimp only at hSw); go_simp; try with_reducible rfl)
  try simp only [Act.put, List.setIfInBounds_toArray, List.set_cons_zero, List.set_cons_succ]
  refine wpAnyH_take (i := 5) (oi := ({ dst := some 12, op := Op.move (Operand.tmp 1), type := 9, pos := "list.go:54", after := #[], guard := none } : Oper)) (v := ?_) rfl (by kernel_rfl) (by kernel_rfl) (by kernel_rfl) (fun _ _ _ h => h) (Or.inl ⟨by rfl, ?_⟩) (by assumption) ?_
  rotate_left
  · (intro w hSw; (try dsimp only at hSw); go_simp; try with_reducible rfl)
  try simp only [Act.put, List.setIfInBounds_toArray, List.set_cons_zero, List.set_cons_succ]
  refine wpAnyH_take (i := 6) (oi := ({ dst := some 13, op := Op.move (Operand.tmp 2), type := 31, pos := "list.go:54", after := #[], guard := none } : Oper)) (v := ?_) rfl (by kernel_rfl) (by kernel_rfl) (by kernel_rfl) (fun _ _ _ h => h) (Or.inl ⟨by rfl, ?_⟩) (by assumption) ?_
  rotate_left
  · (intro w hSw; (try dsimp only at hSw); go_simp; try with_reducible rfl)
  try simp only [Act.put, List.setIfInBounds_toArray, List.set_cons_zero, List.set_cons_succ]
  refine wpAnyH_ready (rs := [7]) (by kernel_rfl) (by simp) ?_
  refine AllReadyH.cons rfl (fun K hK => ?_) AllReadyH.nil
  go_simp
  go_wp2_with (go_at_call 29; refine (HP.out _ HBD.out).mono ?_; rintro e w5 ⟨rfl, b5⟩; have q5 : Below w.heap.size w w5 := HBD.out.trans b5; have hS5 := HSS.out w5 q5)
  refine hK.out _ _ (by assumption) (fun hHeld => ?_)
  clear hK K
  refine wpAnyH_take (i := 8) (oi := ({ dst := some 15, op := Op.index 66 (Operand.tmp 14) (Operand.const (Value.int IntKind.i64 0)), type := 3, pos := "list.go:54", after := #[{ on := 7, ground := Ground.data }], guard := none } : Oper)) (v := ?_) rfl (by kernel_rfl) (by kernel_rfl) (by kernel_rfl) (fun _ _ _ h => h) (Or.inl ⟨by rfl, ?_⟩) (by assumption) ?_
  rotate_left
  · (intro w hSw; (try dsimp only at hSw); go_simp; try with_reducible rfl)
  try simp only [Act.put, List.setIfInBounds_toArray, List.set_cons_zero, List.set_cons_succ]
  refine wpAnyH_take (i := 9) (oi := ({ dst := some 16, op := Op.indexAddr 57 (Operand.tmp 10) (Operand.tmp 15), type := 0, pos := "list.go:54", after := #[{ on := 3, ground := Ground.data }, { on := 8, ground := Ground.data }], guard := none } : Oper)) (v := ?_) rfl (by kernel_rfl) (by kernel_rfl) (by kernel_rfl) (fun _ _ _ h => h) (Or.inl ⟨by rfl, ?_⟩) (by assumption) ?_
  rotate_left
  · (intro w hSw; (try dsimp only at hSw); go_simp; try with_reducible rfl)
  try simp only [Act.put, List.setIfInBounds_toArray, List.set_cons_zero, List.set_cons_succ]
  refine wpAnyH_take (i := 10) (oi := ({ dst := some 17, op := Op.fieldAddr 68 (Operand.tmp 16) 1, type := 0, pos := "list.go:54", after := #[{ on := 9, ground := Ground.data }], guard := none } : Oper)) (v := ?_) rfl (by kernel_rfl) (by kernel_rfl) (by kernel_rfl) (fun _ _ _ h => h) (Or.inl ⟨by rfl, ?_⟩) (by assumption) ?_
  rotate_left
  · (intro w hSw; (try dsimp only at hSw); go_simp; try with_reducible rfl)
  try simp only [Act.put, List.setIfInBounds_toArray, List.set_cons_zero, List.set_cons_succ]
  refine wpAnyH_take (i := 11) (oi := ({ dst := some 18, op := Op.indexAddr 66 (Operand.tmp 17) (Operand.const (Value.int IntKind.i64 0)), type := 0, pos := "list.go:54", after := #[{ on := 10, ground := Ground.data }], guard := none } : Oper)) (v := ?_) rfl (by kernel_rfl) (by kernel_rfl) (by kernel_rfl) (fun _ _ _ h => h) (Or.inl ⟨by rfl, ?_⟩) (by assumption) ?_
  rotate_left
  · (intro w hSw; (try dsimp only at hSw); go_simp; try with_reducible rfl)
  try simp only [Act.put, List.setIfInBounds_toArray, List.set_cons_zero, List.set_cons_succ]
  refine wpAnyH_take (i := 12) (oi := ({ dst := some 19, op := Op.load 3 (Operand.tmp 18), type := 3, pos := "list.go:54", after := #[{ on := 11, ground := Ground.data }], guard := none } : Oper)) (v := ?_) rfl (by kernel_rfl) (by kernel_rfl) (by kernel_rfl) (fun _ _ _ h => h) (Or.inl ⟨by rfl, ?_⟩) (by assumption) ?_
  rotate_left
  · (intro w hSw; (try dsimp only at hSw); go_simp; try with_reducible rfl)
  try simp only [Act.put, List.setIfInBounds_toArray, List.set_cons_zero, List.set_cons_succ]
  refine wpAnyH_take (i := 13) (oi := ({ dst := some 6, op := Op.assign (Operand.tmp 19), type := 3, pos := "list.go:54", after := #[{ on := 12, ground := Ground.data }, { on := 7, ground := Ground.chain }, { on := 0, ground := Ground.phase }, { on := 1, ground := Ground.phase }, { on := 2, ground := Ground.phase }, { on := 3, ground := Ground.phase }, { on := 4, ground := Ground.phase }, { on := 5, ground := Ground.phase }, { on := 6, ground := Ground.phase }, { on := 7, ground := Ground.phase }, { on := 8, ground := Ground.phase }, { on := 9, ground := Ground.phase }, { on := 10, ground := Ground.phase }, { on := 11, ground := Ground.phase }, { on := 12, ground := Ground.phase }], guard := none } : Oper)) (v := ?_) rfl (by kernel_rfl) (by kernel_rfl) (by kernel_rfl) (fun _ _ _ h => h) (Or.inl ⟨by rfl, ?_⟩) (by assumption) ?_
  rotate_left
  · (intro w hSw; (try dsimp only at hSw); go_simp; try with_reducible rfl)
  try simp only [Act.put, List.setIfInBounds_toArray, List.set_cons_zero, List.set_cons_succ]
  refine wpAnyH_done (by kernel_rfl) ?_ _
  all_goals
    go_wp2_with fail
    go_ret
    exact ⟨rfl, q5⟩
/-- A cell in a block. -/
def CB (W : World) (x : Nat) (c : Cl) : Prop := W.heap[x]? = some (.cells (clL c).toArray 33 (0, 0))
theorem CB.below {W W' : World} {x : Nat} {c : Cl} (h : CB W x c) (b : Below W.heap.size W W') : CB W' x c := (b.block x (Array.getElem?_eq_some_iff.1 h).1).trans h
theorem CB.lt {W : World} {x : Nat} {c : Cl} (h : CB W x c) : x < W.heap.size := (Array.getElem?_eq_some_iff.1 h).1
theorem CB.cells {W : World} {x : Nat} {c : Cl} (h : CB W x c) : W.cell? ⟨x, 0, none⟩ = some (.string c.key) ∧ W.cell? ⟨x, 1, none⟩ = some (.int .u64 (c.seq : Nat)) ∧ W.cell? ⟨x, 2, none⟩ = some (.string c.val) ∧ W.cell? ⟨x, 3, none⟩ = some (.bool c.gone) := ⟨cell_of_block h rfl, cell_of_block h rfl, cell_of_block h rfl, cell_of_block h rfl⟩
theorem CB.free {W : World} {x : Nat} {c : Cl} (h : CB W x c) : W.frozen? ⟨x, 0, none⟩ = false ∧ W.frozen? ⟨x, 1, none⟩ = false ∧ W.frozen? ⟨x, 2, none⟩ = false ∧ W.frozen? ⟨x, 3, none⟩ = false := ⟨free_of_block h _, free_of_block h _, free_of_block h _, free_of_block h _⟩
def set4 (W : World) (x : Nat) (c : Cl) : World := (((W.setCell ⟨x, 0, none⟩ (.string c.key)).setCell ⟨x, 1, none⟩ (.int .u64 (c.seq : Nat))).setCell ⟨x, 2, none⟩ (.string c.val)).setCell ⟨x, 3, none⟩ (.bool c.gone)
theorem CB.set {W : World} {x : Nat} {c0 : Cl} (h : CB W x c0) (c : Cl) : CB (set4 W x c) x c := by
  have := set_block (set_block (set_block (set_block h 0 (.string c.key)) 1 (.int .u64 (c.seq : Nat))) 2 (.string c.val)) 3 (.bool c.gone)
  simpa [CB, clL, set4] using this
theorem set4_below {B : Nat} {a W : World} (h : Below B a W) {x : Nat} (hx : B ≤ x) (c : Cl) : Below B a (set4 W x c) :=
  (((h.setCell (p := ⟨x, 0, none⟩) hx _).setCell (p := ⟨x, 1, none⟩) hx _).setCell (p := ⟨x, 2, none⟩) hx _).setCell (p := ⟨x, 3, none⟩) hx _
def getV : Option Cl → Value
  | some c => .tuple #[clV c, .bool true]
  | none => .tuple #[clV cl0, .bool false]
theorem getE_at {n : Nat} {cell : Nat → Cl} {nx : Nat → Nat → Nat} {E : List En} (r : Rep n cell nx E) (key : ByteArray) (seq : Nat) : (fsL 0 (beE key seq E) = 0 ∧ getE key seq E = none) ∨ ∃ e : En, fsL 0 (beE key seq E) = e.p ∧ 1 ≤ e.p ∧ e.p < n ∧ cell e.p = e.c ∧ getE key seq E = if e.c.key.toList = key.toList then some e.c else none := by
  unfold getE
  cases hb : beE key seq E with
  | nil => exact Or.inl ⟨rfl, rfl⟩
  | cons e R =>
    have he := r.each e (by rw [← ah_be key seq E, hb]; simp)
    exact Or.inr ⟨e, fsL_hit (by omega) _, he.1, he.2.1, he.2.2.1, rfl⟩
set_option maxRecDepth 20000 in
set_option maxHeartbeats 8000000 in
theorem get_any (B g b cap : Nat) (s : St) (key : ByteArray) (seq : Nat) (w : World) (h : MA B w g b cap s) : Calls Try.prog 16 #[.pointer (some ⟨g, 0, none⟩), .string key, .int .u64 (seq : Nat)] w fun e w' => e = .returned (getV (getE key seq s.E)) ∧ Below w.heap.size w w' := by
  have HM : Hid (∀ W, Below w.heap.size w W → MA B W g b cap s) := fun W k => h.below k
  have HSK : Hid (∀ W, Below w.heap.size w W → _) := fun W k => seek_any B g b cap s key seq W (h.below k)
  have hat := getE_at h.rep key seq
  obtain ⟨G, hG⟩ : ∃ G, getE key seq s.E = G := ⟨_, rfl⟩
  rw [hG] at hat ⊢
  obtain ⟨N, hN⟩ : ∃ N, fsL 0 (beE key seq s.E) = N := ⟨_, rfl⟩
  rw [hN] at hat HSK
  have hsm := h.small
  clear hG hN h
  obtain ⟨W0, hW0⟩ : ∃ W0, w.alloc (.cells #[.string ⟨#[]⟩, .int .u64 0, .string ⟨#[]⟩, .bool false] 33) = W0 := ⟨_, rfl⟩
  have HB0 : Hid (Below w.heap.size w W0) := by rw [Hid, ← hW0]; exact below_new _ _
  have HC0 : Hid (CB W0 w.heap.size cl0) := by rw [Hid, ← hW0]; exact block_alloc_at _ _
  have HCL : Hid (∀ W, Below w.heap.size w W → _) := fun W k => closed_no g W (HM.out W k).hd.1
  go_enter Try.func16, Try.ntmps16
  go_wp2_with fail
  try rw [hW0]
  refine (HCL.out W0 HB0.out).mono ?_
  rintro e w1 ⟨rfl, hw1⟩
  rw [hw1]
  clear hw1 w1 hW0
  go_wp2_with fail
  refine (HSK.out W0 HB0.out).mono ?_
  rintro e w2 ⟨rfl, b2⟩
  have HB2 : Hid (Below w.heap.size w w2) := below_on HB0.out b2
  have HC2 : Hid (CB w2 w.heap.size cl0) := HC0.out.below b2
  clear b2
  obtain ⟨m0, m1, m2⟩ := (HM.out w2 HB2.out).hd
  have fin : ∀ c : Cl, CB (set4 w2 w.heap.size c) w.heap.size c ∧ Below w.heap.size w (set4 w2 w.heap.size c) := fun c => ⟨HC2.out.set c, set4_below HB2.out (Nat.le_refl _) c⟩
  have HFIN : Hid _ := fin
  clear fin
  rcases hat with ⟨rfl, hG⟩ | ⟨e, rfl, e1, e2, e3, hG⟩
  · have HG : Hid _ := hG
    obtain ⟨f0, f1, f2, f3⟩ := CB.free HC2.out
    obtain ⟨z0, z1, z2, z3⟩ := CB.cells HC2.out
    obtain ⟨W9, hW9⟩ : ∃ W9, set4 w2 w.heap.size cl0 = W9 := ⟨_, rfl⟩
    obtain ⟨hx9, hb9⟩ := HFIN.out cl0
    rw [hW9] at hx9 hb9
    have HX9 : Hid (CB W9 w.heap.size cl0) := hx9
    have HB9 : Hid (Below w.heap.size w W9) := hb9
    have hq : (((w2.setCell ⟨w.heap.size, 0, none⟩ (.string ⟨#[]⟩)).setCell ⟨w.heap.size, 1, none⟩ (.int .u64 0)).setCell ⟨w.heap.size, 2, none⟩ (.string ⟨#[]⟩)).setCell ⟨w.heap.size, 3, none⟩ (.bool false) = W9 := hW9
    have HW9 : Hid _ := hq
    clear hW9 hq hx9 hb9 hG
    go_wp2_with fail
    rw [HW9.out]
    clear HW9 f0 f1 f2 f3 z0 z1 z2 z3
    obtain ⟨z0, z1, z2, z3⟩ := CB.cells HX9.out
    refine bodyPost_ret (v := getV none) ?_ rfl ⟨by rw [HG.out], HB9.out⟩
    rw [results_cell_tmp rfl]
    unfold getV clV cl0
    unfold cl0 at z0 z1 z2 z3
    go_simp
  · obtain ⟨d0, d1, d2, d3⟩ := (HM.out w2 HB2.out).node e2
    rw [e3] at d0 d1 d2 d3
    have hpz : ((e.p : Int) == 0) = false := by rw [beq_eq_false_iff_ne]; omega
    have hpn : (e.p : Int) < (s.n : Int) := by omega
    by_cases hk : e.c.key.toList = key.toList
    · have HG : Hid _ := hG.trans (if_pos hk)
      have hkz : (e.c.key.toList == key.toList) = true := by simp [hk]
      obtain ⟨f0, f1, f2, f3⟩ := CB.free HC2.out
      obtain ⟨z0, z1, z2, z3⟩ := CB.cells HC2.out
      obtain ⟨W9, hW9⟩ : ∃ W9, set4 w2 w.heap.size e.c = W9 := ⟨_, rfl⟩
      obtain ⟨hx9, hb9⟩ := HFIN.out e.c
      rw [hW9] at hx9 hb9
      have HX9 : Hid (CB W9 w.heap.size e.c) := hx9
      have HB9 : Hid (Below w.heap.size w W9) := hb9
      unfold set4 at hW9
      have HW9 : Hid _ := hW9
      clear hW9 hx9 hb9 hG hk e1 e3
      go_wp2_with fail
      rw [HW9.out]
      clear HW9 f0 f1 f2 f3 z0 z1 z2 z3
      obtain ⟨z0, z1, z2, z3⟩ := CB.cells HX9.out
      refine bodyPost_ret (v := getV (some e.c)) ?_ rfl ⟨by rw [HG.out], HB9.out⟩
      rw [results_cell_tmp rfl]
      unfold getV clV
      go_simp
    · have HG : Hid _ := hG.trans (if_neg hk)
      have hkz : (e.c.key.toList == key.toList) = false := by simp [hk]
      obtain ⟨f0, f1, f2, f3⟩ := CB.free HC2.out
      obtain ⟨z0, z1, z2, z3⟩ := CB.cells HC2.out
      obtain ⟨W9, hW9⟩ : ∃ W9, set4 w2 w.heap.size cl0 = W9 := ⟨_, rfl⟩
      obtain ⟨hx9, hb9⟩ := HFIN.out cl0
      rw [hW9] at hx9 hb9
      have HX9 : Hid (CB W9 w.heap.size cl0) := hx9
      have HB9 : Hid (Below w.heap.size w W9) := hb9
      have hq : (((w2.setCell ⟨w.heap.size, 0, none⟩ (.string ⟨#[]⟩)).setCell ⟨w.heap.size, 1, none⟩ (.int .u64 0)).setCell ⟨w.heap.size, 2, none⟩ (.string ⟨#[]⟩)).setCell ⟨w.heap.size, 3, none⟩ (.bool false) = W9 := hW9
      have HW9 : Hid _ := hq
      clear hW9 hq hx9 hb9 hG hk e1 e3
      go_wp2_with fail
      rw [HW9.out]
      clear HW9 f0 f1 f2 f3 z0 z1 z2 z3
      obtain ⟨z0, z1, z2, z3⟩ := CB.cells HX9.out
      refine bodyPost_ret (v := getV none) ?_ rfl ⟨by rw [HG.out], HB9.out⟩
      rw [results_cell_tmp rfl]
      unfold getV clV cl0
      unfold cl0 at z0 z1 z2 z3
      go_simp
end Go.Proofs.Ytdgmjmohfpjlnaa
