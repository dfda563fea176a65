/-
  The contract of insert.
-/
import Derived.Test.YtdgmjmohfpjlnaaGet
import Derived.Deep.AppendLies
import Derived.Deep.RegionLaw
namespace Go.Proofs.Ytdgmjmohfpjlnaa
open Go.RowKit
/-- All is kept but two blocks. -/
structure KM (g b : Nat) (w w' : World) : Prop where
  os : w'.os = w.os
  tape : w'.tape = w.tape
  output : w'.output = w.output
  size : w.heap.size ≤ w'.heap.size
  block : ∀ x, x < w.heap.size → x ≠ g → x ≠ b → w'.heap[x]? = w.heap[x]?
theorem KM.refl (g b : Nat) (w : World) : KM g b w w := ⟨rfl, rfl, rfl, Nat.le_refl _, fun _ _ _ _ => rfl⟩
theorem KM.trans {g b : Nat} {w w1 w2 : World} (h1 : KM g b w w1) (h2 : KM g b w1 w2) : KM g b w w2 := ⟨h2.os.trans h1.os, h2.tape.trans h1.tape, h2.output.trans h1.output, Nat.le_trans h1.size h2.size, fun x hx hg hb => (h2.block x (Nat.lt_of_lt_of_le hx h1.size) hg hb).trans (h1.block x hx hg hb)⟩
theorem KM.of {g b : Nat} {w w' : World} (h : Below w.heap.size w w') : KM g b w w' := ⟨h.os, h.tape, h.output, h.size, fun x hx _ _ => h.block x hx⟩
theorem KM.below {g b B : Nat} {w w' : World} (h : KM g b w w') (hg : B ≤ g) (hb : B ≤ b) (hB : B ≤ w.heap.size) : Below B w w' := ⟨h.os, h.tape, h.output, h.size, fun x hx => h.block x (by omega) (by omega) (by omega)⟩
theorem KM.set {g b : Nat} {w w' : World} (h : KM g b w w') {a : Addr} (ha : a.block = g ∨ a.block = b ∨ w.heap.size ≤ a.block) (v : Value) : KM g b w (w'.setCell a v) := ⟨h.os, h.tape, h.output, by simpa [World.setCell] using h.size, fun x hx h1 h2 => (Below.heap_setCell _ _ _ _ (by rcases ha with q | q | q <;> omega)).trans (h.block x hx h1 h2)⟩
theorem ndL_set (c : Cl) (f : Nat → Nat) {k : Nat} (hk : k < 12) (v : Nat) : (ndL c f).set (4 + k) (.int .i64 (v : Nat)) = ndL c (fun j => if j = k then v else f j) := by
  unfold ndL
  rw [List.set_append_right _ _ (by show 4 ≤ 4 + k; omega), show 4 + k - (clL c).length = k by show 4 + k - 4 = k; omega, lkL_set _ hk]
theorem ndL_link (c : Cl) (f : Nat → Nat) {k : Nat} (hk : k < 12) : (ndL c f)[4 + k]? = some (.int .i64 (f k : Nat)) := by
  unfold ndL
  rw [List.getElem?_append_right (by show 4 ≤ 4 + k; omega), show 4 + k - (clL c).length = k by show 4 + k - 4 = k; omega]
  exact lkL_get _ hk
/-- A node in a block. -/
def NB (W : World) (x : Nat) (c : Cl) (f : Nat → Nat) : Prop := W.heap[x]? = some (.cells (ndL c f).toArray 68 (0, 0))
theorem NB.set {W : World} {x : Nat} {c : Cl} {f : Nat → Nat} (h : NB W x c f) {k : Nat} (hk : k < 12) (v : Nat) : NB (W.setCell ⟨x, 4 + k, none⟩ (.int .i64 (v : Nat))) x c (fun j => if j = k then v else f j) := by
  have := set_block h (4 + k) (.int .i64 (v : Nat))
  unfold NB
  rw [this, ← ndL_set c f hk v]
  simp
def nxK (n : Nat) (F : Nat → Nat) (nx : Nat → Nat → Nat) (k p j : Nat) : Nat := if j < k ∧ p = F j then n else nx p j
def nnK (F : Nat → Nat) (nx : Nat → Nat → Nat) (k j : Nat) : Nat := if j < k then nx (F j) j else 0
theorem nxK_zero (n : Nat) (F : Nat → Nat) (nx : Nat → Nat → Nat) : nxK n F nx 0 = nx := by funext p j; unfold nxK; rw [if_neg (by omega)]
theorem nxK_at (n : Nat) (F : Nat → Nat) (nx : Nat → Nat → Nat) (k : Nat) : nxK n F nx k (F k) k = nx (F k) k := by unfold nxK; rw [if_neg (by omega)]
theorem nxK_step (n : Nat) (F : Nat → Nat) (nx : Nat → Nat → Nat) (k : Nat) : (fun q j => if q = F k ∧ j = k then n else nxK n F nx k q j) = nxK n F nx (k + 1) := by
  funext q j
  unfold nxK
  by_cases h : j = k
  · subst h
    by_cases h2 : q = F j
    · rw [if_pos ⟨h2, rfl⟩, if_pos ⟨by omega, h2⟩]
    · rw [if_neg (fun z => h2 z.1), if_neg (fun z => h2 z.2), if_neg (fun z => h2 z.2)]
  · rw [if_neg (fun z => h z.2)]
    by_cases h2 : j < k ∧ q = F j
    · rw [if_pos h2, if_pos ⟨by omega, h2.2⟩]
    · rw [if_neg h2, if_neg (fun z => h2 ⟨by omega, z.2⟩)]
theorem nnK_step (F : Nat → Nat) (nx : Nat → Nat → Nat) (k : Nat) : (fun j => if j = k then nx (F k) k else nnK F nx k j) = nnK F nx (k + 1) := by
  funext j
  unfold nnK
  by_cases h : j = k
  · subst h; rw [if_pos rfl, if_pos (by omega)]
  · rw [if_neg h]
    by_cases h2 : j < k
    · rw [if_pos h2, if_pos (by omega)]
    · rw [if_neg h2, if_neg (by omega)]
theorem row_ins (n height : Nat) (c : Cl) (F : Nat → Nat) (cell : Nat → Cl) (nx : Nat → Nat → Nat) : rowL n cell (nxK n F nx height) ++ ndL c (nnK F nx height) = rowL (n + 1) (ceI n c cell) (nxI n height F nx) := by
  rw [rowL_succ]
  have e1 : rowL n cell (nxK n F nx height) = rowL n (ceI n c cell) (nxI n height F nx) := rowL_congr (fun p hp => ⟨by unfold ceI; rw [if_neg (by omega)], fun k _ => by unfold nxI nxK; rw [if_neg (show ¬ p = n by omega)]⟩)
  have e2 : ceI n c cell n = c := by unfold ceI; rw [if_pos rfl]
  have e3 : nxI n height F nx n = nnK F nx height := by funext k; unfold nxI nnK; rw [if_pos rfl]
  rw [e1, e2, e3]
/-- Where insert's loop stands. -/
structure IS (B g b cap : Nat) (s : St) (w : World) (z : Nat) (c : Cl) (F : Nat → Nat) (k : Nat) (wr : World) : Prop where
  blk : wr.heap[g]? = some (.cells #[.pointer (some ⟨g, 0, none⟩), .slice (some ⟨b, 0, none⟩) s.n cap, .int .i64 (s.size : Nat)] 59 (0, 0))
  row : wr.ownsRow B 68 16 (.slice (some ⟨b, 0, none⟩) s.n cap) s.n (rowL s.n s.cell (nxK s.n F s.nx k))
  path : AB wr (z + 1) F
  node : NB wr (z + 1 + 1) c (nnK F s.nx k)
  km : KM g b w wr
theorem IS.drew {B g b cap : Nat} {s : St} {w : World} {z : Nat} {c : Cl} {F : Nat → Nat} {k : Nat} {wr : World} (h : IS B g b cap s w z c F k wr) (q : Nat) : IS B g b cap s w z c F k (wr.drewN q) := ⟨h.blk, h.row, h.path, h.node, ⟨h.km.os, h.km.tape, h.km.output, h.km.size, h.km.block⟩⟩
theorem IS.link {B g b cap : Nat} {s : St} {w : World} {z : Nat} {c : Cl} {F : Nat → Nat} {k : Nat} {wr : World} (h : IS B g b cap s w z c F k wr) (hF : F k < s.n) (hk : k < 12) : wr.cell? ⟨b, F k * 16 + 4 + k, none⟩ = some (.int .i64 (s.nx (F k) k : Nat)) := by
  rw [Nat.add_assoc, World.ownsRow.cellAt h.row _ (by omega), rowL_get _ _ hF (by omega), ndL_link _ _ hk, nxK_at]
theorem IS.step {B g b cap : Nat} {s : St} {w : World} {z : Nat} {c : Cl} {F : Nat → Nat} {k : Nat} {wr : World} (h : IS B g b cap s w z c F k wr) (hF : F k < s.n) (hk : k < 12) (hz : w.heap.size = z) (hg : g < z) (hb : b < z) (hgb : g ≠ b) :
    IS B g b cap s w z c F (k + 1) ((wr.setCell ⟨z + 1 + 1, 4 + k, none⟩ (.int .i64 (s.nx (F k) k : Nat))).setCell ⟨b, F k * 16 + 4 + k, none⟩ (.int .i64 (s.n : Nat))) := by
  have hrow1 : (wr.setCell ⟨z + 1 + 1, 4 + k, none⟩ (.int .i64 (s.nx (F k) k : Nat))).ownsRow B 68 16 (.slice (some ⟨b, 0, none⟩) s.n cap) s.n (rowL s.n s.cell (nxK s.n F s.nx k)) := ownsRow_setCell_other h.row (a := ⟨z + 1 + 1, 4 + k, none⟩) (fun e => by have : b = z + 1 + 1 := Option.some.inj e; omega) _
  have hrow2 := (World.ownsRow.stored hrow1 (F k * 16 + 4 + k) (.int .i64 (s.n : Nat))).1
  rw [Nat.add_assoc (F k * 16), rowL_set hk s.n hF, nxK_step] at hrow2
  rw [Nat.add_assoc (F k * 16)]
  refine ⟨?_, hrow2, ?_, ?_, ?_⟩
  · exact (set_other (Ne.symm hgb) _ _).trans ((set_other (by omega) _ _).trans h.blk)
  · exact (set_other (show b ≠ z + 1 by omega) _ _).trans ((set_other (show z + 1 + 1 ≠ z + 1 by omega) _ _).trans h.path)
  · have := NB.set h.node hk (s.nx (F k) k)
    rw [nnK_step] at this
    exact (set_other (show b ≠ z + 1 + 1 by omega) _ _).trans this
  · exact (h.km.set (a := ⟨z + 1 + 1, 4 + k, none⟩) (Or.inr (Or.inr (by show w.heap.size ≤ z + 1 + 1; omega))) _).set (Or.inr (Or.inl rfl)) _
theorem undrew {W w' : World} {row : Option Nat} (h : W.drew.grownBy w' row) : W.grownBy w' row := ⟨h.os, h.tape, h.output, h.size, h.block⟩
theorem NB.cells {W : World} {x : Nat} {c : Cl} {f : Nat → Nat} (h : NB W x c f) : W.cell? ⟨x, 0, none⟩ = some (.string c.key) ∧ W.cell? ⟨x, 1, none⟩ = some (.int .u64 (c.seq : Nat)) ∧ W.cell? ⟨x, 2, none⟩ = some (.string c.val) ∧ W.cell? ⟨x, 3, none⟩ = some (.bool c.gone) ∧ W.cell? ⟨x, 4, none⟩ = some (.int .i64 (f 0 : Nat)) ∧ W.cell? ⟨x, 5, none⟩ = some (.int .i64 (f 1 : Nat)) ∧ W.cell? ⟨x, 6, none⟩ = some (.int .i64 (f 2 : Nat)) ∧ W.cell? ⟨x, 7, none⟩ = some (.int .i64 (f 3 : Nat)) ∧ W.cell? ⟨x, 8, none⟩ = some (.int .i64 (f 4 : Nat)) ∧ W.cell? ⟨x, 9, none⟩ = some (.int .i64 (f 5 : Nat)) ∧ W.cell? ⟨x, 10, none⟩ = some (.int .i64 (f 6 : Nat)) ∧ W.cell? ⟨x, 11, none⟩ = some (.int .i64 (f 7 : Nat)) ∧ W.cell? ⟨x, 12, none⟩ = some (.int .i64 (f 8 : Nat)) ∧ W.cell? ⟨x, 13, none⟩ = some (.int .i64 (f 9 : Nat)) ∧ W.cell? ⟨x, 14, none⟩ = some (.int .i64 (f 10 : Nat)) ∧ W.cell? ⟨x, 15, none⟩ = some (.int .i64 (f 11 : Nat)) := ⟨cell_of_block h rfl, cell_of_block h rfl, cell_of_block h rfl, cell_of_block h rfl, cell_of_block h rfl, cell_of_block h rfl, cell_of_block h rfl, cell_of_block h rfl, cell_of_block h rfl, cell_of_block h rfl, cell_of_block h rfl, cell_of_block h rfl, cell_of_block h rfl, cell_of_block h rfl, cell_of_block h rfl, cell_of_block h rfl⟩
theorem ndL_one (c : Cl) (f : Nat → Nat) : ∀ u ∈ ndL c f, u.oneCell' = true := by
  intro u hu
  simp only [ndL, clL, lkL, List.cons_append, List.nil_append, List.mem_cons, List.not_mem_nil, or_false] at hu
  rcases hu with rfl | rfl | rfl | rfl | rfl | rfl | rfl | rfl | rfl | rfl | rfl | rfl | rfl | rfl | rfl | rfl <;> rfl
def insS (s : St) (c : Cl) (height : Nat) (F : Nat → Nat) : St := ⟨s.n + 1, ceI s.n c s.cell, nxI s.n height F s.nx, s.size, ahE c.key c.seq s.E ++ ⟨s.n, c, height⟩ :: beE c.key c.seq s.E⟩
theorem info68 : (Try.prog.info? 68).map (fun i => (i.zero, i.size, i.bytes)) = some (some (.agg (ndL cl0 (fun _ => 0)).toArray), 16, 144) := by kernel_rfl
theorem info_parts {o : Option TypeInfo} {z : Value} {n m : Nat} (h : o.map (fun i => (i.zero, i.size, i.bytes)) = some (some z, n, m)) : ∃ i, o = some i ∧ i.zero = some z ∧ i.size = n ∧ i.bytes = m := by
  obtain ⟨i, hi, hq⟩ := Option.map_eq_some_iff.1 h
  simp only [Prod.mk.injEq] at hq
  exact ⟨i, hi, hq.1, hq.2.1, hq.2.2⟩
set_option maxRecDepth 20000 in
set_option maxHeartbeats 16000000 in
theorem insert_any (B g b cap : Nat) (s : St) (c : Cl) (height : Nat) (hh1 : 1 ≤ height) (hh12 : height ≤ 12) (F : Nat → Nat) (hF : ∀ k, k < 12 → F k = lsL k (ahE c.key c.seq s.E)) (hnew : ∀ e ∈ s.E, ¬ (e.c.key.toList = c.key.toList ∧ e.c.seq = c.seq)) (w : World) (h : MA B w g b cap s) (hn : s.n < 1000000000) :
    Calls Try.prog 31 #[.pointer (some ⟨g, 0, none⟩), clV c, .int .i64 (height : Nat), .agg (lkL F).toArray] w fun e w' => (∃ v, e = .returned v) ∧ ∃ b' cap', MA B w' g b' cap' (insS s c height F) ∧ KM g b w w' ∧ (b' = b ∨ w.heap.size ≤ b') := by
  obtain ⟨i0, hi, hz0, hz1, hz2⟩ := info_parts info68
  have hrep := ins_rep h.rep hh1 hh12 hF hnew
  have HFN : Hid (∀ k, k < 12 → F k < s.n) := fun k hk => by
    rw [hF k hk]
    rcases lsL_mem (k := k) (B := ahE c.key c.seq s.E) with q | ⟨e, he, q, _⟩
    · rw [q]; have := h.rep.size; omega
    · rw [q]
      exact (h.rep.each e (by rw [← ah_be c.key c.seq s.E]; exact List.mem_append_left _ he)).2.1
  obtain ⟨z, hz⟩ : ∃ z, w.heap.size = z := ⟨_, rfl⟩
  have hgz : g < z := by rw [← hz]; exact h.lt.1
  have hbz : b < z := by rw [← hz]; exact h.lt.2
  have hgb := h.apart
  have hbB := (World.ownsRow.lt h.row b rfl).1
  have hgB := h.gB
  obtain ⟨W0, hW0⟩ : ∃ W0, ((w.alloc (.cells #[.string c.key, .int .u64 (c.seq : Nat), .string c.val, .bool c.gone] 33)).alloc (.cells (lkL F).toArray 66)).alloc (.cells (ndL c (fun _ => 0)).toArray 68) = W0 := ⟨_, rfl⟩
  have HI0 : Hid (IS B g b cap s w z c F 0 W0) := by
    have b1 : Below w.heap.size w (w.alloc (.cells #[.string c.key, .int .u64 (c.seq : Nat), .string c.val, .bool c.gone] 33)) := below_new _ _
    have b2 := below_new (w.alloc (.cells #[.string c.key, .int .u64 (c.seq : Nat), .string c.val, .bool c.gone] 33)) (.cells (lkL F).toArray 66)
    have b3 := below_new ((w.alloc (.cells #[.string c.key, .int .u64 (c.seq : Nat), .string c.val, .bool c.gone] 33)).alloc (.cells (lkL F).toArray 66)) (.cells (ndL c (fun _ => 0)).toArray 68)
    have b13 := below_on (below_on b1 b2) b3
    have hM := h.below b13
    rw [Hid, ← hW0]
    refine ⟨hM.blk, ?_, ?_, ?_, KM.of b13⟩
    · rw [nxK_zero]; exact hM.row
    · rw [show z + 1 = (w.alloc (.cells #[.string c.key, .int .u64 (c.seq : Nat), .string c.val, .bool c.gone] 33)).heap.size by simp [hz]]
      exact AB.below (block_alloc_at _ _) b3
    · rw [show z + 1 + 1 = ((w.alloc (.cells #[.string c.key, .int .u64 (c.seq : Nat), .string c.val, .bool c.gone] 33)).alloc (.cells (lkL F).toArray 66)).heap.size by simp [hz]]
      exact block_alloc_at _ _
  have HZ : Hid _ := hz
  have HREP : Hid _ := hrep
  have m1 : w.cell? ⟨g, 1, none⟩ = some (.slice (some ⟨b, 0, none⟩) s.n cap) := h.hd.2.1
  have e0 : ((0 : Nat) : Int) = 0 := rfl
  simp only [lkL, ndL, clL, List.cons_append, List.nil_append, e0] at hW0
  simp only [clV, lkL]
  have hgw : g < w.heap.size := h.lt.1
  have HW0 : Hid _ := hW0
  clear hz hrep h hF hnew e0 hW0
  go_enter Try.func31, Try.ntmps31
  go_wp2_with fail
  rw [HW0.out]
  clear HW0 m1 hgw
  rw [HZ.out]
  go_loopw [20] (fun i wr => ∃ k : Nat, k ≤ height ∧ i = .int .i64 (k : Nat) ∧ Hid (IS B g b cap s w z c F k wr)) (fun i _ => height - (intOf i).toNat)
  case atStart => exact ⟨0, by omega, rfl, HI0.out⟩
  case round =>
    obtain ⟨k, hk, rfl, HI⟩ := hrel
    by_cases hlt : k < height
    · have hlz : (k : Int) < (height : Int) := by omega
      have hk12 : k < 12 := by omega
      have hkz : (k : Int) < 12 := by omega
      have hk0 : (0 : Int) ≤ (k : Int) := by omega
      have hFk := HFN.out k hk12
      have hFz : (F k : Int) < (s.n : Int) := by omega
      have m1 : wr.cell? ⟨g, 1, none⟩ = some (.slice (some ⟨b, 0, none⟩) s.n cap) := cell_of_block HI.out.blk rfl
      have p1 := AB.at HI.out.path hk12
      have l1 := HI.out.link hFk hk12
      go_wp2_with fail
      go_quiet (fail)
      obtain ⟨V, hV⟩ : ∃ V, wr.drewN nq = V := ⟨_, rfl⟩
      have HV : Hid (IS B g b cap s w z c F k V) := by rw [Hid, ← hV]; exact HI.out.drew nq
      rw [hV]
      clear hV m1 p1 l1 HI
      have l1 := HV.out.link hFk hk12
      have n1 : V.cell? ⟨z + 1 + 1, 4 + k, none⟩ = some (.int .i64 (nnK F s.nx k k : Nat)) := cell_of_block HV.out.node (by rw [List.getElem?_toArray]; exact ndL_link _ _ hk12)
      have n2 : V.frozen? ⟨z + 1 + 1, 4 + k, none⟩ = false := free_of_block HV.out.node _
      have HS : Hid _ := HV.out.step hFk hk12 HZ.out hgz hbz hgb
      have hrow1 : (V.setCell ⟨z + 1 + 1, 4 + k, none⟩ (.int .i64 (s.nx (F k) k : Nat))).ownsRow B 68 16 (.slice (some ⟨b, 0, none⟩) s.n cap) s.n (rowL s.n s.cell (nxK s.n F s.nx k)) := ownsRow_setCell_other HV.out.row (a := ⟨z + 1 + 1, 4 + k, none⟩) (fun e => by have : b = z + 1 + 1 := Option.some.inj e; omega) _
      have r1 : (V.setCell ⟨z + 1 + 1, 4 + k, none⟩ (.int .i64 (s.nx (F k) k : Nat))).cell? ⟨b, F k * 16 + 4 + k, none⟩ = some (.int .i64 (s.nx (F k) k : Nat)) := by
        rw [Nat.add_assoc (F k * 16), World.ownsRow.cellAt hrow1 _ (by omega), rowL_get _ _ hFk (by omega), ndL_link _ _ hk12, nxK_at]
      have r2 : (V.setCell ⟨z + 1 + 1, 4 + k, none⟩ (.int .i64 (s.nx (F k) k : Nat))).frozen? ⟨b, F k * 16 + 4 + k, none⟩ = false := World.ownsRow.frozenAt hrow1 _
      obtain ⟨V1, hV1⟩ : ∃ V1, V.setCell ⟨z + 1 + 1, 4 + k, none⟩ (.int .i64 (s.nx (F k) k : Nat)) = V1 := ⟨_, rfl⟩
      rw [hV1] at HS r1 r2
      clear hrow1
      go_wp2_with fail
      go_roundw
      case rel => exact ⟨k + 1, by omega, by go_num, HS.out⟩
      case measure => simp [intOf]; omega
    · obtain rfl : k = height := by omega
      have hlz : ¬ (k : Int) < (k : Int) := by omega
      have m1 : wr.cell? ⟨g, 1, none⟩ = some (.slice (some ⟨b, 0, none⟩) s.n cap) := cell_of_block HI.out.blk rfl
      obtain ⟨n0, n1, n2, n3, n4, n5, n6, n7, n8, n9, n10, n11, n12, n13, n14, n15⟩ := NB.cells HI.out.node
      have hgw : g < wr.heap.size := Nat.lt_of_lt_of_le (by rw [HZ.out]; exact hgz) HI.out.km.size
      have hbw : b < wr.heap.size := Nat.lt_of_lt_of_le (by rw [HZ.out]; exact hbz) HI.out.km.size
      have hzw : z ≤ wr.heap.size := by rw [← HZ.out]; exact HI.out.km.size
      obtain ⟨G, hG⟩ : ∃ G, nnK F s.nx k = G := ⟨_, rfl⟩
      have hrow := HI.out.row
      have hins := row_ins s.n k c F s.cell s.nx
      rw [hG] at hins n4 n5 n6 n7 n8 n9 n10 n11 n12 n13 n14 n15
      obtain ⟨RL, hRL⟩ : ∃ RL, rowL s.n s.cell (nxK s.n F s.nx k) = RL := ⟨_, rfl⟩
      rw [hRL] at hrow hins
      obtain ⟨XO, hXO⟩ : ∃ XO : Obj, .cells (ndL c G).toArray 68 = XO := ⟨_, rfl⟩
      have HRA : Hid ((wr.alloc XO).ownsRow B 68 16 (.slice (some ⟨b, 0, none⟩) s.n cap) s.n RL) := World.ownsRow.alloc hrow XO
      have HNC : Hid (∀ j u, (ndL c G)[j]? = some u → (wr.alloc XO).cell? ((⟨wr.heap.size, 0, none⟩ : Addr).add j) = some u) := fun j u hj => by
        have ha : (⟨wr.heap.size, 0, none⟩ : Addr).add j = ⟨wr.heap.size, j, none⟩ := by by_cases hi0 : j = 0 <;> simp [Addr.add, hi0]
        rw [ha, ← hXO]
        exact cell_of_block (block_alloc_at _ _) (by rw [List.getElem?_toArray]; exact hj)
      have c1 : (wr.alloc XO).cell? ⟨g, 1, none⟩ = some (.slice (some ⟨b, 0, none⟩) s.n cap) := cell_of_block (((below_new wr XO).block g hgw).trans HI.out.blk) rfl
      have HF : Hid (∀ g2 c2 w2, w2.ownsRow B 68 16 (.slice (some ⟨g2, 0, none⟩) (s.n + 1) c2) (s.n + 1) (RL ++ ndL c G) → (wr.alloc XO).grownBy w2 (some b) → ((some b = some g2) ∨ g2 = wr.heap.size + 1) → w2.cell? ⟨g, 1, none⟩ = some (.slice (some ⟨b, 0, none⟩) s.n cap) ∧ w2.frozen? ⟨g, 1, none⟩ = false ∧ Hid (∃ b' cap', MA B (w2.setCell ⟨g, 1, none⟩ (.slice (some ⟨g2, 0, none⟩) (s.n + 1) c2)) g b' cap' (insS s c k F) ∧ KM g b w (w2.setCell ⟨g, 1, none⟩ (.slice (some ⟨g2, 0, none⟩) (s.n + 1) c2)) ∧ (b' = b ∨ w.heap.size ≤ b'))) := fun g2 c2 w2 hown hg hat => by
        have hb2 : w2.heap[g]? = some (.cells #[.pointer (some ⟨g, 0, none⟩), .slice (some ⟨b, 0, none⟩) s.n cap, .int .i64 (s.size : Nat)] 59 (0, 0)) := (hg.block g (by simp; omega) (fun e => hgb (Option.some.inj e))).trans (((below_new wr XO).block g hgw).trans HI.out.blk)
        have hgg : g ≠ g2 := by
          rcases hat with e | e
          · rw [← Option.some.inj e]; exact hgb
          · omega
        have hbb : g2 = b ∨ w.heap.size ≤ g2 := by
          rcases hat with e | e
          · exact Or.inl (Option.some.inj e).symm
          · right; rw [HZ.out]; omega
        refine ⟨cell_of_block hb2 rfl, free_of_block hb2 _, g2, c2, ⟨?_, ?_, HREP.out, hgg, hgB, by show s.n + 1 ≤ _; omega⟩, ?_, hbb⟩
        · have := set_block hb2 1 (.slice (some ⟨g2, 0, none⟩) (s.n + 1) c2)
          rw [this]
          simp [insS]
        · rw [hins] at hown
          exact ownsRow_setCell_other hown (a := ⟨g, 1, none⟩) (fun e => hgg (Option.some.inj e).symm) _
        · have h1 : KM g b w (wr.alloc XO) := HI.out.km.trans (KM.of (below_new wr XO))
          have h2 : KM g b (wr.alloc XO) w2 := ⟨hg.os, hg.tape, hg.output, hg.size, fun x hx h1 h2 => hg.block x hx (fun e => h2 (Option.some.inj e))⟩
          exact (h1.trans h2).set (Or.inl rfl) _
      have HON : Hid _ := ndL_one c G
      clear hG hRL hins hrow HI
      rw [← hXO] at c1 HRA HNC HF
      clear hXO
      simp only [ndL, clL, lkL, List.cons_append, List.nil_append] at c1 HRA HNC HF HON
      go_wp2_with fail
      go_region_law (refine step_append_lies _ rfl (.tmp 51) (.tmp 53) 57 rfl B 68 i0 (.agg (ndL cl0 (fun _ => 0)).toArray) 16 144 Try.underlying57 hi hz0 hz1 hz2 rfl (by decide) (.slice (some ⟨b, 0, none⟩) s.n cap) s.n RL rfl (by exact HRA.out) ⟨wr.heap.size, 0, none⟩ 1 1 [.string c.key, .int .u64 (c.seq : Nat), .string c.val, .bool c.gone, .int .i64 (G 0 : Nat), .int .i64 (G 1 : Nat), .int .i64 (G 2 : Nat), .int .i64 (G 3 : Nat), .int .i64 (G 4 : Nat), .int .i64 (G 5 : Nat), .int .i64 (G 6 : Nat), .int .i64 (G 7 : Nat), .int .i64 (G 8 : Nat), .int .i64 (G 9 : Nat), .int .i64 (G 10 : Nat), .int .i64 (G 11 : Nat)] rfl rfl (by exact HNC.out) (by exact HON.out) (by decide) (by unfold maxLen; omega) (by omega) (by simp; omega) (wr.heap.size + 1) (by simp) ?_; intro g2 c2 w2 hown2 hg2 hat2 hlt2; obtain ⟨x1, x2, HZ⟩ := HF.out g2 c2 w2 hown2 (undrew hg2) hat2; clear hown2 hg2 hat2 hlt2)
      all_goals
        go_end0
        exact ⟨⟨_, rfl⟩, HZ.out⟩
end Go.Proofs.Ytdgmjmohfpjlnaa
