/-
  Stores into a cookie's box: what the parts take.
-/
import Derived.Test.YtimabpfahhbadaaDoorStr
import Derived.Test.YtimabpfahhbadaaDoorDigits
import Derived.Laws.EntriesVeiled
import Derived.Laws.ResultCell
namespace Go.Proofs.YtimabpfahhbadaaDoor
open Go.RowKit
def setK (w : World) (g : Nat) (x : ByteArray) : Nat → World
  | 0 => w.setCell ⟨g, 2, none⟩ (.string x)
  | 1 => (w.setCell ⟨g, 3, none⟩ (.int .i64 (digR x 2147483647).1)).setCell ⟨g, 4, none⟩ (.bool true)
  | 2 => w.setCell ⟨g, 5, none⟩ (.bool true)
  | 3 => w.setCell ⟨g, 6, none⟩ (.bool true)
  | _ => w.setCell ⟨g, 7, none⟩ (.string x)
def CkB (W : World) (g : Nat) (c : Ck) : Prop := W.heap[g]? = some (.cells (ckA c) 37 (0, 0))
theorem CkB.lt {W : World} {g : Nat} {c : Ck} (h : CkB W g c) : g < W.heap.size := (Array.getElem?_eq_some_iff.1 h).1
theorem CkB.below {W W' : World} {g : Nat} {c : Ck} (h : CkB W g c) (b : Below W.heap.size W W') : CkB W' g c := below_old h b
theorem CkB.alloc {W : World} {g : Nat} {c : Ck} (h : CkB W g c) (o : Obj) : CkB (W.alloc o) g c := alloc_old h
theorem CkB.free {W : World} {g : Nat} {c : Ck} (h : CkB W g c) (i : Nat) : W.frozen? ⟨g, i, none⟩ = false := free_of_block h i
theorem setK_box {W : World} {g : Nat} {c : Ck} (h : CkB W g c) (x : ByteArray) (k : Nat) : CkB (setK W g x k) g (takeK c x k) := by
  match k with
  | 0 => have := set_block h 2 (.string x); simpa [CkB, setK, takeK, ckA] using this
  | 1 => have := set_block (set_block h 3 (.int .i64 (digR x 2147483647).1)) 4 (.bool true); simpa [CkB, setK, takeK, ckA] using this
  | 2 => have := set_block h 5 (.bool true); simpa [CkB, setK, takeK, ckA] using this
  | 3 => have := set_block h 6 (.bool true); simpa [CkB, setK, takeK, ckA] using this
  | n + 4 => have := set_block h 7 (.string x); simpa [CkB, setK, takeK, ckA] using this
theorem setK_other (W : World) (g : Nat) (x : ByteArray) (k j : Nat) (h : j ≠ g) : (setK W g x k).heap[j]? = W.heap[j]? := by
  match k with
  | 0 => exact Below.heap_setCell _ _ _ _ h
  | 1 => exact (Below.heap_setCell _ _ _ _ h).trans (Below.heap_setCell _ _ _ _ h)
  | 2 => exact Below.heap_setCell _ _ _ _ h
  | 3 => exact Below.heap_setCell _ _ _ _ h
  | n + 4 => exact Below.heap_setCell _ _ _ _ h
theorem setK_below {B : Nat} {a W : World} (h : Below B a W) {g : Nat} (hg : B ≤ g) (x : ByteArray) (k : Nat) : Below B a (setK W g x k) := by
  match k with
  | 0 => exact h.setCell (p := ⟨g, 2, none⟩) hg _
  | 1 => exact (h.setCell (p := ⟨g, 3, none⟩) hg _).setCell (p := ⟨g, 4, none⟩) hg _
  | 2 => exact h.setCell (p := ⟨g, 5, none⟩) hg _
  | 3 => exact h.setCell (p := ⟨g, 6, none⟩) hg _
  | n + 4 => exact h.setCell (p := ⟨g, 7, none⟩) hg _
def set8 (W : World) (g : Nat) (c : Ck) : World := (((((((W.setCell ⟨g, 0, none⟩ (.string c.name)).setCell ⟨g, 1, none⟩ (.string c.value)).setCell ⟨g, 2, none⟩ (.string c.path)).setCell ⟨g, 3, none⟩ (.int .i64 c.age)).setCell ⟨g, 4, none⟩ (.bool c.has)).setCell ⟨g, 5, none⟩ (.bool c.http)).setCell ⟨g, 6, none⟩ (.bool c.sec)).setCell ⟨g, 7, none⟩ (.string c.same)
theorem set8_box {W : World} {g : Nat} {c : Ck} (h : CkB W g c) (d : Ck) : CkB (set8 W g d) g d := by
  have := set_block (set_block (set_block (set_block (set_block (set_block (set_block (set_block h 0 (.string d.name)) 1 (.string d.value)) 2 (.string d.path)) 3 (.int .i64 d.age)) 4 (.bool d.has)) 5 (.bool d.http)) 6 (.bool d.sec)) 7 (.string d.same)
  simpa [CkB, set8, ckA] using this
theorem set8_below {B : Nat} {a W : World} (h : Below B a W) {g : Nat} (hg : B ≤ g) (d : Ck) : Below B a (set8 W g d) :=
  (((((((h.setCell (p := ⟨g, 0, none⟩) hg _).setCell (p := ⟨g, 1, none⟩) hg _).setCell (p := ⟨g, 2, none⟩) hg _).setCell (p := ⟨g, 3, none⟩) hg _).setCell (p := ⟨g, 4, none⟩) hg _).setCell (p := ⟨g, 5, none⟩) hg _).setCell (p := ⟨g, 6, none⟩) hg _).setCell (p := ⟨g, 7, none⟩) hg _
def RestAt (W : World) (g o : Nat) (r : List ByteArray) : Prop := ∀ j z, r[j]? = some z → W.cell? ⟨g, o + j, none⟩ = some (.string z)
theorem RestAt.tail {W : World} {g o : Nat} {t : ByteArray} {r : List ByteArray} (h : RestAt W g o (t :: r)) : RestAt W g (o + 1) r := fun j z hj => by
  have := h (j + 1) z (by rw [List.getElem?_cons_succ]; exact hj)
  rw [show o + 1 + j = o + (j + 1) by omega]
  exact this
theorem RestAt.keep {W W' : World} {g o : Nat} {r : List ByteArray} (h : RestAt W g o r) (e : W'.heap[g]? = W.heap[g]?) : RestAt W' g o r := fun j z hj => (World.cell?_of_block e).trans (h j z hj)
theorem rdS_done {c0 c : Ck} {r0 : List ByteArray} : ∀ (m k : Nat), k + m = 5 → rdS k c0 r0 = (c, []) → (rdS 5 c0 r0).1 = c
  | 0, k, hk, h => by
    obtain rfl : k = 5 := by omega
    rw [h]
  | m + 1, k, hk, h => rdS_done m (k + 1) (by omega) (by rw [rdS, h]; rfl)
set_option maxRecDepth 20000 in
set_option maxHeartbeats 2000000 in
theorem take_0 (c : Ck) (g : Nat) (x : ByteArray) (w : World) (h : CkB w g c) : Calls Tryd.prog 58 #[.pointer (some ⟨g, 0, none⟩), .string x] w fun e w' => (∃ v, e = .returned v) ∧ w' = setK w g x 0 := by
  obtain ⟨c0, c1, c2, c3, c4, c5, c6, c7⟩ := ck_cells h
  have f0 := h.free 2
  go_enter Tryd.func58, Tryd.ntmps58
  go_wp2_with fail
  refine bodyPost_end (results_none rfl _ _ _) rfl ?_
  exact ⟨⟨_, rfl⟩, rfl⟩
set_option maxRecDepth 20000 in
set_option maxHeartbeats 2000000 in
theorem take_2 (c : Ck) (g : Nat) (x : ByteArray) (w : World) (h : CkB w g c) : Calls Tryd.prog 65 #[.pointer (some ⟨g, 0, none⟩), .string x] w fun e w' => (∃ v, e = .returned v) ∧ w' = setK w g x 2 := by
  obtain ⟨c0, c1, c2, c3, c4, c5, c6, c7⟩ := ck_cells h
  have f0 := h.free 5
  go_enter Tryd.func65, Tryd.ntmps65
  go_wp2_with fail
  refine bodyPost_end (results_none rfl _ _ _) rfl ?_
  exact ⟨⟨_, rfl⟩, rfl⟩
set_option maxRecDepth 20000 in
set_option maxHeartbeats 2000000 in
theorem take_3 (c : Ck) (g : Nat) (x : ByteArray) (w : World) (h : CkB w g c) : Calls Tryd.prog 67 #[.pointer (some ⟨g, 0, none⟩), .string x] w fun e w' => (∃ v, e = .returned v) ∧ w' = setK w g x 3 := by
  obtain ⟨c0, c1, c2, c3, c4, c5, c6, c7⟩ := ck_cells h
  have f0 := h.free 6
  go_enter Tryd.func67, Tryd.ntmps67
  go_wp2_with fail
  refine bodyPost_end (results_none rfl _ _ _) rfl ?_
  exact ⟨⟨_, rfl⟩, rfl⟩
set_option maxRecDepth 20000 in
set_option maxHeartbeats 2000000 in
theorem take_4 (c : Ck) (g : Nat) (x : ByteArray) (w : World) (h : CkB w g c) : Calls Tryd.prog 70 #[.pointer (some ⟨g, 0, none⟩), .string x] w fun e w' => (∃ v, e = .returned v) ∧ w' = setK w g x 4 := by
  obtain ⟨c0, c1, c2, c3, c4, c5, c6, c7⟩ := ck_cells h
  have f0 := h.free 7
  go_enter Tryd.func70, Tryd.ntmps70
  go_wp2_with fail
  refine bodyPost_end (results_none rfl _ _ _) rfl ?_
  exact ⟨⟨_, rfl⟩, rfl⟩
set_option maxRecDepth 20000 in
set_option maxHeartbeats 2000000 in
theorem take_1 (c : Ck) (g : Nat) (x : ByteArray) (hx : x.size ≤ 140737488355328) (w : World) (h : CkB w g c) : Calls Tryd.prog 62 #[.pointer (some ⟨g, 0, none⟩), .string x] w fun e w' => (∃ v, e = .returned v) ∧ w' = setK w g x 1 := by
  obtain ⟨c0, c1, c2, c3, c4, c5, c6, c7⟩ := ck_cells h
  have f0 := h.free 3
  have H1 : Hid (∀ W : World, _) := fun W => digits_any x 2147483647 hx W
  obtain ⟨D, hD⟩ : ∃ D, digR x 2147483647 = D := ⟨_, rfl⟩
  have e0 : setK w g x 1 = (w.setCell ⟨g, 3, none⟩ (.int .i64 D.1)).setCell ⟨g, 4, none⟩ (.bool true) := by rw [← hD]; rfl
  rw [hD] at H1
  rw [e0]
  have h2 : (w.setCell ⟨g, 3, none⟩ (.int .i64 D.1)).heap[g]? = some (.cells ((ckA c).setIfInBounds 3 (.int .i64 D.1)) 37 (0, 0)) := set_block h 3 _
  have y4 : (w.setCell ⟨g, 3, none⟩ (.int .i64 D.1)).cell? ⟨g, 4, none⟩ = some (.bool c.has) := cell_of_block h2 (by simp [ckA])
  have f4 : (w.setCell ⟨g, 3, none⟩ (.int .i64 D.1)).frozen? ⟨g, 4, none⟩ = false := free_of_block h2 _
  clear hD e0 h2
  go_enter Tryd.func62, Tryd.ntmps62
  go_wp2_with (go_at_call 63; refine (H1.out _).mono ?_; rintro e w' ⟨rfl, rfl⟩)
  refine bodyPost_end (results_none rfl _ _ _) rfl ?_
  exact ⟨⟨_, rfl⟩, rfl⟩
end Go.Proofs.YtimabpfahhbadaaDoor
