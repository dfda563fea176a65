/-
  The contract of the twin's rows.
-/
import Derived.Test.YtbpfggpljfpfcaaDoorAwk
namespace Go.Proofs.YtbpfggpljfpfcaaDoor
open Go.RowKit
def rwL (r : Row) : List Value := [.string (bOf r.1), .int .i64 r.2.1, .bool r.2.2]
/-- Rows from a slice's address on. -/
def RwA (W : World) (a : Option Addr) (l : List Row) : Prop := ∀ j r, l[j]? = some r → ∃ b off, a = some ⟨b, off, none⟩ ∧ b < W.heap.size ∧ W.cell? ⟨b, off + j * 3, none⟩ = some (.string (bOf r.1)) ∧ W.cell? ⟨b, off + j * 3 + 1, none⟩ = some (.int .i64 r.2.1) ∧ W.cell? ⟨b, off + j * 3 + 2, none⟩ = some (.bool r.2.2)
theorem RwA.below {W W' : World} {a : Option Addr} {l : List Row} (h : RwA W a l) (B : Below W.heap.size W W') : RwA W' a l := by
  intro j r hj
  obtain ⟨b, off, e, hb, c0, c1, c2⟩ := h j r hj
  exact ⟨b, off, e, Nat.lt_of_lt_of_le hb B.size, (B.cell (p := ⟨b, off + j * 3, none⟩) hb).trans c0, (B.cell (p := ⟨b, off + j * 3 + 1, none⟩) hb).trans c1, (B.cell (p := ⟨b, off + j * 3 + 2, none⟩) hb).trans c2⟩
theorem RwA.nil (W : World) (a : Option Addr) : RwA W a [] := fun j r h => by simp at h
theorem rwa_one {W : World} {g : Nat} {r : Row} {t : TypeId} (h : W.heap[g]? = some (.cells (rwL r).toArray t (0, 0))) : RwA W (some ⟨g, 0, none⟩) [r] := by
  intro j x hj
  match j, hj with
  | 0, hj =>
    simp at hj
    subst hj
    exact ⟨g, 0, rfl, (Array.getElem?_eq_some_iff.1 h).1, cell_of_block h rfl, cell_of_block h rfl, cell_of_block h rfl⟩
  | j + 1, hj => simp at hj
theorem rwa_two {W : World} {g : Nat} {r s : Row} {t : TypeId} (h : W.heap[g]? = some (.cells (rwL r ++ rwL s).toArray t (0, 0))) : RwA W (some ⟨g, 0, none⟩) [r, s] := by
  intro j x hj
  match j, hj with
  | 0, hj =>
    simp at hj
    subst hj
    exact ⟨g, 0, rfl, (Array.getElem?_eq_some_iff.1 h).1, cell_of_block h rfl, cell_of_block h rfl, cell_of_block h rfl⟩
  | 1, hj =>
    simp at hj
    subst hj
    exact ⟨g, 0, rfl, (Array.getElem?_eq_some_iff.1 h).1, cell_of_block h rfl, cell_of_block h rfl, cell_of_block h rfl⟩
  | j + 2, hj => simp at hj
theorem cmp_const (a c : List UInt8) : ((bOf a).toList == c) = decide (a = c) := by
  rw [ByteArray.toList_eq]
  show (a == c) = _
  by_cases h : a = c
  · subst h; simp
  · rw [decide_eq_false h, beq_eq_false_iff_ne]; exact h
/-- What rows tells. -/
def RwP (w : World) (l : List Row) (e : Ending) (w' : World) : Prop := ∃ a c, e = .returned (.slice a l.length c) ∧ RwA w' a l ∧ Below w.heap.size w w'
theorem nil_rows (w : World) : RwP w [] (.returned (.slice none 0 0)) w := ⟨none, 0, rfl, RwA.nil _ _, Below.refl _ _⟩
set_option maxRecDepth 20000 in
set_option maxHeartbeats 8000000 in
theorem qrows_1 (a : List UInt8) (ra : Option Addr) (rc : Nat) (w : World) (ht : TextsAt w ra ([a].map bOf)) : Calls Tryd.prog 25 #[.slice ra 1 rc] w (RwP w (rowsR [a])) := by
  obtain ⟨g, off, rfl, _, c0⟩ := ht 0 (bOf a) rfl
  rw [Nat.add_zero] at c0
  clear ht
  by_cases h0 : a = wSess
  · have e0 : ((bOf a).toList == [115, 101, 115, 115, 105, 111, 110, 115]) = true := by rw [cmp_const]; exact decide_eq_true h0
    have HQ : Hid (rowsR [a] = [(mDel, 6, false), (mPost, 1, false)]) := by rw [Hid]; unfold rowsR; dsimp only; rw [if_pos h0]
    clear h0
    go_enter Tryd.func25, Tryd.ntmps25
    go_wp2_with fail
    go_ret
    rw [HQ.out]
    exact ⟨_, _, rfl, rwa_two (block_alloc_at _ _), below_new _ _⟩
  have e0 : ((bOf a).toList == [115, 101, 115, 115, 105, 111, 110, 115]) = false := by rw [cmp_const]; exact decide_eq_false h0
  by_cases h1 : a = wAudit
  · have e1 : ((bOf a).toList == [97, 117, 100, 105, 116]) = true := by rw [cmp_const]; exact decide_eq_true h1
    have HQ : Hid (rowsR [a] = [(mGet, 8, false)]) := by rw [Hid]; unfold rowsR; dsimp only; rw [if_neg h0, if_pos h1]
    clear h0 h1
    go_enter Tryd.func25, Tryd.ntmps25
    go_wp2_with fail
    go_ret
    rw [HQ.out]
    exact ⟨_, _, rfl, rwa_one (block_alloc_at _ _), below_new _ _⟩
  have e1 : ((bOf a).toList == [97, 117, 100, 105, 116]) = false := by rw [cmp_const]; exact decide_eq_false h1
  by_cases h2 : a = wStats
  · have e2 : ((bOf a).toList == [115, 116, 97, 116, 115]) = true := by rw [cmp_const]; exact decide_eq_true h2
    have HQ : Hid (rowsR [a] = [(mGet, 9, false)]) := by rw [Hid]; unfold rowsR; dsimp only; rw [if_neg h0, if_neg h1, if_pos h2]
    clear h0 h1 h2
    go_enter Tryd.func25, Tryd.ntmps25
    go_wp2_with fail
    go_ret
    rw [HQ.out]
    exact ⟨_, _, rfl, rwa_one (block_alloc_at _ _), below_new _ _⟩
  have e2 : ((bOf a).toList == [115, 116, 97, 116, 115]) = false := by rw [cmp_const]; exact decide_eq_false h2
  by_cases h3 : a = wMe
  · have e3 : ((bOf a).toList == [109, 101]) = true := by rw [cmp_const]; exact decide_eq_true h3
    have HQ : Hid (rowsR [a] = [(mGet, 2, true)]) := by rw [Hid]; unfold rowsR; dsimp only; rw [if_neg h0, if_neg h1, if_neg h2, if_pos h3]
    clear h0 h1 h2 h3
    go_enter Tryd.func25, Tryd.ntmps25
    go_wp2_with fail
    go_ret
    rw [HQ.out]
    exact ⟨_, _, rfl, rwa_one (block_alloc_at _ _), below_new _ _⟩
  have e3 : ((bOf a).toList == [109, 101]) = false := by rw [cmp_const]; exact decide_eq_false h3
  have HQ : Hid (rowsR [a] = []) := by rw [Hid]; unfold rowsR; dsimp only; rw [if_neg h0, if_neg h1, if_neg h2, if_neg h3]
  clear h0 h1 h2 h3
  go_enter Tryd.func25, Tryd.ntmps25
  go_wp2_with fail
  go_ret
  rw [HQ.out]
  exact nil_rows w
set_option maxRecDepth 20000 in
set_option maxHeartbeats 8000000 in
theorem qrows_2 (a b : List UInt8) (ra : Option Addr) (rc : Nat) (w : World) (ht : TextsAt w ra ([a, b].map bOf)) : Calls Tryd.prog 25 #[.slice ra 2 rc] w (RwP w (rowsR [a, b])) := by
  obtain ⟨g, off, rfl, _, c0⟩ := ht 0 (bOf a) rfl
  obtain ⟨g', off', hbo, _, c1⟩ := ht 1 (bOf b) rfl
  obtain ⟨rfl, rfl⟩ : g = g' ∧ off = off' := by cases hbo; exact ⟨rfl, rfl⟩
  rw [Nat.add_zero] at c0
  clear ht hbo
  by_cases h0 : a = wSess
  · have e0 : ((bOf a).toList == [115, 101, 115, 115, 105, 111, 110, 115]) = true := by rw [cmp_const]; exact decide_eq_true h0
    by_cases h1 : b = []
    · have f1 : (bOf b).toList.isEmpty = true := by rw [bOf_empty, h1]; rfl
      have HQ : Hid (rowsR [a, b] = []) := by rw [Hid]; unfold rowsR; dsimp only; rw [if_neg (fun q => q.2 h1)]
      clear h0 h1
      go_enter Tryd.func25, Tryd.ntmps25
      go_wp2_with fail
      go_ret
      rw [HQ.out]
      exact nil_rows w
    · have f1 : (bOf b).toList.isEmpty = false := nonempty_false h1
      have HQ : Hid (rowsR [a, b] = [(mDel, 4, false), (mGet, 2, false)]) := by rw [Hid]; unfold rowsR; dsimp only; rw [if_pos ⟨h0, h1⟩]
      clear h0 h1
      go_enter Tryd.func25, Tryd.ntmps25
      go_wp2_with fail
      go_ret
      rw [HQ.out]
      exact ⟨_, _, rfl, rwa_two (block_alloc_at _ _), below_new _ _⟩
  · have e0 : ((bOf a).toList == [115, 101, 115, 115, 105, 111, 110, 115]) = false := by rw [cmp_const]; exact decide_eq_false h0
    have HQ : Hid (rowsR [a, b] = []) := by rw [Hid]; unfold rowsR; dsimp only; rw [if_neg (fun q => h0 q.1)]
    clear h0
    go_enter Tryd.func25, Tryd.ntmps25
    go_wp2_with fail
    go_ret
    rw [HQ.out]
    exact nil_rows w
set_option maxRecDepth 20000 in
set_option maxHeartbeats 8000000 in
theorem qrows_3 (a b c : List UInt8) (ra : Option Addr) (rc : Nat) (w : World) (ht : TextsAt w ra ([a, b, c].map bOf)) : Calls Tryd.prog 25 #[.slice ra 3 rc] w (RwP w (rowsR [a, b, c])) := by
  obtain ⟨g, off, rfl, _, c0⟩ := ht 0 (bOf a) rfl
  obtain ⟨g', off', hbo, _, c1⟩ := ht 1 (bOf b) rfl
  obtain ⟨rfl, rfl⟩ : g = g' ∧ off = off' := by cases hbo; exact ⟨rfl, rfl⟩
  obtain ⟨g', off', hbo2, _, c2⟩ := ht 2 (bOf c) rfl
  obtain ⟨rfl, rfl⟩ : g = g' ∧ off = off' := by cases hbo2; exact ⟨rfl, rfl⟩
  rw [Nat.add_zero] at c0
  clear ht hbo hbo2
  have nSU : wSess ≠ wUsers := by decide
  by_cases h0 : a = wSess
  · have e0 : ((bOf a).toList == [115, 101, 115, 115, 105, 111, 110, 115]) = true := by rw [cmp_const]; exact decide_eq_true h0
    have e1 : ((bOf a).toList == [117, 115, 101, 114, 115]) = false := by rw [cmp_const]; exact decide_eq_false (fun e => nSU (h0.symm.trans e))
    by_cases h1 : b = []
    · have f1 : (bOf b).toList.isEmpty = true := by rw [bOf_empty, h1]; rfl
      have HQ : Hid (rowsR [a, b, c] = []) := by rw [Hid]; unfold rowsR; dsimp only; rw [if_neg (fun q => q.2.1 h1), if_neg (fun q => q.2.1 h1)]
      clear h0 h1 nSU
      go_enter Tryd.func25, Tryd.ntmps25
      go_wp2_with fail
      go_ret
      rw [HQ.out]
      exact nil_rows w
    · have f1 : (bOf b).toList.isEmpty = false := nonempty_false h1
      by_cases h2 : c = wTouch
      · have e2 : ((bOf c).toList == [116, 111, 117, 99, 104]) = true := by rw [cmp_const]; exact decide_eq_true h2
        have HQ : Hid (rowsR [a, b, c] = [(mPost, 3, false)]) := by rw [Hid]; unfold rowsR; dsimp only; rw [if_pos ⟨h0, h1, h2⟩]
        clear h0 h1 h2 nSU
        go_enter Tryd.func25, Tryd.ntmps25
        go_wp2_with fail
        go_ret
        rw [HQ.out]
        exact ⟨_, _, rfl, rwa_one (block_alloc_at _ _), below_new _ _⟩
      · have e2 : ((bOf c).toList == [116, 111, 117, 99, 104]) = false := by rw [cmp_const]; exact decide_eq_false h2
        have HQ : Hid (rowsR [a, b, c] = []) := by rw [Hid]; unfold rowsR; dsimp only; rw [if_neg (fun q => h2 q.2.2), if_neg (fun q => nSU (h0.symm.trans q.1))]
        clear h0 h1 h2 nSU
        go_enter Tryd.func25, Tryd.ntmps25
        go_wp2_with fail
        go_ret
        rw [HQ.out]
        exact nil_rows w
  · have e0 : ((bOf a).toList == [115, 101, 115, 115, 105, 111, 110, 115]) = false := by rw [cmp_const]; exact decide_eq_false h0
    by_cases h3 : a = wUsers
    · have e1 : ((bOf a).toList == [117, 115, 101, 114, 115]) = true := by rw [cmp_const]; exact decide_eq_true h3
      by_cases h1 : b = []
      · have f1 : (bOf b).toList.isEmpty = true := by rw [bOf_empty, h1]; rfl
        have HQ : Hid (rowsR [a, b, c] = []) := by rw [Hid]; unfold rowsR; dsimp only; rw [if_neg (fun q => q.2.1 h1), if_neg (fun q => q.2.1 h1)]
        clear h0 h1 h3 nSU
        go_enter Tryd.func25, Tryd.ntmps25
        go_wp2_with fail
        go_ret
        rw [HQ.out]
        exact nil_rows w
      · have f1 : (bOf b).toList.isEmpty = false := nonempty_false h1
        by_cases h2 : c = wSess
        · have e2 : ((bOf c).toList == [115, 101, 115, 115, 105, 111, 110, 115]) = true := by rw [cmp_const]; exact decide_eq_true h2
          have HQ : Hid (rowsR [a, b, c] = [(mDel, 5, false), (mGet, 7, false)]) := by rw [Hid]; unfold rowsR; dsimp only; rw [if_neg (fun q => h0 q.1), if_pos ⟨h3, h1, h2⟩]
          clear h0 h1 h2 h3 nSU
          go_enter Tryd.func25, Tryd.ntmps25
          go_wp2_with fail
          go_ret
          rw [HQ.out]
          exact ⟨_, _, rfl, rwa_two (block_alloc_at _ _), below_new _ _⟩
        · have e2 : ((bOf c).toList == [115, 101, 115, 115, 105, 111, 110, 115]) = false := by rw [cmp_const]; exact decide_eq_false h2
          have HQ : Hid (rowsR [a, b, c] = []) := by rw [Hid]; unfold rowsR; dsimp only; rw [if_neg (fun q => h0 q.1), if_neg (fun q => h2 q.2.2)]
          clear h0 h1 h2 h3 nSU
          go_enter Tryd.func25, Tryd.ntmps25
          go_wp2_with fail
          go_ret
          rw [HQ.out]
          exact nil_rows w
    · have e1 : ((bOf a).toList == [117, 115, 101, 114, 115]) = false := by rw [cmp_const]; exact decide_eq_false h3
      have HQ : Hid (rowsR [a, b, c] = []) := by rw [Hid]; unfold rowsR; dsimp only; rw [if_neg (fun q => h0 q.1), if_neg (fun q => h3 q.1)]
      clear h0 h3 nSU
      go_enter Tryd.func25, Tryd.ntmps25
      go_wp2_with fail
      go_ret
      rw [HQ.out]
      exact nil_rows w
set_option maxRecDepth 20000 in
set_option maxHeartbeats 8000000 in
theorem qrows_o (n : Nat) (h1 : n ≠ 1) (h2 : n ≠ 2) (h3 : n ≠ 3) (ra : Option Addr) (rc : Nat) (w : World) : Calls Tryd.prog 25 #[.slice ra n rc] w (RwP w []) := by
  have e1 : ((n : Int) == 1) = false := by rw [beq_eq_false_iff_ne]; omega
  have e2 : ((n : Int) == 2) = false := by rw [beq_eq_false_iff_ne]; omega
  have e3 : ((n : Int) == 3) = false := by rw [beq_eq_false_iff_ne]; omega
  clear h1 h2 h3
  go_enter Tryd.func25, Tryd.ntmps25
  go_wp2_with fail
  go_ret
  exact nil_rows w
theorem qrows_any (L : List (List UInt8)) (ra : Option Addr) (rc : Nat) (w : World) (ht : TextsAt w ra (L.map bOf)) : Calls Tryd.prog 25 #[.slice ra L.length rc] w (RwP w (rowsR L)) := by
  match L, ht with
  | [], _ => exact qrows_o 0 (by decide) (by decide) (by decide) ra rc w
  | [a], ht => exact qrows_1 a ra rc w ht
  | [a, b], ht => exact qrows_2 a b ra rc w ht
  | [a, b, c], ht => exact qrows_3 a b c ra rc w ht
  | a :: b :: c :: d :: l, _ => exact qrows_o _ (by simp) (by simp) (by simp) ra rc w
end Go.Proofs.YtbpfggpljfpfcaaDoor
