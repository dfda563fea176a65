/-
  The contract of the twin's Find.
-/
import Derived.Test.YtbpfggpljfpfcaaDoorQro
import Derived.Test.YtbpfggpljfpfcaaDoorSpW
import Derived.Test.YtbpfggpljfpfcaaDoorRDigits
namespace Go.Proofs.YtbpfggpljfpfcaaDoor
open Go.RowKit
/-- The result's block. -/
def GB (w : World) (W : World) : Prop := XB W w.heap.size rt0 ∧ Below w.heap.size w W
theorem gb_start (w : World) : GB w (w.alloc (.cells #[.int .i64 0, .string ⟨#[]⟩, .string ⟨#[]⟩, .int .i64 0, .bool false] 23)) := ⟨block_alloc_at _ _, below_new _ _⟩
theorem GB.on {w W W' : World} (h : GB w W) (b : Below W.heap.size W W') : GB w W' := ⟨h.1.below b, h.2.trans (b.mono h.2.size)⟩
theorem GB.set {w W : World} (h : GB w W) {g : Nat} (hg : w.heap.size < g) (i : Nat) (v : Value) : GB w (W.setCell ⟨g, i, none⟩ v) := ⟨(Below.heap_setCell _ _ _ _ (show w.heap.size ≠ g by omega)).trans h.1, h.2.setCell (p := ⟨g, i, none⟩) (by show w.heap.size ≤ g; omega) _⟩
theorem GB.fin {w W : World} (h : GB w W) (x : Rt) : XB (setX W w.heap.size x) w.heap.size x ∧ Below w.heap.size w (setX W w.heap.size x) := ⟨h.1.set x, setX_below h.2 (Nat.le_refl _) x⟩
theorem row_kind {L : List (List UInt8)} {r : Row} (h : r ∈ rowsR L) : (∃ a, L = [a]) ∨ (∃ a b l, L = a :: b :: l ∧ r.2.1 ≠ 8) := by
  match L, h with
  | [], h => cases h
  | [a], _ => exact Or.inl ⟨a, rfl⟩
  | [a, b], h =>
    refine Or.inr ⟨a, b, [], rfl, ?_⟩
    unfold rowsR at h
    dsimp only at h
    by_cases h1 : a = wSess ∧ b ≠ []
    · rw [if_pos h1] at h
      simp at h
      rcases h with rfl | rfl <;> decide
    · rw [if_neg h1] at h; cases h
  | [a, b, c], h =>
    refine Or.inr ⟨a, b, [c], rfl, ?_⟩
    unfold rowsR at h
    dsimp only at h
    by_cases h1 : a = wSess ∧ b ≠ [] ∧ c = wTouch
    · rw [if_pos h1] at h
      simp at h
      rw [h]
      decide
    rw [if_neg h1] at h
    by_cases h2 : a = wUsers ∧ b ≠ [] ∧ c = wSess
    · rw [if_pos h2] at h
      simp at h
      rcases h with rfl | rfl <;> decide
    · rw [if_neg h2] at h; cases h
  | _ :: _ :: _ :: _ :: _, h => cases h
theorem rows_len (L : List (List UInt8)) : (rowsR L).length ≤ 2 := by
  rcases rules_rows L with h | ⟨a, b, _, h, _⟩
  · rcases hq : rowsR L with _ | ⟨x, _ | ⟨y, _ | ⟨z, l⟩⟩⟩
    · simp
    · simp
    · simp
    · exfalso
      have h2 := srt_rules L
      have h3 := congrArg List.length h2
      rw [srt_len, List.length_map, List.length_map, hq] at h3
      rw [rules_eq] at h3
      have h4 : (rulesC L).length ≤ 2 := by
        match L with
        | [] => simp [rulesC]
        | [a] => unfold rulesC; dsimp only; repeat' split
                 all_goals simp
        | [a, b] => unfold rulesC; dsimp only; split <;> simp
        | [a, b, c] => unfold rulesC; dsimp only; repeat' split
                       all_goals simp
        | _ :: _ :: _ :: _ :: _ => simp [rulesC]
      simp at h3
      omega
  · rw [h]; simp
theorem find_404 {m t : List UInt8} (h : splE t = 0) (h2 : rowsR (rawL t) = []) : findR m t = (rt0, 404) := by
  unfold findR
  rw [if_pos h, if_pos h2]
theorem find_405 {m t : List UInt8} (h : splE t = 0) (h2 : rowsR (rawL t) ≠ []) (h3 : ∀ r ∈ rowsR (rawL t), r.1 ≠ m) : findR m t = (rt0, 405) := by
  unfold findR
  rw [if_pos h, if_neg h2]
  have : (rowsR (rawL t)).find? (fun r => decide (r.1 = m)) = none := by
    rw [List.find?_eq_none]
    intro y hy
    simp only [decide_eq_true_eq]
    exact h3 y hy
  rw [this]
theorem find_row {m t : List UInt8} {k : Nat} {r : Row} (h : splE t = 0) (hk : (rowsR (rawL t))[k]? = some r) (hm : r.1 = m) (hn : ∀ j y, j < k → (rowsR (rawL t))[j]? = some y → y.1 ≠ m) : findR m t = readR (fillR (rawL t) r.2.1 r.2.2) (qryL t) (hasQ t) := by
  have hmem := List.mem_of_getElem? hk
  unfold findR
  rw [if_pos h, if_neg (fun e => by rw [e] at hmem; cases hmem)]
  rw [find_at (p := fun r : Row => decide (r.1 = m)) hk (decide_eq_true hm) (fun j y hj hy => decide_eq_false (hn j y hj hy))]
theorem read_200 {x : Rt} {q : List UInt8} (h : x.kind ≠ 8) : readR x q false = (x, 200) := by simp [readR, h]
theorem read_400 {x : Rt} {q : List UInt8} (h : x.kind ≠ 8) : readR x q true = (rt0, 400) := by simp [readR, h]
theorem read_1 {x : Rt} {q : List UInt8} (h : x.kind = 8) : readR x q false = ({ x with frm := 1 }, 200) := by simp [readR, h]
end Go.Proofs.YtbpfggpljfpfcaaDoor
