/-
  What is handed in: acts, a timing that may be.
-/
import Derived.Test.YtefmhghdehokcaaLadd
import Derived.Test.YtefmhghdehokcaaCheck
namespace Go.Proofs.Ytefmhghdehokcaa
open Go.RowKit
/-- Acts in a slice: none, or a row. -/
def Src (w : World) (v : Value) (la : List (Int × Int)) : Prop := (v = .slice none 0 0 ∧ la = []) ∨ ∃ ad c, v = .slice (some ad) la.length c ∧ ∀ j u, (flA la)[j]? = some u → w.cell? (ad.add j) = some u
/-- Acts that are handed in: a slice, and where they lie. -/
def TaskArg (w : World) (v : Value) (la : List (Int × Int)) : Prop := ∃ a c, v = .slice a la.length c ∧ ∀ j y, la[j]? = some y → ∃ b off, a = some ⟨b, off, none⟩ ∧ b < w.heap.size ∧ w.cell? ⟨b, off + 2 * j, none⟩ = some (.int .i64 y.1) ∧ w.cell? ⟨b, off + 2 * j + 1, none⟩ = some (.int .i64 y.2)
theorem TaskArg.below {w w' : World} {v : Value} {la : List (Int × Int)} (h : TaskArg w v la) (k : Below w.heap.size w w') : TaskArg w' v la := by
  obtain ⟨a, c, h1, h2⟩ := h
  refine ⟨a, c, h1, fun j y hj => ?_⟩
  obtain ⟨b, off, e1, e2, e3, e4⟩ := h2 j y hj
  exact ⟨b, off, e1, Nat.lt_of_lt_of_le e2 k.size, (k.cell (p := ⟨b, off + 2 * j, none⟩) e2).trans e3, (k.cell (p := ⟨b, off + 2 * j + 1, none⟩) e2).trans e4⟩
theorem pk_of {picks ticks : List Int} {nd : Nat} (h : chkT picks ticks nd = 0) : (∀ x ∈ picks, 0 ≤ x) ∧ (∀ x ∈ ticks, 0 ≤ x ∧ x < 2147483648) ∧ nd ≤ 65536 := by
  unfold chkT at h
  by_cases h1 : 65536 < picks.length ∨ 65536 < ticks.length ∨ 65536 < nd
  · rw [if_pos h1] at h; cases h
  · rw [if_neg h1] at h
    by_cases h2 : pickBad picks = true
    · rw [if_pos h2] at h; cases h
    · rw [if_neg h2] at h
      by_cases h3 : tickBad ticks = true
      · rw [if_pos h3] at h; cases h
      · have h4 := eq_false_of_ne_true h3
        have h5 := eq_false_of_ne_true h2
        rw [tickBad, List.any_eq_false] at h4
        rw [pickBad, List.any_eq_false] at h5
        refine ⟨fun x hx => ?_, fun x hx => ?_, by omega⟩
        · have := h5 x hx
          simp at this
          exact this
        · have := h4 x hx
          simp at this
          omega
end Go.Proofs.Ytefmhghdehokcaa
