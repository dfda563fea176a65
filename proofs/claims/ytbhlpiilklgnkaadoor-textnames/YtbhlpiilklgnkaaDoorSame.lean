/-
  Rows of runes, and the contract of sameRunes where both hold the same.
-/
import Derived.Test.YtbhlpiilklgnkaaDoorRunes
namespace Go.Proofs.YtbhlpiilklgnkaaDoor
open Go.RowKit
/-- From an address on there stand these runes. -/
def RunesAt (W : World) (a : Option Addr) (l : List Int) : Prop := ∀ j z, l[j]? = some z → ∃ b off, a = some ⟨b, off, none⟩ ∧ b < W.heap.size ∧ W.cell? ⟨b, off + j, none⟩ = some (.int .i32 z)
theorem RunesAt.below {W W' : World} {a : Option Addr} {l : List Int} (h : RunesAt W a l) (B : Below W.heap.size W W') : RunesAt W' a l := fun j z hj => by
  obtain ⟨b, off, e, hb, hc⟩ := h j z hj
  exact ⟨b, off, e, Nat.lt_of_lt_of_le hb B.size, (B.cell (p := ⟨b, off + j, none⟩) hb).trans hc⟩
theorem RunesAt.belowB {B : Nat} {W W' : World} {a : Option Addr} {l : List Int} (h : RunesAt W a l) (hB : W.heap.size ≤ B) (B' : Below B W W') : RunesAt W' a l := h.below (B'.mono hB)
theorem row_runes {W : World} {base : Nat} {a : Option Addr} {cap : Nat} {l : List Nat} (h : W.ownsRow base 21 1 (.slice a l.length cap) l.length (rcells l)) : RunesAt W a (l.map Int.ofNat) := by
  intro j z hj
  rcases h.2 with ⟨hv, h0⟩ | ⟨g, cp, cur, hv, hg, hr⟩
  · rw [List.getElem?_eq_none (by simp; omega)] at hj
    cases hj
  · simp only [Value.slice.injEq] at hv
    obtain ⟨rfl, _, rfl⟩ := hv
    have := h.cells rfl j (.int .i32 z) (by
      rw [List.getElem?_map] at hj
      simp only [rcells, List.getElem?_map]
      cases hq : l[j]? with
      | none => rw [hq] at hj; cases hj
      | some y => rw [hq] at hj; simp only [Option.map_some, Option.some.injEq] at hj ⊢; rw [← hj]; rfl)
    rw [add_off] at this
    exact ⟨g, 0, rfl, (h.lt g rfl).2, this⟩
end Go.Proofs.YtbhlpiilklgnkaaDoor
