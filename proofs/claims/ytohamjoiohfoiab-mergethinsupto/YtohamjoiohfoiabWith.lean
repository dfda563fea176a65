/-
  The twin's with: a list in order with one more cell.
-/
import Derived.Test.YtohamjoiohfoiabCells
import Derived.Test.YtohamjoiohfoiabClone
import Derived.Test.YtohamjoiohfoiabCut2
import Derived.Test.YtohamjoiohfoiabRVis
namespace Go.Proofs.Ytohamjoiohfoiab
open Go.RowKit
/-- So many cells stand ahead. -/
def aheadN (l : List Cl) (c : Cl) : Nat := (l.takeWhile (fun x => lessC x c)).length
/-- A list with one more cell, if none is alike. -/
def insC (l : List Cl) (c : Cl) : List Cl := match l[aheadN l c]? with
  | some x => if lessC c x then l.take (aheadN l c) ++ (c :: l.drop (aheadN l c)) else l
  | none => l ++ [c]
theorem ahead_le (l : List Cl) (c : Cl) : aheadN l c ≤ l.length := (List.takeWhile_prefix _).length_le
theorem ins_len (l : List Cl) (c : Cl) : (insC l c).length ≤ l.length + 1 := by
  unfold insC
  split
  · split
    · have := ahead_le l c
      simp
      omega
    · omega
  · simp
theorem ahead_of {l : List Cl} {c : Cl} {k : Nat} (hk : k ≤ l.length) (h1 : ∀ j x, j < k → l[j]? = some x → lessC x c = true) (h2 : ∀ y, l[k]? = some y → lessC y c = false) : aheadN l c = k := tw_len l k hk h1 h2
theorem ins_here {l : List Cl} {c x : Cl} {k : Nat} (ha : aheadN l c = k) (hx : l[k]? = some x) (hl : lessC c x = true) : insC l c = l.take k ++ (c :: l.drop k) := by
  unfold insC
  rw [ha, hx]
  simp [hl]
theorem ins_there {l : List Cl} {c x : Cl} {k : Nat} (ha : aheadN l c = k) (hx : l[k]? = some x) (hl : lessC c x = false) : insC l c = l := by
  unfold insC
  rw [ha, hx]
  simp [hl]
theorem ins_end {l : List Cl} {c : Cl} {k : Nat} (ha : aheadN l c = k) (hx : l.length = k) : insC l c = l.take k ++ (c :: l.drop k) := by
  unfold insC
  rw [ha, List.getElem?_eq_none (by omega), ← hx, List.take_length, List.drop_length]
theorem new_cell (w : World) (c : Cl) : ∀ j u, (clL c)[j]? = some u → (w.alloc (.cells #[.string c.key, .int .u64 (c.seq : Nat), .string c.val, .bool c.gone] 29)).cell? ((⟨w.heap.size, 0, none⟩ : Addr).add j) = some u := fun j u h => by
  rw [addr_add, Nat.zero_add, cells_of_block (World.alloc_heap_new w _) j]
  simpa [clL] using h
/-- What with hands back. -/
def WithOut (w : World) (l : List Cl) (c : Cl) (r : Ending) (w' : World) : Prop := ∃ a' c', r = .returned (.slice a' (insC l c).length c') ∧ (insC l c).length ≤ c' ∧ CA w'.heap.size w' a' (insC l c) ∧ Below w.heap.size w w'
theorem ins_ne (l : List Cl) (c : Cl) : insC l c ≠ [] := by
  unfold insC
  split
  · rename_i x hx
    split
    · simp
    · rintro rfl
      simp at hx
  · simp
end Go.Proofs.Ytohamjoiohfoiab
