/-
  The twin's Visible and Drop of a list that is not in order; both of any list.
-/
import Derived.Test.YtohamjoiohfoiaaPure
namespace Go.Proofs.Ytohamjoiohfoiaa
open Go.RowKit
theorem rvisible_bad (a : Option Addr) (m cp seq : Nat) (l : List Cl) (w : World) (hca : CA w.heap.size w a l) (hl : l.length = m) (hmx : m * 48 ≤ 140737488355328) (hs : sortedC l = false) :
    Calls Try.prog 20 #[.slice a m cp, .int .u64 (seq : Nat)] w fun r w' => r = .returned (.slice none 0 0) ∧ Below w.heap.size w w' := by
  have HSO : Hid (Calls Try.prog 13 #[.slice a m cp] w fun r w' => r = .returned (.bool false) ∧ Below w.heap.size w w') := by
    have := rsorted_any w.heap.size m cp a l w hca hl (Nat.le_refl _) (by omega)
    rw [hs] at this
    exact this
  clear hca hl hs
  go_enter Try.func20, Try.ntmps20
  go_wp2_with fail
  refine Calls.mono HSO.out ?_
  rintro e w1 ⟨rfl, b1⟩
  have HB1 : Hid (Below w.heap.size w w1) := b1
  clear b1 HSO
  go_wp2_with fail
  go_ret
  exact ⟨rfl, HB1.out⟩
theorem rdrop_bad (a : Option Addr) (m cp seq : Nat) (bt : Bool) (l : List Cl) (w : World) (hca : CA w.heap.size w a l) (hl : l.length = m) (hmx : m * 48 ≤ 140737488355328) (hs : sortedC l = false) :
    Calls Try.prog 22 #[.slice a m cp, .int .u64 (seq : Nat), .bool bt] w fun r w' => r = .returned (.slice none 0 0) ∧ Below w.heap.size w w' := by
  have HSO : Hid (Calls Try.prog 13 #[.slice a m cp] w fun r w' => r = .returned (.bool false) ∧ Below w.heap.size w w') := by
    have := rsorted_any w.heap.size m cp a l w hca hl (Nat.le_refl _) (by omega)
    rw [hs] at this
    exact this
  clear hca hl hs
  go_enter Try.func22, Try.ntmps22
  go_wp2_with fail
  refine Calls.mono HSO.out ?_
  rintro e w1 ⟨rfl, b1⟩
  have HB1 : Hid (Below w.heap.size w w1) := b1
  clear b1 HSO
  go_wp2_with fail
  go_ret
  exact ⟨rfl, HB1.out⟩
/-- The twin's Visible of any list tells what Visible tells. -/
theorem rvisible_all (a : Option Addr) (m cp seq : Nat) (l : List Cl) (w : World) (hca : CA w.heap.size w a l) (hl : l.length = m) (hm : m ≤ cp) (hmx : m * 48 ≤ 140737488355328) :
    Calls Try.prog 20 #[.slice a m cp, .int .u64 (seq : Nat)] w fun r w' => ∃ v, r = .returned v ∧ w'.ownsRow w.heap.size 24 4 v (visP l seq (allG l)).length (flC (visP l seq (allG l))) ∧ Below w.heap.size w w' := by
  cases hs : sortedC l with
  | true =>
    rw [visible_same hs, hl]
    exact rvisible_any a m cp seq l w hca hl hm hmx hs
  | false =>
    rw [allG_nil (Or.inr hs)]
    refine (rvisible_bad a m cp seq l w hca hl hmx hs).mono ?_
    rintro r w' ⟨rfl, b⟩
    exact ⟨_, rfl, World.ownsRow_nil _ _ _ _, b⟩
/-- The twin's Drop of any list tells what Drop tells. -/
theorem rdrop_all (a : Option Addr) (m cp seq : Nat) (bt : Bool) (l : List Cl) (w : World) (hca : CA w.heap.size w a l) (hl : l.length = m) (hm : m ≤ cp) (hmx : m * 48 ≤ 140737488355328) :
    Calls Try.prog 22 #[.slice a m cp, .int .u64 (seq : Nat), .bool bt] w fun r w' => ∃ v, r = .returned v ∧ w'.ownsRow w.heap.size 24 4 v (drpP l seq bt (allG l)).length (flC (drpP l seq bt (allG l))) ∧ Below w.heap.size w w' := by
  cases hs : sortedC l with
  | true =>
    rw [drop_same hs, hl]
    exact rdrop_any a m cp seq bt l w hca hl hm hmx hs
  | false =>
    rw [allG_nil (Or.inr hs)]
    refine (rdrop_bad a m cp seq bt l w hca hl hmx hs).mono ?_
    rintro r w' ⟨rfl, b⟩
    exact ⟨_, rfl, World.ownsRow_nil _ _ _ _, b⟩
end Go.Proofs.Ytohamjoiohfoiaa
