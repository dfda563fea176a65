/-
  The walk of TextDigits: both tell the same number and the same error.
-/
import Derived.Test.YtbhlpiilklgnkabLives
import Derived.Test.YtbhlpiilklgnkabRDigits
namespace Go.Proofs.Ytbhlpiilklgnkab
open Go.RowKit
set_option maxRecDepth 20000 in
set_option maxHeartbeats 2000000 in
theorem digits_walk (s : ByteArray) (most : Int) (hs : s.size ≤ 140737488355328) (w : World) : Calls Try.prog 3 #[.string s, .int .i64 most] w fun e w' => e = .returned (.bool true) ∧ Below w.heap.size w w' := by
  have H1 : Hid (∀ W : World, _) := fun W => digits_any s most hs W
  have H2 : Hid (∀ W : World, _) := fun W => rdigits_any s most hs W
  have H3 : Hid (∀ W : World, _) := fun W => lives_any W
  obtain ⟨x, hx⟩ : ∃ x, (digR s most).1 = x := ⟨_, rfl⟩
  obtain ⟨y, hy⟩ : ∃ y, (digR s most).2 = y := ⟨_, rfl⟩
  rw [hx, hy] at H1 H2
  clear hx hy
  go_enter Try.func3, Try.ntmps3
  go_wp2_with fail
  refine (H1.out _).mono ?_
  rintro e w1 ⟨rfl, rfl⟩
  go_wp2_with fail
  refine (H2.out _).mono ?_
  rintro e w1 ⟨rfl, rfl⟩
  go_wp2_with fail
  refine (H3.out _).mono ?_
  rintro e w1 ⟨rfl, b1⟩
  go_wp2_with fail
  go_ret
  exact ⟨rfl, b1⟩
end Go.Proofs.Ytbhlpiilklgnkab
