/-
  The walk of TextNames: both tell alike what may be a name and a token, and what a text is in small letters and without blanks around.
-/
import Derived.Test.YtbhlpiilklgnkaaDoorLives
import Derived.Test.YtbhlpiilklgnkaaDoorNameC
import Derived.Test.YtbhlpiilklgnkaaDoorLowerC
import Derived.Test.YtbhlpiilklgnkaaDoorTrimC
namespace Go.Proofs.YtbhlpiilklgnkaaDoor
open Go.RowKit
set_option maxRecDepth 20000 in
set_option maxHeartbeats 8000000 in
theorem names_walk (s : ByteArray) (hs : s.size ≤ 140737488355328) (w : World) : Calls Tryd.prog 3 #[.string s] w fun e w' => e = .returned (.bool true) ∧ Below w.heap.size w w' := by
  have H0 : Hid (∀ W : World, _) := fun W => lives_any W
  have H1 : Hid (∀ W : World, _) := fun W => name_any s W hs
  have H2 : Hid (∀ W : World, _) := fun W => rname_any s W hs
  have H3 : Hid (∀ W : World, _) := fun W => token_any s hs W
  have H4 : Hid (∀ W : World, _) := fun W => rtoken_any s hs W
  have H5 : Hid (∀ W : World, _) := fun W => lower_any s hs W
  have H6 : Hid (∀ W : World, _) := fun W => rlower_any s hs W
  have H7 : Hid (∀ W : World, _) := fun W => trim_any s hs W
  have H8 : Hid (∀ W : World, _) := fun W => rtrim_any s hs W
  obtain ⟨A, hA⟩ : ∃ A, nameB s = A := ⟨_, rfl⟩
  obtain ⟨B, hB⟩ : ∃ B, tokR s = B := ⟨_, rfl⟩
  obtain ⟨C, hC⟩ : ∃ C : ByteArray, (⟨(s.data.toList.map lowC).toArray⟩ : ByteArray) = C := ⟨_, rfl⟩
  obtain ⟨D, hD⟩ : ∃ D, trimT s = D := ⟨_, rfl⟩
  rw [hA] at H1 H2
  rw [hB] at H3 H4
  rw [hC] at H5 H6
  rw [hD] at H7 H8
  clear hA hB hC hD
  go_enter Tryd.func3, Tryd.ntmps3
  go_wp2_with fail
  refine (H0.out _).mono ?_
  rintro _ w1 ⟨rfl, b1⟩
  go_wp2_with fail
  refine (H1.out _).mono ?_
  rintro _ w2 ⟨rfl, b2⟩
  have B2 := b1.trans (b2.mono b1.size)
  clear b1 b2
  go_wp2_with fail
  refine (H2.out _).mono ?_
  rintro _ w3 ⟨rfl, b3⟩
  have B3 := B2.trans (b3.mono B2.size)
  clear B2 b3
  go_wp2_with fail
  refine (H3.out _).mono ?_
  rintro _ w4 ⟨rfl, rfl⟩
  go_wp2_with fail
  refine (H4.out _).mono ?_
  rintro _ w5 ⟨rfl, rfl⟩
  go_wp2_with fail
  refine (H5.out _).mono ?_
  rintro _ w6 ⟨rfl, b6⟩
  have B6 := B3.trans (b6.mono B3.size)
  clear B3 b6
  go_wp2_with fail
  refine (H6.out _).mono ?_
  rintro _ w7 ⟨rfl, b7⟩
  have B7 := B6.trans (b7.mono B6.size)
  clear B6 b7
  go_wp2_with fail
  refine (H7.out _).mono ?_
  rintro _ w8 ⟨rfl, b8⟩
  have B8 := B7.trans (b8.mono B7.size)
  clear B7 b8
  go_wp2_with fail
  refine (H8.out _).mono ?_
  rintro _ w9 ⟨rfl, rfl⟩
  go_wp2_with fail
  go_ret
  exact ⟨rfl, B8⟩
end Go.Proofs.YtbhlpiilklgnkaaDoor
