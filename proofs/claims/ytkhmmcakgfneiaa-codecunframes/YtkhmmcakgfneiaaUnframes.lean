/-
  The walk of CodecUnframes: whatever the text, the call returns true, and turns nothing that was there.
-/
import Derived.Test.YtkhmmcakgfneiaaRefUnframe
namespace Go.Proofs.Ytkhmmcakgfneiaa
open Go.RowKit
set_option maxHeartbeats 1000000 in
theorem unframes_walk (s : ByteArray) (w : World) (hs : s.size ≤ maxLen) :
    Calls Try.prog 4 #[.string s] w fun r w' => r = .returned (.bool true) ∧ Below w.heap.size w w' := by
  have P1 : Hid _ := fun w => unframe_any s w hs
  have P2 : Hid _ := fun w => refUnframe_any s w hs
  obtain ⟨k, b, z, e0, hu⟩ : ∃ k b z e, unf s = (k, b, z, e) := ⟨_, _, _, _, rfl⟩
  rw [hu] at P1 P2
  clear hu
  go_enter Try.func4, Try.ntmps4
  go_wp2_with fail
  refine (P1.out _).mono ?_
  rintro e w1 ⟨rfl, b1⟩
  go_wp2_with fail
  refine (P2.out _).mono ?_
  rintro e w2 ⟨rfl, b2⟩
  go_wp2_with fail
  refine (awake_any _).mono ?_
  rintro e w3 ⟨rfl, b3⟩
  go_wp2_with fail
  refine (crc_any _ _ hs).mono ?_
  rintro e w4 ⟨rfl, rfl⟩
  go_wp2_with fail
  refine (refCrc_any _ _ hs).mono ?_
  rintro e w5 ⟨rfl, rfl⟩
  go_wp2_with fail
  go_ret
  exact ⟨rfl, b1.trans ((b2.mono b1.size).trans (b3.mono (Nat.le_trans b1.size b2.size)))⟩
end Go.Proofs.Ytkhmmcakgfneiaa
