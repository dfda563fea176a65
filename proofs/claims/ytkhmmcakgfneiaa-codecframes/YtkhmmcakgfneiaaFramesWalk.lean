/-
  The walk of CodecFrames: whatever the kind, the body and what stands behind, the call returns true, and turns nothing that was there.
-/
import Derived.Test.YtkhmmcakgfneiaaRefFrame
namespace Go.Proofs.Ytkhmmcakgfneiaa
open Go.RowKit
theorem frames_long (k : Nat) (body t : ByteArray) (w : World) (hl : 1048576 < body.size) (hs : body.size ≤ maxLen) :
    Calls Try.prog 6 #[.int .u8 k, .string body, .string t] w fun r w' => r = .returned (.bool true) ∧ Below w.heap.size w w' := by
  go_enter Try.func6, Try.ntmps6
  go_wp2_with fail
  refine (awake_any _).mono ?_
  rintro e w1 ⟨rfl, B1⟩
  go_wp2_with fail
  refine (frame_long k body _ hl hs).mono ?_
  rintro e w2 ⟨rfl, rfl⟩
  go_wp2_with fail
  refine (refFrame_long k body _ hl hs).mono ?_
  rintro e w3 ⟨rfl, rfl⟩
  go_wp2_with fail
  go_ret
  exact ⟨rfl, B1⟩
set_option maxHeartbeats 1000000 in
theorem frames_short (k : Nat) (body t : ByteArray) (w : World) (hk : k < 256) (hl : body.size ≤ 1048576) (ht : t.size ≤ 140737488351232) :
    Calls Try.prog 6 #[.int .u8 k, .string body, .string t] w fun r w' => r = .returned (.bool true) ∧ Below w.heap.size w w' := by
  have F1 : Hid _ := fun w => frame_any k body w hk hl
  have F2 : Hid _ := fun w => refFrame_any k body w hk hl
  have HU : Hid _ := unf_frame k body t hk hl
  have HN : Hid (∀ w, (⟨(frBytes k body).toArray⟩ ++ t : ByteArray).size ≤ maxLen → _) := fun w h => unframe_any (⟨(frBytes k body).toArray⟩ ++ t) w h
  rw [HU.out] at HN
  obtain ⟨S, hS⟩ : ∃ S : ByteArray, S = ⟨(frBytes k body).toArray⟩ := ⟨_, rfl⟩
  have hSs : S.size = 12 + body.size := by rw [hS, size_list]; exact frBytes_len k body
  rw [← hS] at F1 F2 HN
  clear hS HU
  have hz : (S ++ t).size ≤ maxLen := by rw [ByteArray.size_append, hSs]; unfold maxLen; omega
  have HZ : Hid _ := hz
  clear hz
  go_enter Try.func6, Try.ntmps6
  go_wp2_with fail
  refine (awake_any _).mono ?_
  rintro e w1 ⟨rfl, B1⟩
  go_wp2_with fail
  refine (F1.out _).mono ?_
  rintro e w2 ⟨rfl, B2⟩
  go_wp2_with fail
  refine (F2.out _).mono ?_
  rintro e w3 ⟨rfl, B3⟩
  go_wp2_with fail
  refine (HN.out _ HZ.out).mono ?_
  rintro e w4 ⟨rfl, B4⟩
  go_wp2_with fail
  go_ret
  have s1 := B1.size; have s2 := B2.size; have s3 := B3.size
  exact ⟨rfl, B1.trans ((B2.mono s1).trans ((B3.mono (by omega)).trans (B4.mono (by omega))))⟩
theorem frames_any (k : Nat) (body t : ByteArray) (w : World) (hk : k < 256) (hb : body.size ≤ maxLen) (ht : t.size ≤ 140737488351232) :
    Calls Try.prog 6 #[.int .u8 k, .string body, .string t] w fun r w' => r = .returned (.bool true) ∧ Below w.heap.size w w' := by
  by_cases h : body.size ≤ 1048576
  · exact frames_short k body t w hk h ht
  · exact frames_long k body t w (by omega) hb
end Go.Proofs.Ytkhmmcakgfneiaa
