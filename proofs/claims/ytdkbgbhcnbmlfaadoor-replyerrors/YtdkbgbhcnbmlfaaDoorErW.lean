/-
  The walk of ReplyErrors.
-/
import Derived.Test.YtdkbgbhcnbmlfaaDoorAwk
namespace Go.Proofs.YtdkbgbhcnbmlfaaDoor
open Go.RowKit
set_option maxRecDepth 20000 in
set_option maxHeartbeats 8000000 in
theorem errors_walk (z : Int) (h0 : -9223372036854775808 ≤ z) (h1 : z ≤ 9223372036854775807) (s : ByteArray) (hs : s.size ≤ 140737488355328) (w : World) (ht : TabP w) :
    Calls Tryd.prog 7 #[.int .i64 z, .string s] w fun e w' => e = .returned (.bool true) ∧ Below w.heap.size w w' := by
  have H1 : Hid (∀ _ : Unit, _) := fun _ => awake_any w ht
  have H2 : Hid (∀ W : World, _) := fun W => error_any z s hs W
  have H3 : Hid (∀ W : World, _) := fun W => qerror_any z s hs W
  have H4 : Hid (∀ W : World, _) := fun W => words_any z h0 h1 W
  have H5 : Hid (∀ W : World, _) := fun W => qwords_any z W
  have HRV : Hid (rpV (errR z s.data.toList) = .agg #[.int .i64 z, .string (mkB (errB s.data.toList)), .string ⟨#[]⟩, .bool (errC z)]) := rfl
  rw [HRV.out] at H2 H3
  obtain ⟨B, hB⟩ : ∃ B, mkB (errB s.data.toList) = B := ⟨_, rfl⟩
  rw [hB] at H2 H3
  obtain ⟨c, hc⟩ : ∃ c, errC z = c := ⟨_, rfl⟩
  rw [hc] at H2 H3
  obtain ⟨d, hd⟩ : ∃ d, wordsR z = d := ⟨_, rfl⟩
  rw [hd] at H4 H5
  have e1 : (z == z) = true := by simp
  have e2 : (B.toList == B.toList) = true := by simp
  have e3 : (c == c) = true := by simp
  have e4 : (d.toList == d.toList) = true := by simp
  clear hB hc hd HRV ht
  go_enter Tryd.func7, Tryd.ntmps7
  go_wp2_with fail
  refine (H1.out ()).mono ?_
  rintro e w1 ⟨rfl, b1⟩
  have HB1 : Hid (Below w.heap.size w w1) := b1
  clear b1
  go_wp2_with fail
  refine (H2.out _).mono ?_
  rintro e w2 ⟨rfl, b2⟩
  have HB2 : Hid (Below w.heap.size w w2) := HB1.out.trans (b2.mono HB1.out.size)
  clear b2
  go_wp2_with fail
  refine (H3.out _).mono ?_
  rintro e w3 ⟨rfl, b3⟩
  have HB3 : Hid (Below w.heap.size w w3) := HB2.out.trans (b3.mono HB2.out.size)
  clear b3
  go_wp2_with fail
  refine (H4.out _).mono ?_
  rintro e w4 ⟨rfl, b4⟩
  have HB4 : Hid (Below w.heap.size w w4) := HB3.out.trans (b4.mono HB3.out.size)
  clear b4
  go_wp2_with fail
  refine (H5.out _).mono ?_
  rintro e w5 ⟨rfl, rfl⟩
  go_wp2_with fail
  go_ret
  exact ⟨rfl, HB4.out⟩
end Go.Proofs.YtdkbgbhcnbmlfaaDoor
