/-
  The walk of TextRunes: both tell the same runes, the same first one, the same count, and whether a text is right.
-/
import Derived.Test.YtbhlpiilklgnkaaLives
import Derived.Test.YtbhlpiilklgnkaaRRun2
import Derived.Test.YtbhlpiilklgnkaaSame
namespace Go.Proofs.Ytbhlpiilklgnkaa
open Go.RowKit
theorem nil_of_size {s : ByteArray} (h : ¬ 0 < s.size) : s = ⟨#[]⟩ := by
  apply ByteArray.ext
  apply Array.toList_inj.1
  have h1 : s.data.toList.length = s.size := by simp
  have : s.data.toList.length = 0 := by omega
  simpa using List.eq_nil_of_length_eq_zero this
theorem decode_both (s : ByteArray) (hs : s.size ≤ 140737488355328) : ∃ r n : Int, (∀ w : World, Calls Try.prog 8 #[.string s] w fun e w' => e = .returned (.tuple #[.int .i32 r, .int .i64 n]) ∧ Below w.heap.size w w') ∧ (∀ w : World, Calls Try.prog 9 #[.string s] w fun e w' => e = .returned (.tuple #[.int .i32 r, .int .i64 n]) ∧ Below w.heap.size w w') := by
  by_cases h : 0 < s.size
  · exact ⟨_, _, fun w => decode_any s w h, fun w => rdecode_any s w h hs⟩
  · rw [nil_of_size h]
    exact ⟨0, 0, fun w => decode_nil w, fun w => (rdecode_nil w).mono fun e w' ⟨h1, h2⟩ => ⟨h1, by rw [h2]; exact Below.refl _ _⟩⟩
theorem runesOf_len (s : ByteArray) : (runesOf s).length ≤ s.size := runesF_le s s.size 0
set_option maxRecDepth 20000 in
set_option maxHeartbeats 8000000 in
theorem runes_walk (s : ByteArray) (hs : s.size ≤ 35184372088831) (w : World) : Calls Try.prog 3 #[.string s] w fun e w' => e = .returned (.bool true) ∧ Below w.heap.size w w' := by
  obtain ⟨r, n, G1, G2⟩ := decode_both s (by omega)
  have H1 : Hid (∀ W : World, _) := G1
  have H2 : Hid (∀ W : World, _) := G2
  have H3 : Hid (∀ W : World, _) := fun W => lives_any W
  have H4 : Hid (∀ W : World, _) := fun W => runes_any s W hs
  have H5 : Hid (∀ W : World, _) := fun W => rrunes_any s W hs
  have H7 : Hid (∀ W : World, _) := fun W => valid_any s W (by omega)
  have H8 : Hid (∀ W : World, _) := fun W => rvalid_any s W (by omega)
  have H9 : Hid (∀ W : World, _) := fun W => count_any s W (by omega)
  have HC : Hid (∀ W : World, _) := fun W => rcount_any s W hs
  have hlen := runesOf_len s
  obtain ⟨R, hR⟩ : ∃ R, runesOf s = R := ⟨_, rfl⟩
  obtain ⟨V, hV⟩ : ∃ V, validB s = V := ⟨_, rfl⟩
  rw [hR] at H4 H5 H9 HC hlen
  rw [hV] at H7 H8
  have H6 : Hid (∀ (W : World) (a b : Option Addr) (ca cb : Nat), RunesAt W a (R.map Int.ofNat) → RunesAt W b (R.map Int.ofNat) → Calls Try.prog 11 #[.slice a R.length ca, .slice b R.length cb] W fun e w' => e = .returned (.bool true) ∧ Below W.heap.size W w') := fun W a b ca cb ha hb => by
    have := sameRunes_eq a b ca cb (R.map Int.ofNat) W ha hb (by simp; omega)
    rw [List.length_map] at this
    exact this
  clear G1 G2 hR hV hlen
  go_enter Try.func3, Try.ntmps3
  go_wp2_with fail
  refine (H1.out _).mono ?_
  rintro _ w1 ⟨rfl, b1⟩
  go_wp2_with fail
  refine (H2.out _).mono ?_
  rintro _ w2 ⟨rfl, b2⟩
  have B2 := b1.trans (b2.mono b1.size)
  clear b1 b2
  go_wp2_with fail
  refine (H3.out _).mono ?_
  rintro _ w3 ⟨rfl, b3⟩
  have B3 := B2.trans (b3.mono B2.size)
  clear B2 b3
  go_wp2_with fail
  refine (H4.out _).mono ?_
  rintro _ w4 ⟨a4, c4, rfl, o4, b4⟩
  have R4 := row_runes o4
  have B4 := B3.trans (b4.mono B3.size)
  clear B3 b4 o4
  go_wp2_with fail
  refine (H5.out _).mono ?_
  rintro _ w5 ⟨a5, c5, rfl, o5, b5⟩
  have R5 := row_runes o5
  have R4' := R4.below b5
  have B5 := B4.trans (b5.mono B4.size)
  clear B4 b5 o5 R4
  go_wp2_with fail
  refine (H6.out _ _ _ _ _ R4' R5).mono ?_
  rintro _ w6 ⟨rfl, b6⟩
  have B6 := B5.trans (b6.mono B5.size)
  clear B5 b6 R4' R5
  go_wp2_with fail
  refine (H7.out _).mono ?_
  rintro _ w7 ⟨rfl, b7⟩
  have B7 := B6.trans (b7.mono B6.size)
  clear B6 b7
  go_wp2_with fail
  refine (H8.out _).mono ?_
  rintro _ w8 ⟨rfl, b8⟩
  have B8 := B7.trans (b8.mono B7.size)
  clear B7 b8
  go_wp2_with fail
  refine (H9.out _).mono ?_
  rintro _ w9 ⟨rfl, b9⟩
  have B9 := B8.trans (b9.mono B8.size)
  clear B8 b9
  go_wp2_with fail
  refine (HC.out _).mono ?_
  rintro _ wa ⟨rfl, ba⟩
  have BA := B9.trans (ba.mono B9.size)
  clear B9 ba
  go_wp2_with fail
  go_ret
  exact ⟨rfl, BA⟩
end Go.Proofs.Ytbhlpiilklgnkaa
