/-
  The walk of TextEscapes: both escape and unescape alike, and what is escaped is read back.
-/
import Derived.Test.YtbhlpiilklgnkaaLives
import Derived.Test.YtbhlpiilklgnkaaREsc
import Derived.Test.YtbhlpiilklgnkaaRUnesc
namespace Go.Proofs.Ytbhlpiilklgnkaa
open Go.RowKit
theorem unescV_form (l : List UInt8) : ∃ (t : ByteArray) (e : Int), unescV l = #[.string t, .int .i64 e] := by
  unfold unescV
  split
  · exact ⟨_, _, rfl⟩
  · exact ⟨_, _, rfl⟩
set_option maxRecDepth 20000 in
set_option maxHeartbeats 4000000 in
theorem escapes_walk (s : ByteArray) (hs : s.size ≤ 1048576) (w : World) : Calls Try.prog 7 #[.string s] w fun e w' => e = .returned (.bool true) ∧ Below w.heap.size w w' := by
  have H1 : Hid (∀ W : World, _) := fun W => escape_any s W (by omega)
  have H2 : Hid (∀ W : World, _) := fun W => unescape_any ⟨(escOf s.data.toList).toArray⟩ W (by
    have := escOf_len s.data.toList
    have h2 : s.data.toList.length = s.size := by simp
    simp only [ByteArray.size, List.size_toArray]
    omega)
  have hback : unescV (⟨(escOf s.data.toList).toArray⟩ : ByteArray).data.toList = #[.string s, .int .i64 0] := by
    show unescV (escOf s.data.toList) = _
    rw [unescV, unesc_esc]
  rw [hback] at H2
  have H3 : Hid (∀ W : World, _) := fun W => unescape_any s W (by omega)
  have H4 : Hid (∀ W : World, _) := fun W => runescape_any s W (by omega)
  obtain ⟨t, e, hte⟩ := unescV_form s.data.toList
  rw [hte] at H3 H4
  have H5 : Hid (∀ W : World, _) := fun W => rescape_any s W (by omega)
  obtain ⟨E, hE⟩ : ∃ E : ByteArray, (⟨(escOf s.data.toList).toArray⟩ : ByteArray) = E := ⟨_, rfl⟩
  rw [hE] at H1 H2 H5
  have H6 : Hid (∀ W : World, _) := fun W => lives_any W
  clear hback hte hE
  go_enter Try.func7, Try.ntmps7
  go_wp2_with fail
  refine (H1.out _).mono ?_
  rintro _ w1 ⟨rfl, b1⟩
  go_wp2_with fail
  refine (H2.out _).mono ?_
  rintro _ w2 ⟨rfl, b2⟩
  have B2 := b1.trans (b2.mono b1.size)
  clear b1 b2
  go_wp2_with fail
  refine (H3.out _).mono ?_
  rintro _ w3 ⟨rfl, b3⟩
  have B3 := B2.trans (b3.mono B2.size)
  clear B2 b3
  go_wp2_with fail
  refine (H4.out _).mono ?_
  rintro _ w4 ⟨rfl, b4⟩
  have B4 := B3.trans (b4.mono B3.size)
  clear B3 b4
  go_wp2_with fail
  refine (H6.out _).mono ?_
  rintro _ w5 ⟨rfl, b5⟩
  have B5 := B4.trans (b5.mono B4.size)
  clear B4 b5
  go_wp2_with fail
  refine (H5.out _).mono ?_
  rintro _ w6 ⟨rfl, b6⟩
  have B6 := B5.trans (b6.mono B5.size)
  clear B5 b6
  go_wp2_with fail
  go_ret
  exact ⟨rfl, B6⟩
end Go.Proofs.Ytbhlpiilklgnkaa
