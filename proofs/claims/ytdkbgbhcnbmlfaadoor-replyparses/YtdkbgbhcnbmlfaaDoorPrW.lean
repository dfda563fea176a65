/-
  The walk of ReplyParses.
-/
import Derived.Test.YtdkbgbhcnbmlfaaDoorQpr
import Derived.Test.YtdkbgbhcnbmlfaaDoorApW
namespace Go.Proofs.YtdkbgbhcnbmlfaaDoor
open Go.RowKit
set_option maxRecDepth 20000 in
set_option maxHeartbeats 16000000 in
theorem parses_walk (s : ByteArray) (hs : s.size ≤ 140737488355328) (w : World) (ht : TabP w) : Calls Tryd.prog 4 #[.string s] w fun e w' => e = .returned (.bool true) ∧ Below w.heap.size w w' := by
  have HTB : Hid (∀ W, Below w.heap.size w W → TabP W) := fun W q => tab_below ht q
  have H1 : Hid (∀ W, Below w.heap.size w W → _) := fun W q => awake_any W (HTB.out W q)
  have H2 : Hid (∀ W, Below w.heap.size w W → _) := fun W q => parse_any s hs W (HTB.out W q)
  have H3 : Hid (∀ W : World, _) := fun W => qparse_any s hs W
  clear ht
  obtain ⟨⟨r, n, e⟩, hR⟩ : ∃ X, parR s.data.toList = X := ⟨_, rfl⟩
  rw [hR] at H2 H3
  clear hR
  unfold rqV rpV at H3
  unfold rpV at H2
  dsimp only at H2 H3
  go_enter Tryd.func4, Tryd.ntmps4
  go_upto_region 2 with (go_at_call 14; refine (H2.out _ (Below.refl _ _)).mono ?_; rintro e1 w1 ⟨rfl, b1⟩)
  obtain ⟨W1, hW1⟩ : ∃ W1, w1.alloc (.cells (rpA r) 23) = W1 := ⟨_, rfl⟩
  have HX1 : Hid (RpB W1 w1.heap.size r) := by rw [Hid, ← hW1]; exact block_alloc_at _ _
  have HB1 : Hid (Below w.heap.size w W1) := by rw [Hid, ← hW1]; exact b1.trans (((Below.refl _ _).alloc (Nat.le_refl _) _).mono b1.size)
  unfold rpA at hW1
  rw [hW1]
  clear hW1
  go_upto_region 3 with (go_at_call 15; refine (H3.out _).mono ?_; rintro e1 w2 ⟨rfl, b2⟩)
  obtain ⟨W2, hW2⟩ : ∃ W2, w2.alloc (.cells (rpA r) 23) = W2 := ⟨_, rfl⟩
  have HX2 : Hid (RpB W2 w2.heap.size r) := by rw [Hid, ← hW2]; exact block_alloc_at _ _
  have b3 : Below W1.heap.size W1 W2 := by rw [← hW2]; exact b2.trans (((Below.refl _ _).alloc (Nat.le_refl _) _).mono b2.size)
  have HX3 : Hid (RpB W2 w1.heap.size r) := HX1.out.below b3
  have HB2 : Hid (Below w.heap.size w W2) := HB1.out.trans (b3.mono HB1.out.size)
  unfold rpA at hW2
  rw [hW2]
  clear hW2 b2 b3
  go_wp2_with (go_at_call 9; refine (H1.out _ HB2.out).mono ?_; rintro e1 w3 ⟨rfl, b4⟩; have HB3 : Hid (Below w.heap.size w w3) := HB2.out.trans (b4.mono HB2.out.size); have HX4 : Hid (RpB w3 w1.heap.size r) := HX3.out.below b4; have HX5 : Hid (RpB w3 w2.heap.size r) := HX2.out.below b4; clear b4; obtain ⟨a0, a1, a2, a3⟩ := HX4.out.cells; obtain ⟨k0, k1, k2, k3⟩ := HX5.out.cells)
  go_ret
  exact ⟨rfl, HB3.out⟩
end Go.Proofs.YtdkbgbhcnbmlfaaDoor
