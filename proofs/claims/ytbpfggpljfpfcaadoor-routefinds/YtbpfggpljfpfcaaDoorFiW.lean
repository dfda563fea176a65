/-
  The walk of RouteFinds.
-/
import Derived.Test.YtbpfggpljfpfcaaDoorQfi
import Derived.Test.YtbpfggpljfpfcaaDoorQme
namespace Go.Proofs.YtbpfggpljfpfcaaDoor
open Go.RowKit
theorem meth_short (t : List UInt8) : (methR t).length ≤ 1000 := by
  rw [← srt_rof, srt_len, List.length_map]
  have := rof_len t
  omega
set_option maxRecDepth 20000 in
set_option maxHeartbeats 32000000 in
theorem finds_walk (m s : ByteArray) (hs : s.size ≤ 140737488355328) (mx : Int) (w : World) (hm : w.cell? ⟨0, 0, none⟩ = some (.int .i64 mx)) : Calls Tryd.prog 3 #[.string m, .string s] w fun e w' => e = .returned (.bool true) ∧ Below w.heap.size w w' := by
  have HMX : Hid (∀ W, Below w.heap.size w W → W.cell? ⟨0, 0, none⟩ = some (.int .i64 mx)) := fun W b => mx_below hm b
  have H1 : Hid (∀ _ : Unit, _) := fun _ => find_any m.data.toList s hs mx w hm
  have H2 : Hid (∀ W : World, _) := fun W => qfind_route m.data.toList s hs W
  rw [show bOf m.data.toList = m from rfl] at H1 H2
  have H3 : Hid (∀ W, Below w.heap.size w W → _) := fun W b => awake_any mx W (HMX.out W b)
  have H4 : Hid (∀ W, Below w.heap.size w W → _) := fun W b => methods_any s hs mx W (HMX.out W b)
  have H5 : Hid (∀ W : World, _) := fun W => qmethods_any s hs W
  have hml := meth_short s.data.toList
  obtain ⟨F, hF⟩ : ∃ F, findR m.data.toList s.data.toList = F := ⟨_, rfl⟩
  rw [hF] at H1 H2
  obtain ⟨M, hM⟩ : ∃ M, methR s.data.toList = M := ⟨_, rfl⟩
  rw [hM] at H4 H5 hml
  obtain ⟨⟨k, a, b, f, me⟩, st⟩ := F
  simp only [rtV, rtA] at H1 H2
  unfold MthP at H4 H5
  clear hF hM hm
  obtain ⟨A, hA⟩ : ∃ A, bOf a = A := ⟨_, rfl⟩
  obtain ⟨B, hB⟩ : ∃ B, bOf b = B := ⟨_, rfl⟩
  rw [hA, hB] at H1 H2
  clear hA hB
  go_enter Tryd.func3, Tryd.ntmps3
  go_wp2_with fail
  refine (H1.out ()).mono ?_
  rintro e w1 ⟨rfl, b1⟩
  have HB1 : Hid (Below w.heap.size w w1) := b1
  clear b1 H1
  obtain ⟨X1, hX1⟩ : ∃ X1, w1.alloc (.cells #[.int .i64 k, .string A, .string B, .int .i64 f, .bool me] 23) = X1 := ⟨_, rfl⟩
  have HX1 : Hid (X1.heap[w1.heap.size]? = some (.cells #[.int .i64 k, .string A, .string B, .int .i64 f, .bool me] 23 (0, 0))) := by rw [Hid, ← hX1]; exact block_alloc_at _ _
  have HBX1 : Hid (Below w.heap.size w X1) := by rw [Hid, ← hX1]; exact HB1.out.alloc HB1.out.size _
  have HE1 : Hid _ := hX1
  clear hX1
  go_wp2_with fail
  rw [HE1.out]
  refine (H2.out X1).mono ?_
  rintro e w2 ⟨rfl, b2⟩
  have HX2 : Hid (w2.heap[w1.heap.size]? = some (.cells #[.int .i64 k, .string A, .string B, .int .i64 f, .bool me] 23 (0, 0))) := (b2.block _ (Array.getElem?_eq_some_iff.1 HX1.out).1).trans HX1.out
  have HB2 : Hid (Below w.heap.size w w2) := HBX1.out.trans (b2.mono HBX1.out.size)
  clear b2 HE1 H2
  obtain ⟨X2, hX2⟩ : ∃ X2, w2.alloc (.cells #[.int .i64 k, .string A, .string B, .int .i64 f, .bool me] 23) = X2 := ⟨_, rfl⟩
  have HY2 : Hid (X2.heap[w2.heap.size]? = some (.cells #[.int .i64 k, .string A, .string B, .int .i64 f, .bool me] 23 (0, 0))) := by rw [Hid, ← hX2]; exact block_alloc_at _ _
  have HX3 : Hid (X2.heap[w1.heap.size]? = some (.cells #[.int .i64 k, .string A, .string B, .int .i64 f, .bool me] 23 (0, 0))) := by rw [Hid, ← hX2]; exact alloc_old HX2.out
  have HBX2 : Hid (Below w.heap.size w X2) := by rw [Hid, ← hX2]; exact HB2.out.alloc HB2.out.size _
  have HE2 : Hid _ := hX2
  clear hX2
  go_wp2_with fail
  rw [HE2.out]
  refine (H3.out X2 HBX2.out).mono ?_
  rintro e w3 ⟨rfl, b3⟩
  have HX4 : Hid (w3.heap[w1.heap.size]? = some (.cells #[.int .i64 k, .string A, .string B, .int .i64 f, .bool me] 23 (0, 0))) := (b3.block _ (Array.getElem?_eq_some_iff.1 HX3.out).1).trans HX3.out
  have HY4 : Hid (w3.heap[w2.heap.size]? = some (.cells #[.int .i64 k, .string A, .string B, .int .i64 f, .bool me] 23 (0, 0))) := (b3.block _ (Array.getElem?_eq_some_iff.1 HY2.out).1).trans HY2.out
  have HB3 : Hid (Below w.heap.size w w3) := HBX2.out.trans (b3.mono HBX2.out.size)
  have k0 : w3.cell? ⟨w1.heap.size, 0, none⟩ = some (.int .i64 k) := cell_of_block HX4.out rfl
  have k1 : w3.cell? ⟨w1.heap.size, 1, none⟩ = some (.string A) := cell_of_block HX4.out rfl
  have k2 : w3.cell? ⟨w1.heap.size, 2, none⟩ = some (.string B) := cell_of_block HX4.out rfl
  have k3 : w3.cell? ⟨w1.heap.size, 3, none⟩ = some (.int .i64 f) := cell_of_block HX4.out rfl
  have k4 : w3.cell? ⟨w1.heap.size, 4, none⟩ = some (.bool me) := cell_of_block HX4.out rfl
  have j0 : w3.cell? ⟨w2.heap.size, 0, none⟩ = some (.int .i64 k) := cell_of_block HY4.out rfl
  have j1 : w3.cell? ⟨w2.heap.size, 1, none⟩ = some (.string A) := cell_of_block HY4.out rfl
  have j2 : w3.cell? ⟨w2.heap.size, 2, none⟩ = some (.string B) := cell_of_block HY4.out rfl
  have j3 : w3.cell? ⟨w2.heap.size, 3, none⟩ = some (.int .i64 f) := cell_of_block HY4.out rfl
  have j4 : w3.cell? ⟨w2.heap.size, 4, none⟩ = some (.bool me) := cell_of_block HY4.out rfl
  clear b3 HE2 H3
  go_wp2_with fail
  refine (H4.out w3 HB3.out).mono ?_
  rintro e w4 ⟨a4, c4, rfl, ht4, b4⟩
  have HB4 : Hid (Below w.heap.size w w4) := HB3.out.trans (b4.mono HB3.out.size)
  have HT4 : Hid (TextsAt w4 a4 (M.map bOf)) := ht4
  clear b4 ht4 H4 k0 k1 k2 k3 k4 j0 j1 j2 j3 j4
  go_wp2_with fail
  refine (H5.out w4).mono ?_
  rintro e w5 ⟨a5, c5, rfl, ht5, b5⟩
  have HB5 : Hid (Below w.heap.size w w5) := HB4.out.trans (b5.mono HB4.out.size)
  have H6 : Hid (∀ _ : Unit, _) := fun _ => same_eq a4 a5 c4 c5 (M.map bOf) w5 (HT4.out.below b5) ht5 (by rw [List.length_map]; omega)
  rw [List.length_map] at H6
  clear b5 ht5 H5
  go_wp2_with fail
  refine (H6.out ()).mono ?_
  rintro e w6 ⟨rfl, b6⟩
  have HB6 : Hid (Below w.heap.size w w6) := HB5.out.trans (b6.mono HB5.out.size)
  clear b6
  go_wp2_with fail
  go_ret
  exact ⟨rfl, HB6.out⟩
end Go.Proofs.YtbpfggpljfpfcaaDoor
