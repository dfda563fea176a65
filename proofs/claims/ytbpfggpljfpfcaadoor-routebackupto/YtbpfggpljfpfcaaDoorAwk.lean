/-
  awake: the chapter's examples.
-/
import Derived.Test.YtbpfggpljfpfcaaDoorMth
import Derived.Test.YtbpfggpljfpfcaaDoorSam
namespace Go.Proofs.YtbpfggpljfpfcaaDoor
open Go.RowKit
def tg1 : List UInt8 := [47, 115, 101, 115, 115, 105, 111, 110, 115, 47, 97, 37, 50, 70, 98]
def tg2 : List UInt8 := [47, 115, 101, 115, 115, 105, 111, 110, 115]
def tg3 : List UInt8 := [47, 97, 117, 100, 105, 116, 63, 102, 114, 111, 109, 61, 48, 49]
def tg4 : List UInt8 := [47, 110, 111, 116, 104, 105, 110, 103]
theorem ex1 : (findR mGet tg1).2 = 200 ∧ (findR mGet tg1).1.kind = 2 ∧ (findR mGet tg1).1.token = [97, 47, 98] ∧ (findR mGet tg1).1.user = [] ∧ (findR mGet tg1).1.frm = 0 ∧ (findR mGet tg1).1.me = false := by decide +kernel
theorem ex1v : (findR mGet tg1).2 = 200 ∧ (findR mGet tg1).1 = ⟨2, [97, 47, 98], [], 0, false⟩ := by
  obtain ⟨h0, h1, h2, h3, h4, h5⟩ := ex1
  refine ⟨h0, ?_⟩
  generalize (findR mGet tg1).1 = x at *
  obtain ⟨a, b, c, d, e⟩ := x
  simp only at h1 h2 h3 h4 h5
  rw [h1, h2, h3, h4, h5]
theorem ex2 : (findR [80, 85, 84] tg2).2 = 405 := by decide +kernel
theorem ex3 : (findR mGet tg3).2 = 400 := by decide +kernel
theorem ex4 : (findR mGet tg4).2 = 404 := by decide +kernel
theorem ex5 : methR tg2 = [mDel, mPost] := by decide +kernel
theorem find_lit (m : List UInt8) (t : List UInt8) (ht : t.length ≤ 2000) (mx : Int) (w : World) (hm : w.cell? ⟨0, 0, none⟩ = some (.int .i64 mx)) : Calls Tryd.prog 8 #[.string (bOf m), .string (bOf t)] w fun e w' => e = .returned (.tuple #[rtV (findR m t).1, .int .i64 (findR m t).2]) ∧ Below w.heap.size w w' :=
  find_any m (bOf t) (by rw [bOf_size]; omega) mx w hm
set_option maxRecDepth 20000 in
set_option maxHeartbeats 32000000 in
theorem awake_any (mx : Int) (w : World) (hm : w.cell? ⟨0, 0, none⟩ = some (.int .i64 mx)) : Calls Tryd.prog 10 #[] w fun e w' => e = .returned (.bool true) ∧ Below w.heap.size w w' := by
  have HMX : Hid (∀ W, Below w.heap.size w W → W.cell? ⟨0, 0, none⟩ = some (.int .i64 mx)) := fun W b => mx_below hm b
  have HF1 : Hid (∀ W, Below w.heap.size w W → _) := fun W b => find_lit mGet tg1 (by decide) mx W (HMX.out W b)
  have HF2 : Hid (∀ W, Below w.heap.size w W → _) := fun W b => find_lit [80, 85, 84] tg2 (by decide) mx W (HMX.out W b)
  have HF3 : Hid (∀ W, Below w.heap.size w W → _) := fun W b => find_lit mGet tg3 (by decide) mx W (HMX.out W b)
  have HF4 : Hid (∀ W, Below w.heap.size w W → _) := fun W b => find_lit mGet tg4 (by decide) mx W (HMX.out W b)
  have HF5 : Hid (∀ W, Below w.heap.size w W → _) := fun W b => methods_any (bOf tg2) (by rw [bOf_size]; decide) mx W (HMX.out W b)
  rw [ex1v.1, ex1v.2] at HF1
  rw [ex2] at HF2
  rw [ex3] at HF3
  rw [ex4] at HF4
  rw [show (bOf tg2).data.toList = tg2 from rfl, ex5] at HF5
  obtain ⟨y2, hy2⟩ : ∃ y, (findR [80, 85, 84] tg2).1 = y := ⟨_, rfl⟩
  obtain ⟨y3, hy3⟩ : ∃ y, (findR mGet tg3).1 = y := ⟨_, rfl⟩
  obtain ⟨y4, hy4⟩ : ∃ y, (findR mGet tg4).1 = y := ⟨_, rfl⟩
  rw [hy2] at HF2
  rw [hy3] at HF3
  rw [hy4] at HF4
  clear hy2 hy3 hy4 hm
  have HBA : Hid (∀ (W W' : World) (o : Obj), Below w.heap.size w W → Below W.heap.size W W' → Below w.heap.size w (W'.alloc o)) := fun W W' o b1 b2 => (b1.trans (b2.mono b1.size)).alloc (b1.trans (b2.mono b1.size)).size _
  have HB0 : Hid (Below w.heap.size w w) := Below.refl _ _
  simp only [rtV, rtA] at HF1 HF2 HF3 HF4
  go_enter Tryd.func10, Tryd.ntmps10
  go_wp2_with fail
  refine (HF1.out _ HB0.out).mono ?_
  rintro e w1 ⟨rfl, b1⟩
  have HB1 : Hid (Below w.heap.size w w1) := b1
  have hs1 := HB1.out.size
  clear b1
  simp only [show bOf [97, 47, 98] = ⟨#[97, 47, 98]⟩ from rfl, show bOf [] = ⟨#[]⟩ from rfl]
  obtain ⟨X1, hX1⟩ : ∃ X1, w1.alloc (.cells #[.int .i64 2, .string ⟨#[97, 47, 98]⟩, .string ⟨#[]⟩, .int .i64 0, .bool false] 23) = X1 := ⟨_, rfl⟩
  have HX1 : Hid (X1.heap[w1.heap.size]? = some (.cells #[.int .i64 2, .string ⟨#[97, 47, 98]⟩, .string ⟨#[]⟩, .int .i64 0, .bool false] 23 (0, 0))) := by rw [Hid, ← hX1]; exact block_alloc_at _ _
  have HBX : Hid (Below w.heap.size w X1) := by rw [Hid, ← hX1]; exact HB1.out.alloc hs1 _
  have HE1 : Hid _ := hX1
  clear hX1
  go_wp2_with fail
  rw [HE1.out]
  refine (HF2.out X1 HBX.out).mono ?_
  rintro e w2 ⟨rfl, b2⟩
  have HX2 : Hid (w2.heap[w1.heap.size]? = _) := (b2.block _ (Array.getElem?_eq_some_iff.1 HX1.out).1).trans HX1.out
  have HB2 : Hid (Below w.heap.size w w2) := HBX.out.trans (b2.mono HBX.out.size)
  clear b2 HE1
  go_wp2_with fail
  refine (HF3.out _ (HB2.out.alloc HB2.out.size _)).mono ?_
  rintro e w3 ⟨rfl, b3⟩
  have HX3 : Hid (w3.heap[w1.heap.size]? = _) := (b3.block _ (Array.getElem?_eq_some_iff.1 (alloc_old HX2.out)).1).trans (alloc_old HX2.out)
  have HB3 : Hid (Below w.heap.size w w3) := (HB2.out.alloc HB2.out.size _).trans (b3.mono (HB2.out.alloc HB2.out.size _).size)
  clear b3
  go_wp2_with fail
  refine (HF4.out _ (HB3.out.alloc HB3.out.size _)).mono ?_
  rintro e w4 ⟨rfl, b4⟩
  have HX4 : Hid (w4.heap[w1.heap.size]? = _) := (b4.block _ (Array.getElem?_eq_some_iff.1 (alloc_old HX3.out)).1).trans (alloc_old HX3.out)
  have HB4 : Hid (Below w.heap.size w w4) := (HB3.out.alloc HB3.out.size _).trans (b4.mono (HB3.out.alloc HB3.out.size _).size)
  clear b4
  obtain ⟨X4, hX4⟩ : ∃ X4, w4.alloc (.cells #[.int .i64 y4.kind, .string (bOf y4.token), .string (bOf y4.user), .int .i64 y4.frm, .bool y4.me] 23) = X4 := ⟨_, rfl⟩
  have HX5 : Hid (X4.heap[w1.heap.size]? = some (.cells #[.int .i64 2, .string ⟨#[97, 47, 98]⟩, .string ⟨#[]⟩, .int .i64 0, .bool false] 23 (0, 0))) := by rw [Hid, ← hX4]; exact alloc_old HX4.out
  have HB5 : Hid (Below w.heap.size w X4) := by rw [Hid, ← hX4]; exact HB4.out.alloc HB4.out.size _
  have k0 : X4.cell? ⟨w1.heap.size, 0, none⟩ = some (.int .i64 2) := cell_of_block HX5.out rfl
  have k1 : X4.cell? ⟨w1.heap.size, 1, none⟩ = some (.string ⟨#[97, 47, 98]⟩) := cell_of_block HX5.out rfl
  have k2 : X4.cell? ⟨w1.heap.size, 2, none⟩ = some (.string ⟨#[]⟩) := cell_of_block HX5.out rfl
  have k3 : X4.cell? ⟨w1.heap.size, 3, none⟩ = some (.int .i64 0) := cell_of_block HX5.out rfl
  have k4 : X4.cell? ⟨w1.heap.size, 4, none⟩ = some (.bool false) := cell_of_block HX5.out rfl

  have HE4 : Hid _ := hX4
  clear hX4
  go_upto_region 5 with fail
  rw [HE4.out]
  clear HE4
  go_wp2_with fail
  refine (HF5.out X4 HB5.out).mono ?_
  rintro e w5 ⟨a, c, rfl, ht, b5⟩
  have HB6 : Hid (Below w.heap.size w w5) := HB5.out.trans (b5.mono HB5.out.size)
  have H6 : Hid (∀ _ : Unit, _) := fun _ => same_eq a (some ⟨w5.heap.size, 0, none⟩) c 2 ([mDel, mPost].map bOf) (w5.alloc (.cells #[.string (bOf mDel), .string (bOf mPost)] 9)) (ht.below (below_new _ _)) (path_new w5 ([mDel, mPost].map bOf)) (by decide)
  have HB7 : Hid (∀ W', Below (w5.alloc (.cells #[.string (bOf mDel), .string (bOf mPost)] 9)).heap.size (w5.alloc (.cells #[.string (bOf mDel), .string (bOf mPost)] 9)) W' → Below w.heap.size w W') := fun W' b => (HB6.out.alloc HB6.out.size _).trans (b.mono (HB6.out.alloc HB6.out.size _).size)
  simp only [List.length_cons, List.length_nil, List.length_map] at H6 ⊢
  clear b5 ht k0 k1 k2 k3 k4
  go_wp2_with fail
  refine (H6.out ()).mono ?_
  rintro e w6 ⟨rfl, b6⟩
  have HB8 : Hid (Below w.heap.size w w6) := HB7.out w6 b6
  clear b6
  go_wp2_with fail
  go_ret
  exact ⟨rfl, HB8.out⟩
end Go.Proofs.YtbpfggpljfpfcaaDoor
