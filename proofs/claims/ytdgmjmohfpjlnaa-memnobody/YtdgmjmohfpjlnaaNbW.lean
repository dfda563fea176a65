/-
  The walk of MemNobody.
-/
import Derived.Test.YtdgmjmohfpjlnaaGoe
namespace Go.Proofs.Ytdgmjmohfpjlnaa
open Go.RowKit Go.Shelf
attribute [local go_sem] Oper.semAt_some
/-- The box of an Op. -/
def OB (W : World) (x : Nat) (k : Int) (c : Cl) (tw : ByteArray) (n : Int) : Prop := W.heap[x]? = some (.cells #[.int .i64 k, .string c.key, .int .u64 (c.seq : Nat), .string c.val, .bool c.gone, .string tw, .int .i64 n] 35 (0, 0))
theorem OB.cells {W : World} {x : Nat} {k : Int} {c : Cl} {tw : ByteArray} {n : Int} (h : OB W x k c tw n) : W.cell? ⟨x, 1, none⟩ = some (.string c.key) ∧ W.cell? ⟨x, 2, none⟩ = some (.int .u64 (c.seq : Nat)) ∧ W.cell? ⟨x, 3, none⟩ = some (.string c.val) ∧ W.cell? ⟨x, 4, none⟩ = some (.bool c.gone) ∧ W.cell? ⟨x, 5, none⟩ = some (.string tw) ∧ W.cell? ⟨x, 6, none⟩ = some (.int .i64 n) :=
  ⟨cell_of_block h rfl, cell_of_block h rfl, cell_of_block h rfl, cell_of_block h rfl, cell_of_block h rfl, cell_of_block h rfl⟩
theorem OB.below {W W' : World} {x : Nat} {k : Int} {c : Cl} {tw : ByteArray} {n : Int} (h : OB W x k c tw n) (b : Below W.heap.size W W') : OB W' x k c tw n := (b.block x (Array.getElem?_eq_some_iff.1 h).1).trans h
theorem OB.lt {W : World} {x : Nat} {k : Int} {c : Cl} {tw : ByteArray} {n : Int} (h : OB W x k c tw n) : x < W.heap.size := (Array.getElem?_eq_some_iff.1 h).1
set_option maxRecDepth 100000 in
set_option maxHeartbeats 8000000 in
theorem nobody_walk (k : Int) (c : Cl) (tw : ByteArray) (n : Int) (w : World) : Calls Try.prog 8 #[.agg #[.int .i64 k, .string c.key, .int .u64 (c.seq : Nat), .string c.val, .bool c.gone, .string tw, .int .i64 n]] w fun e w' => e = .returned (.bool true) ∧ Below w.heap.size w w' := by
  obtain ⟨W0, hW0⟩ : ∃ W0, w.alloc (.cells #[.int .i64 k, .string c.key, .int .u64 (c.seq : Nat), .string c.val, .bool c.gone, .string tw, .int .i64 n] 35) = W0 := ⟨_, rfl⟩
  have HB0 : Hid (Below w.heap.size w W0) := by rw [Hid, ← hW0]; exact below_new _ _
  have HX0 : Hid (OB W0 w.heap.size k c tw n) := by rw [Hid, ← hW0]; exact block_alloc_at _ _
  go_enter Try.func8, Try.ntmps8
  go_wp2_with fail
  try rw [hW0]
  clear hW0
  refine (awake_any W0).mono ?_
  rintro e w1 ⟨rfl, b1⟩
  obtain ⟨x, hx⟩ : ∃ x, w.heap.size = x := ⟨_, rfl⟩
  rw [hx] at HX0 ⊢
  have HX1 : Hid (OB w1 x k c tw n) := HX0.out.below b1
  have HB1 : Hid (Below w.heap.size w w1) := below_on HB0.out b1
  clear b1 HX0 HB0
  go_wp2_with fail
  obtain ⟨W2, hW2⟩ : ∃ W2, (w1.alloc (.cells #[.pointer none, .slice none 0 0, .int .i64 0] 59)).alloc (.cells #[.pointer none, .pointer (some ⟨w1.heap.size, 0, none⟩)] 23) = W2 := ⟨_, rfl⟩
  have hm2 : W2.heap[w1.heap.size]? = some (.cells #[.pointer none, .slice none 0 0, .int .i64 0] 59 (0, 0)) := by
    rw [← hW2]; exact (Below.heap_alloc _ _ _ (by simp)).trans (block_alloc_at _ _)
  have hr2 : W2.heap[w1.heap.size + 1]? = some (.cells #[.pointer none, .pointer (some ⟨w1.heap.size, 0, none⟩)] 23 (0, 0)) := by
    rw [← hW2]
    have := block_alloc_at (w1.alloc (.cells #[.pointer none, .slice none 0 0, .int .i64 0] 59)) (.cells #[.pointer none, .pointer (some ⟨w1.heap.size, 0, none⟩)] 23)
    rwa [World.size_alloc] at this
  have hb2 : Below w1.heap.size w1 W2 := by rw [← hW2]; exact ((Below.refl _ w1).alloc (Nat.le_refl _) _).alloc (by simp) _
  have HB2 : Hid (Below w.heap.size w W2) := below_on HB1.out hb2
  have HX2 : Hid (OB W2 x k c tw n) := HX1.out.below hb2
  obtain ⟨m, hm⟩ : ∃ m, w1.heap.size = m := ⟨_, rfl⟩
  try rw [hW2]
  rw [hm] at hm2 hr2 ⊢
  have HM2 : Hid _ := hm2
  have HR2 : Hid _ := hr2
  clear hW2 hm2 hr2 hb2 HX1 HB1 hm
  refine wp_loop_rounds 3 ?_
  unfold Code.rounds
  obtain ⟨x1, x2, x3, x4, x5, x6⟩ := OB.cells HX2.out
  have r0 : W2.cell? ⟨m + 1, 0, none⟩ = some (.pointer none) := cell_of_block HR2.out rfl
  have HN : Hid (Nby W2 none) := (Or.inl rfl)
  go_wp2_with fail
  refine (nob_get none c.key c.seq W2 HN.out).mono ?_
  rintro e wa ⟨rfl, ba⟩
  simp only [getV, clV, cl0]
  obtain ⟨V, hV⟩ : ∃ V, wa.alloc (.cells #[.string ⟨#[]⟩, .int .u64 0, .string ⟨#[]⟩, .bool false] 33) = V := ⟨_, rfl⟩
  have bV : Below W2.heap.size W2 V := by rw [← hV]; exact ba.alloc ba.size _
  have zV : V.heap[wa.heap.size]? = some (.cells #[.string ⟨#[]⟩, .int .u64 0, .string ⟨#[]⟩, .bool false] 33 (0, 0)) := by rw [← hV]; exact block_alloc_at _ _
  have xV : OB V x k c tw n := HX2.out.below bV
  have hzl : wa.heap.size < V.heap.size := (Array.getElem?_eq_some_iff.1 zV).1
  obtain ⟨x1, x2, x3, x4, x5, x6⟩ := OB.cells xV
  have HBV : Hid (Below W2.heap.size W2 V) := bV
  have HZV : Hid (V.heap[wa.heap.size]? = some (.cells #[.string ⟨#[]⟩, .int .u64 0, .string ⟨#[]⟩, .bool false] 33 (0, 0))) := zV
  have HXV : Hid (OB V x k c tw n) := xV
  have HV : Hid _ := hV
  rw [← hV] at x1 x2 x3 x4 x5 x6
  clear ba bV zV xV hV r0
  go_wp2_with fail
  rw [HV.out]
  clear HV x1 x2 x3 x4 x5 x6
  obtain ⟨z, hz⟩ : ∃ z, wa.heap.size = z := ⟨_, rfl⟩
  rw [hz] at HZV hzl ⊢
  clear hz wa
  have HNV : Hid (Nby V none) := HN.out.below HBV.out
  refine (nob_put none c n V HNV.out).mono ?_
  rintro e V0 ⟨rfl, bb⟩
  have HBW : Hid (Below W2.heap.size W2 V0) := below_on HBV.out bb
  clear HBV
  have HBV : Hid _ := HBW
  have hz0 : V0.heap[z]? = some (.cells #[.string ⟨#[]⟩, .int .u64 0, .string ⟨#[]⟩, .bool false] 33 (0, 0)) := (bb.block _ hzl).trans HZV.out
  have z0 : V0.cell? ⟨z, 0, none⟩ = some (.string ⟨#[]⟩) := cell_of_block hz0 rfl
  have z1 : V0.cell? ⟨z, 1, none⟩ = some (.int .u64 0) := cell_of_block hz0 rfl
  have z2 : V0.cell? ⟨z, 2, none⟩ = some (.string ⟨#[]⟩) := cell_of_block hz0 rfl
  have z3 : V0.cell? ⟨z, 3, none⟩ = some (.bool false) := cell_of_block hz0 rfl
  clear hz0 HZV hzl
  clear HNV bb HBW
  go_wp2_with fail
  try clear z0 z1 z2 z3
  have HNV : Hid (Nby V0 none) := HN.out.below HBV.out
  refine (nob_cells none V0 HNV.out).mono ?_
  rintro e V1 ⟨rfl, bb⟩
  have HBW : Hid (Below W2.heap.size W2 V1) := below_on HBV.out bb
  clear HBV
  have HBV : Hid _ := HBW
  clear HNV bb HBW
  go_wp2_with fail
  have HNV : Hid (Nby V1 none) := HN.out.below HBV.out
  refine (nob_len none V1 HNV.out).mono ?_
  rintro e V2 ⟨rfl, bb⟩
  have HBW : Hid (Below W2.heap.size W2 V2) := below_on HBV.out bb
  clear HBV
  have HBV : Hid _ := HBW
  clear HNV bb HBW
  go_wp2_with fail
  have HNV : Hid (Nby V2 none) := HN.out.below HBV.out
  refine (nob_size none V2 HNV.out).mono ?_
  rintro e V3 ⟨rfl, bb⟩
  have HBW : Hid (Below W2.heap.size W2 V3) := below_on HBV.out bb
  clear HBV
  have HBV : Hid _ := HBW
  clear HNV bb HBW
  go_wp2_with fail
  have HNV : Hid (Nby V3 none) := HN.out.below HBV.out
  refine (nob_levels none V3 HNV.out).mono ?_
  rintro e V4 ⟨rfl, bb⟩
  have HBW : Hid (Below W2.heap.size W2 V4) := below_on HBV.out bb
  clear HBV
  have HBV : Hid _ := HBW
  clear HNV bb HBW
  go_wp2_with fail
  have HNV : Hid (Nby V4 none) := HN.out.below HBV.out
  refine (nob_fork none V4 HNV.out).mono ?_
  rintro e V5 ⟨rfl, bb⟩
  have HBW : Hid (Below W2.heap.size W2 V5) := below_on HBV.out bb
  clear HBV
  have HBV : Hid _ := HBW
  clear HNV bb HBW
  go_wp2_with fail
  refine (scan_any none ⟨#[]⟩ ⟨#[]⟩ V5).mono ?_
  rintro e V6 ⟨rfl, hw⟩
  have hb6 : Below V5.heap.size V5 V6 := by rw [hw]; exact (((Below.refl _ V5).alloc (Nat.le_refl _) _).alloc (by simp) _).alloc (by simp; omega) _
  have hm6 : V6.cell? ⟨V5.heap.size, 0, none⟩ = some (.pointer none) := by rw [hw]; exact (((Boxed.new V5 23 (.pointer none)).alloc _).alloc _).cell
  have hl6 : V5.heap.size < V6.heap.size := by rw [hw]; simp; omega
  have HB6 : Hid (Below W2.heap.size W2 V6) := below_on HBV.out hb6
  have HG : Hid (∀ a2 a3 : Option Addr, Calls Try.prog 24 #[.func (.func 40) #[] #[.pointer (some ⟨V5.heap.size, 0, none⟩), .pointer a2, .pointer a3], .slice none 0 0, .int .i64 1] V6 fun e w' => e = .returned (.bool true) ∧ Below V6.heap.size V6 w') := fun a2 a3 => goes_nob V5.heap.size a2 a3 none V6 hl6 hm6 (HN.out.below HB6.out)
  clear HBV hw hb6 hm6 hl6
  go_wp2_with fail
  refine (HG.out _ _).mono ?_
  rintro e W3 ⟨rfl, bb⟩
  have hbn : Below W2.heap.size W2 W3 := below_on HB6.out bb
  have HB3 : Hid (Below w.heap.size w W3) := below_on HB2.out hbn
  have HX3 : Hid (OB W3 x k c tw n) := HX2.out.below hbn
  have HM3 : Hid (W3.heap[m]? = _) := (hbn.block _ (Array.getElem?_eq_some_iff.1 HM2.out).1).trans HM2.out
  have HR3 : Hid (W3.heap[m + 1]? = _) := (hbn.block _ (Array.getElem?_eq_some_iff.1 HR2.out).1).trans HR2.out
  clear hbn bb HG HB6 HN HB2 HX2 HM2 HR2
  go_wp2_with fail
  unfold Code.rounds
  obtain ⟨x1, x2, x3, x4, x5, x6⟩ := OB.cells HX3.out
  have r1 : W3.cell? ⟨m + 1, 1, none⟩ = some (.pointer (some ⟨m, 0, none⟩)) := cell_of_block HR3.out rfl
  have HN : Hid (Nby W3 (some ⟨m, 0, none⟩)) := (Or.inr ⟨m, rfl, cell_of_block HM3.out rfl⟩)
  go_wp2_with fail
  refine (nob_get (some ⟨m, 0, none⟩) c.key c.seq W3 HN.out).mono ?_
  rintro e wa ⟨rfl, ba⟩
  simp only [getV, clV, cl0]
  obtain ⟨V, hV⟩ : ∃ V, wa.alloc (.cells #[.string ⟨#[]⟩, .int .u64 0, .string ⟨#[]⟩, .bool false] 33) = V := ⟨_, rfl⟩
  have bV : Below W3.heap.size W3 V := by rw [← hV]; exact ba.alloc ba.size _
  have zV : V.heap[wa.heap.size]? = some (.cells #[.string ⟨#[]⟩, .int .u64 0, .string ⟨#[]⟩, .bool false] 33 (0, 0)) := by rw [← hV]; exact block_alloc_at _ _
  have xV : OB V x k c tw n := HX3.out.below bV
  have hzl : wa.heap.size < V.heap.size := (Array.getElem?_eq_some_iff.1 zV).1
  obtain ⟨x1, x2, x3, x4, x5, x6⟩ := OB.cells xV
  have HBV : Hid (Below W3.heap.size W3 V) := bV
  have HZV : Hid (V.heap[wa.heap.size]? = some (.cells #[.string ⟨#[]⟩, .int .u64 0, .string ⟨#[]⟩, .bool false] 33 (0, 0))) := zV
  have HXV : Hid (OB V x k c tw n) := xV
  have HV : Hid _ := hV
  rw [← hV] at x1 x2 x3 x4 x5 x6
  clear ba bV zV xV hV r1
  go_wp2_with fail
  rw [HV.out]
  clear HV x1 x2 x3 x4 x5 x6
  obtain ⟨z, hz⟩ : ∃ z, wa.heap.size = z := ⟨_, rfl⟩
  rw [hz] at HZV hzl ⊢
  clear hz wa
  have HNV : Hid (Nby V (some ⟨m, 0, none⟩)) := HN.out.below HBV.out
  refine (nob_put (some ⟨m, 0, none⟩) c n V HNV.out).mono ?_
  rintro e V0 ⟨rfl, bb⟩
  have HBW : Hid (Below W3.heap.size W3 V0) := below_on HBV.out bb
  clear HBV
  have HBV : Hid _ := HBW
  have hz0 : V0.heap[z]? = some (.cells #[.string ⟨#[]⟩, .int .u64 0, .string ⟨#[]⟩, .bool false] 33 (0, 0)) := (bb.block _ hzl).trans HZV.out
  have z0 : V0.cell? ⟨z, 0, none⟩ = some (.string ⟨#[]⟩) := cell_of_block hz0 rfl
  have z1 : V0.cell? ⟨z, 1, none⟩ = some (.int .u64 0) := cell_of_block hz0 rfl
  have z2 : V0.cell? ⟨z, 2, none⟩ = some (.string ⟨#[]⟩) := cell_of_block hz0 rfl
  have z3 : V0.cell? ⟨z, 3, none⟩ = some (.bool false) := cell_of_block hz0 rfl
  clear hz0 HZV hzl
  clear HNV bb HBW
  go_wp2_with fail
  try clear z0 z1 z2 z3
  have HNV : Hid (Nby V0 (some ⟨m, 0, none⟩)) := HN.out.below HBV.out
  refine (nob_cells (some ⟨m, 0, none⟩) V0 HNV.out).mono ?_
  rintro e V1 ⟨rfl, bb⟩
  have HBW : Hid (Below W3.heap.size W3 V1) := below_on HBV.out bb
  clear HBV
  have HBV : Hid _ := HBW
  clear HNV bb HBW
  go_wp2_with fail
  have HNV : Hid (Nby V1 (some ⟨m, 0, none⟩)) := HN.out.below HBV.out
  refine (nob_len (some ⟨m, 0, none⟩) V1 HNV.out).mono ?_
  rintro e V2 ⟨rfl, bb⟩
  have HBW : Hid (Below W3.heap.size W3 V2) := below_on HBV.out bb
  clear HBV
  have HBV : Hid _ := HBW
  clear HNV bb HBW
  go_wp2_with fail
  have HNV : Hid (Nby V2 (some ⟨m, 0, none⟩)) := HN.out.below HBV.out
  refine (nob_size (some ⟨m, 0, none⟩) V2 HNV.out).mono ?_
  rintro e V3 ⟨rfl, bb⟩
  have HBW : Hid (Below W3.heap.size W3 V3) := below_on HBV.out bb
  clear HBV
  have HBV : Hid _ := HBW
  clear HNV bb HBW
  go_wp2_with fail
  have HNV : Hid (Nby V3 (some ⟨m, 0, none⟩)) := HN.out.below HBV.out
  refine (nob_levels (some ⟨m, 0, none⟩) V3 HNV.out).mono ?_
  rintro e V4 ⟨rfl, bb⟩
  have HBW : Hid (Below W3.heap.size W3 V4) := below_on HBV.out bb
  clear HBV
  have HBV : Hid _ := HBW
  clear HNV bb HBW
  go_wp2_with fail
  have HNV : Hid (Nby V4 (some ⟨m, 0, none⟩)) := HN.out.below HBV.out
  refine (nob_fork (some ⟨m, 0, none⟩) V4 HNV.out).mono ?_
  rintro e V5 ⟨rfl, bb⟩
  have HBW : Hid (Below W3.heap.size W3 V5) := below_on HBV.out bb
  clear HBV
  have HBV : Hid _ := HBW
  clear HNV bb HBW
  go_wp2_with fail
  refine (scan_any (some ⟨m, 0, none⟩) ⟨#[]⟩ ⟨#[]⟩ V5).mono ?_
  rintro e V6 ⟨rfl, hw⟩
  have hb6 : Below V5.heap.size V5 V6 := by rw [hw]; exact (((Below.refl _ V5).alloc (Nat.le_refl _) _).alloc (by simp) _).alloc (by simp; omega) _
  have hm6 : V6.cell? ⟨V5.heap.size, 0, none⟩ = some (.pointer (some ⟨m, 0, none⟩)) := by rw [hw]; exact (((Boxed.new V5 23 (.pointer (some ⟨m, 0, none⟩))).alloc _).alloc _).cell
  have hl6 : V5.heap.size < V6.heap.size := by rw [hw]; simp; omega
  have HB6 : Hid (Below W3.heap.size W3 V6) := below_on HBV.out hb6
  have HG : Hid (∀ a2 a3 : Option Addr, Calls Try.prog 24 #[.func (.func 40) #[] #[.pointer (some ⟨V5.heap.size, 0, none⟩), .pointer a2, .pointer a3], .slice none 0 0, .int .i64 1] V6 fun e w' => e = .returned (.bool true) ∧ Below V6.heap.size V6 w') := fun a2 a3 => goes_nob V5.heap.size a2 a3 (some ⟨m, 0, none⟩) V6 hl6 hm6 (HN.out.below HB6.out)
  clear HBV hw hb6 hm6 hl6
  go_wp2_with fail
  refine (HG.out _ _).mono ?_
  rintro e W4 ⟨rfl, bb⟩
  have hbn : Below W3.heap.size W3 W4 := below_on HB6.out bb
  have HB4 : Hid (Below w.heap.size w W4) := below_on HB3.out hbn
  have HX4 : Hid (OB W4 x k c tw n) := HX3.out.below hbn
  have HM4 : Hid (W4.heap[m]? = _) := (hbn.block _ (Array.getElem?_eq_some_iff.1 HM3.out).1).trans HM3.out
  have HR4 : Hid (W4.heap[m + 1]? = _) := (hbn.block _ (Array.getElem?_eq_some_iff.1 HR3.out).1).trans HR3.out
  clear hbn bb HG HB6 HN HB3 HX3 HM3 HR3
  go_wp2_with fail
  unfold Code.rounds
  go_wp2_with fail
  go_ret
  exact ⟨rfl, by rw [← hx]; exact HB4.out⟩
end Go.Proofs.Ytdgmjmohfpjlnaa
