/-
  The contract of Parse.
-/
import Derived.Test.YtdkbgbhcnbmlfaaDoorRpw
import Derived.Deep.RegionHeld
namespace Go.Proofs.YtdkbgbhcnbmlfaaDoor
open Go.RowKit
theorem results_cell_tmp2 {fn : Func} {p u v : Tmp} {ty : TypeId} (h : fn.results = #[.cell p ty, .tmp u, .tmp v]) (tmps : Array Value) (P : Program) (w : World) :
    (results fn tmps).run P w =
      ((asAddr (tmps.getD p undef)).run P w).andThen fun a w₁ => ((loadVar ty a).run P w₁).andThen fun x w₂ => .ok (.tuple #[x, tmps.getD u undef, tmps.getD v undef]) w₂ := by
  simp only [results, h]
  simp [Sem.run_bind, Result.andThen]
/-- What Parse tells. -/
def parR (l : List UInt8) : Rp × Nat × Int := if (repR l).2.2 = 0 then ((repR l).1, l.length - (repR l).2.1.length, 0) else (rpl0 0, 0, (repR l).2.2)
theorem repK_len (k sz : Nat) (typed : Bool) (r : Rp) (l : List UInt8) (e : Int) : (repK k sz typed r l e).2.1.length ≤ l.length := by
  have hb : ∀ (sz : Nat) (r : Rp) (s : List UInt8 × Int), (bodK sz r s).2.1.length ≤ s.1.length := fun sz r s => by
    show (bytesR sz s.1 s.2).2.1.length ≤ _
    unfold bytesR
    split
    · exact Nat.le_refl _
    · simp
  have h4 : ∀ sz r l e, (rep4 sz r l e).2.1.length ≤ l.length := fun sz r l e => by
    unfold rep4
    split
    · exact Nat.le_trans (hb _ _ _) (knd_len 4 l e)
    · exact Nat.le_refl _
  have h3 : ∀ sz r l e, (rep3 sz r l e).2.1.length ≤ l.length := fun sz r l e => by
    unfold rep3
    split
    · split
      · exact Nat.le_trans (h4 _ _ _ _) (knd_len 3 l e)
      · exact Nat.le_trans (hb _ _ _) (knd_len 3 l e)
    · exact Nat.le_refl _
  have h2 : ∀ sz r l e, (rep2 sz r l e).2.1.length ≤ l.length := fun sz r l e => by
    unfold rep2
    split
    · split
      · exact Nat.le_trans (h3 _ _ _ _) (Nat.le_trans (cook_len _ _) (knd_len 2 l e))
      · split
        · exact Nat.le_trans (h4 _ _ _ _) (knd_len 2 l e)
        · exact Nat.le_trans (hb _ _ _) (knd_len 2 l e)
    · exact Nat.le_refl _
  have hs : ∀ ty r (s : List UInt8 × Int), (sizK ty r s).2.1.length ≤ s.1.length := fun ty r s => Nat.le_trans (h2 _ _ _ _) (siz_len ty s.1 s.2)
  have h1 : ∀ ty r l e, (rep1 ty r l e).2.1.length ≤ l.length := fun ty r l e => by
    unfold rep1
    split
    · exact Nat.le_trans (hs _ _ _) (knd_len 1 l e)
    · exact Nat.le_refl _
  have h0 : ∀ ty r l e, (rep0 ty r l e).2.1.length ≤ l.length := fun ty r l e => by
    unfold rep0
    split
    · split
      · exact Nat.le_trans (h1 _ _ _ _) (knd_len 0 l e)
      · exact Nat.le_trans (hs _ _ _) (knd_len 0 l e)
    · exact Nat.le_refl _
  unfold repK
  split
  · exact h0 _ _ _ _
  · exact h1 _ _ _ _
  · exact h2 _ _ _ _
  · exact h3 _ _ _ _
  · exact h4 _ _ _ _
theorem repR_len (l : List UInt8) : (repR l).2.1.length ≤ l.length := Nat.le_trans (repK_len _ _ _ _ _ _) (chs_len stL l 0)
set_option maxRecDepth 20000 in
set_option maxHeartbeats 8000000 in
theorem parse_any (s : ByteArray) (hs : s.size ≤ 140737488355328) (w : World) (ht : TabP w) :
    Calls Tryd.prog 14 #[.string s] w fun e w' => e = .returned (.tuple #[rpV (parR s.data.toList).1, .int .i64 ((parR s.data.toList).2.1 : Nat), .int .i64 (parR s.data.toList).2.2]) ∧ Below w.heap.size w w' := by
  have hlen := size_list s
  have hrl := repR_len s.data.toList
  obtain ⟨W0, hW0⟩ : ∃ W0, w.alloc (.cells #[.int .i64 0, .string ⟨#[]⟩, .string ⟨#[]⟩, .bool false] 23) = W0 := ⟨_, rfl⟩
  have HZ0 : Hid (W0.heap.size = w.heap.size + 1) := by rw [Hid, ← hW0]; simp
  have HB0 : Hid (Below w.heap.size w W0) := by rw [Hid, ← hW0]; exact (Below.refl _ _).alloc (Nat.le_refl _) _
  have HX0 : Hid (RpB W0 w.heap.size (rpl0 0)) := by rw [Hid, ← hW0]; exact block_alloc_at _ _
  obtain ⟨W1, hW1⟩ : ∃ W1, W0.alloc (.cells #[.string s, .int .i64 0] 60) = W1 := ⟨_, rfl⟩
  have HZ1 : Hid (W1.heap.size = W0.heap.size + 1) := by rw [Hid, ← hW1]; simp
  have HB1 : Hid (Below W0.heap.size W0 W1) := by rw [Hid, ← hW1]; exact (Below.refl _ _).alloc (Nat.le_refl _) _
  have HI1 : Hid (RIs W1 W0.heap.size s 0) := by rw [Hid, ← hW1]; exact block_alloc_at _ _
  have HX1 : Hid (RpB W1 w.heap.size (rpl0 0)) := HX0.out.below HB1.out
  have H1 : Hid (∀ _ : Unit, _) := fun _ => reply_any W0.heap.size s W1 HI1.out hs (tab_below (tab_below ht HB0.out) HB1.out)
  have HP : Hid (parR s.data.toList = if (repR s.data.toList).2.2 = 0 then ((repR s.data.toList).1, s.data.toList.length - (repR s.data.toList).2.1.length, 0) else (rpl0 0, 0, (repR s.data.toList).2.2)) := rfl
  rw [hlen] at HP hrl
  obtain ⟨Q, hQ⟩ : ∃ Q, parR s.data.toList = Q := ⟨_, rfl⟩
  rw [hQ] at HP ⊢
  obtain ⟨R, hR⟩ : ∃ R, repR s.data.toList = R := ⟨_, rfl⟩
  rw [hR] at HP H1 hrl
  obtain ⟨r, l, e⟩ := R
  simp only at HP H1 hrl
  have hls := mkB_size l
  clear hQ hR ht hlen
  go_enter Tryd.func14, Tryd.ntmps14
  go_wp2_with fail
  try rw [hW0]
  try rw [hW1]
  refine (H1.out ()).mono ?_
  rintro x w2 ⟨rfl, i2, k2⟩
  have HI2 : Hid (RIs w2 W0.heap.size (mkB l) e) := i2
  have HX2 : Hid (RpB w2 w.heap.size (rpl0 0)) := HX1.out.kept k2 (by have := HZ0.out; omega)
  have HB2 : Hid (Below w.heap.size w w2) := HB0.out.trans ((HB1.out.mono HB0.out.size).trans (k2.below (by have := HZ0.out; have := HZ1.out; omega) (fun k q => by have := HZ0.out; omega)))
  have HZ2 : Hid (W1.heap.size ≤ w2.heap.size) := k2.size
  clear i2 k2 hW0 hW1
  obtain ⟨V1, hV1⟩ : ∃ V1, w2.alloc (.cells #[.int .i64 0, .string ⟨#[]⟩, .string ⟨#[]⟩, .bool false] 23) = V1 := ⟨_, rfl⟩
  have HBV : Hid (Below w2.heap.size w2 V1) := by rw [Hid, ← hV1]; exact (Below.refl _ _).alloc (Nat.le_refl _) _
  have HXV : Hid (RpB V1 w2.heap.size (rpl0 0)) := by rw [Hid, ← hV1]; exact block_alloc_at _ _
  obtain ⟨k0, k1, k2, k3⟩ := HXV.out.cells
  have f0 := HXV.out.free 0
  have f1 := HXV.out.free 1
  have f2 := HXV.out.free 2
  have f3 := HXV.out.free 3
  obtain ⟨W3, hW3⟩ : ∃ W3, set4 V1 w2.heap.size r = W3 := ⟨_, rfl⟩
  have HX3 : Hid (RpB W3 w2.heap.size r) := by rw [Hid, ← hW3]; exact HXV.out.set4 _
  have HG3 : Hid (RpB W3 w.heap.size (rpl0 0)) := by
    rw [Hid, ← hW3]
    exact (set4_heap _ _ _ _ (by have := HX2.out.lt; omega)).trans (HX2.out.below HBV.out)
  have HI3 : Hid (RIs W3 W0.heap.size (mkB l) e) := by
    rw [Hid, ← hW3]
    exact (set4_heap _ _ _ _ (by have := HI2.out.lt; omega)).trans (HI2.out.below HBV.out)
  have HB3 : Hid (Below w.heap.size w W3) := by
    rw [Hid, ← hW3]
    have q : Keeps (fun _ => False) w (set4 V1 w2.heap.size r) := set4_keeps (Keeps.of_below (HB2.out.trans (HBV.out.mono HB2.out.size))) HB2.out.size _
    exact q.below (Nat.le_refl _) (fun k f => f.elim)
  have HW3 : Hid (set4 V1 w2.heap.size r = W3) := hW3
  unfold set4 at HW3
  clear hW3
  rw [show rpV r = .agg #[.int .i64 r.status, .string (mkB r.body), .string (mkB r.cookie), .bool r.close] from rfl]
  go_upto_region 3 with fail
  rw [HW3.out]
  clear k0 k1 k2 k3 f0 f1 f2 f3 hV1 HW3
  have c0 := HI3.out.c0
  have c1 := HI3.out.c1
  obtain ⟨a0, a1, a2, a3⟩ := HX3.out.cells
  obtain ⟨k0, k1, k2, k3⟩ := HG3.out.cells
  have f0 := HG3.out.free 0
  have f1 := HG3.out.free 1
  have f2 := HG3.out.free 2
  have f3 := HG3.out.free 3
  have n1 : ¬ W0.heap.size = w.heap.size := by have := HZ0.out; omega
  have n2 : ¬ w.heap.size = W0.heap.size := by have := HZ0.out; omega
  have n3 : ¬ w2.heap.size = w.heap.size := by have := HX2.out.lt; omega
  have n4 : ¬ w.heap.size = w2.heap.size := by have := HX2.out.lt; omega
  by_cases he : e = 0
  · subst he
    have HRR : Hid (Q = (r, s.size - l.length, 0)) := by rw [Hid, HP.out, if_pos rfl]
    obtain ⟨W9, hW9⟩ : ∃ W9, set4 W3 w.heap.size r = W9 := ⟨_, rfl⟩
    have HX9 : RpB W9 w.heap.size r := by rw [← hW9]; exact HG3.out.set4 _
    have HB9 : Hid (Below w.heap.size w W9) := by
      rw [Hid, ← hW9]
      have q : Keeps (fun _ => False) w (set4 W3 w.heap.size r) := set4_keeps (Keeps.of_below HB3.out) (Nat.le_refl _) _
      exact q.below (Nat.le_refl _) (fun k f => f.elim)
    obtain ⟨x0, x1, x2, x3⟩ := HX9.cells
    have HW9 : Hid (set4 W3 w.heap.size r = W9) := hW9
    unfold set4 at HW9
    clear HX9 hW9
    go_wp2_with fail
    go_big_region
    rw [HW9.out]
    go_wp2_with fail
    refine bodyPost_ret (v := .tuple #[rpV r, .int .i64 ((s.size - l.length : Nat) : Int), .int .i64 0]) ?_ rfl ⟨by rw [HRR.out], below_drewN HB9.out 1⟩
    rw [results_cell_tmp2 rfl]
    unfold rpV
    go_simp
    try (congr 3; omega)
  · have HRR : Hid (Q = (rpl0 0, 0, e)) := by rw [Hid, HP.out, if_neg he]
    have q0 : (e != 0) = true := by simp [he]
    obtain ⟨W9, hW9⟩ : ∃ W9, set4 W3 w.heap.size (rpl0 0) = W9 := ⟨_, rfl⟩
    have HX9 : RpB W9 w.heap.size (rpl0 0) := by rw [← hW9]; exact HG3.out.set4 _
    have HB9 : Hid (Below w.heap.size w W9) := by
      rw [Hid, ← hW9]
      have q : Keeps (fun _ => False) w (set4 W3 w.heap.size (rpl0 0)) := set4_keeps (Keeps.of_below HB3.out) (Nat.le_refl _) _
      exact q.below (Nat.le_refl _) (fun k f => f.elim)
    obtain ⟨x0, x1, x2, x3⟩ := HX9.cells
    have HW9 : Hid (set4 W3 w.heap.size (rpl0 0) = W9) := hW9
    unfold set4 at HW9
    simp only [rpl0] at HW9
    rw [show mkB [] = ⟨#[]⟩ from rfl] at HW9
    clear HX9 hW9
    go_wp2_with fail
    go_big_region
    rw [HW9.out]
    go_wp2_with fail
    refine bodyPost_ret (v := .tuple #[rpV (rpl0 0), .int .i64 0, .int .i64 e]) ?_ rfl ⟨by rw [HRR.out]; rfl, below_drewN HB9.out 1⟩
    rw [results_cell_tmp2 rfl]
    unfold rpV
    go_simp
end Go.Proofs.YtdkbgbhcnbmlfaaDoor
