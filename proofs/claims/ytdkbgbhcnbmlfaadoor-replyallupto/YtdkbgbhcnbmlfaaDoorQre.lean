/-
  The contract of the twin's read.
-/
import Derived.Test.YtdkbgbhcnbmlfaaDoorQrp
import Derived.Deep.RegionWith
namespace Go.Proofs.YtdkbgbhcnbmlfaaDoor
open Go.RowKit
def rqV (R : RQ) : Value := .tuple #[rpV R.1, .int .i64 (R.2.1 : Nat), .int .i64 R.2.2]
/-- What read holds in memory: its answer, none, and the reply. -/
structure RdS (w : World) (r : Rp) (W : World) : Prop where
  b : Below w.heap.size w W
  x0 : RpB W w.heap.size (rpl0 0)
  x1 : RpB W (w.heap.size + 1) (rpl0 0)
  x2 : RpB W (w.heap.size + 1 + 1) r
theorem RdS.below {w W W' : World} {r : Rp} (h : RdS w r W) (b : Below W.heap.size W W') : RdS w r W' := ⟨h.b.trans (b.mono h.b.size), h.x0.below b, h.x1.below b, h.x2.below b⟩
theorem rds_of (w : World) (r : Rp) : RdS w r (((w.alloc (.cells (rpA (rpl0 0)) 23)).alloc (.cells (rpA (rpl0 0)) 23)).alloc (.cells (rpA r) 23)) := by
  have h0 : RpB (w.alloc (.cells (rpA (rpl0 0)) 23)) w.heap.size (rpl0 0) := block_alloc_at _ _
  have hs : (w.alloc (.cells (rpA (rpl0 0)) 23)).heap.size = w.heap.size + 1 := by simp
  have hb : ∀ (W : World) (o : Obj), Below W.heap.size W (W.alloc o) := fun W o => (Below.refl _ _).alloc (Nat.le_refl _) _
  obtain ⟨A, hA0⟩ : ∃ A, w.alloc (.cells (rpA (rpl0 0)) 23) = A := ⟨_, rfl⟩
  rw [hA0] at h0 hs ⊢
  have hA : Below w.heap.size w A := by rw [← hA0]; exact hb _ _
  have h1 : RpB (A.alloc (.cells (rpA (rpl0 0)) 23)) A.heap.size (rpl0 0) := block_alloc_at _ _
  have hs2 : (A.alloc (.cells (rpA (rpl0 0)) 23)).heap.size = A.heap.size + 1 := by simp
  obtain ⟨B, hB0⟩ : ∃ B, A.alloc (.cells (rpA (rpl0 0)) 23) = B := ⟨_, rfl⟩
  have hB : Below A.heap.size A B := by rw [← hB0]; exact hb _ _
  rw [hB0] at h1 hs2 ⊢
  have h2 : RpB (B.alloc (.cells (rpA r) 23)) B.heap.size r := block_alloc_at _ _
  have hC := hb B (.cells (rpA r) 23)
  rw [hs2, hs] at h2
  rw [hs] at h1
  exact ⟨hA.trans ((hB.mono hA.size).trans (hC.mono (by omega))), (h0.below hB).below hC, h1.below hC, h2⟩
theorem RpB.zero {W : World} {g : Nat} (h : RpB W g (rpl0 0)) : W.cell? ⟨g, 0, none⟩ = some (.int .i64 0) ∧ W.cell? ⟨g, 1, none⟩ = some (.string ⟨#[]⟩) ∧ W.cell? ⟨g, 2, none⟩ = some (.string ⟨#[]⟩) ∧ W.cell? ⟨g, 3, none⟩ = some (.bool false) := h.cells
/-- The answer's cells, told none again. -/
def clr (w W : World) : World := (((W.setCell ⟨w.heap.size, 0, none⟩ (.int .i64 0)).setCell ⟨w.heap.size, 1, none⟩ (.string ⟨#[]⟩)).setCell ⟨w.heap.size, 2, none⟩ (.string ⟨#[]⟩)).setCell ⟨w.heap.size, 3, none⟩ (.bool false)
theorem RdS.clr {w W : World} {r : Rp} (h : RdS w r W) : RpB (clr w W) w.heap.size (rpl0 0) ∧ Below w.heap.size w (clr w W) := by
  refine ⟨h.x0.set4 (rpl0 0), ?_⟩
  have q : Keeps (fun _ => False) w (set4 W w.heap.size (rpl0 0)) := set4_keeps (Keeps.of_below h.b) (Nat.le_refl _) _
  exact q.below (Nat.le_refl _) (fun k f => f.elim)
theorem lin_hit {l t : List UInt8} {a : Nat} (h : t.isPrefixOf (l.drop a) = true) : linQ l a t = (a + t.length, false, true) := by unfold linQ; rw [if_pos h]
theorem lin_mis {l t : List UInt8} {a : Nat} (h : ¬ t.isPrefixOf (l.drop a) = true) : linQ l a t = (a, (l.drop a).isPrefixOf t, false) := by unfold linQ; rw [if_neg h]
theorem RdS.cookie {w W : World} {r : Rp} (h : RdS w r W) (l : List UInt8) : RdS w { r with cookie := l } (W.setCell ⟨w.heap.size + 1 + 1, 2, none⟩ (.string (mkB l))) := by
  have q : Keeps (fun _ => False) w (W.setCell ⟨w.heap.size + 1 + 1, 2, none⟩ (.string (mkB l))) := (Keeps.of_below h.b).setCell (Or.inr (by show w.heap.size ≤ w.heap.size + 1 + 1; omega)) _
  exact ⟨q.below (Nat.le_refl _) (fun k f => f.elim), h.x0.set_other (by omega) _, h.x1.set_other (by omega) _, h.x2.cookie l⟩
theorem RdS.body {w W : World} {r : Rp} (h : RdS w r W) (l : List UInt8) : RdS w { r with body := l } (W.setCell ⟨w.heap.size + 1 + 1, 1, none⟩ (.string (mkB l))) := by
  have q : Keeps (fun _ => False) w (W.setCell ⟨w.heap.size + 1 + 1, 1, none⟩ (.string (mkB l))) := (Keeps.of_below h.b).setCell (Or.inr (by show w.heap.size ≤ w.heap.size + 1 + 1; omega)) _
  exact ⟨q.below (Nat.le_refl _) (fun k f => f.elim), h.x0.set_other (by omega) _, h.x1.set_other (by omega) _, h.x2.body l⟩
theorem then_hit {t l : List UInt8} {a : Nat} {k : List UInt8 → RQ} (p : t.isPrefixOf (l.drop a) = true) : thenQ t (l.drop a) k = k (l.drop (a + t.length)) := by
  unfold thenQ
  rw [if_pos p, List.drop_drop]
theorem then_mis {t l : List UInt8} {a : Nat} {k : List UInt8 → RQ} (p : ¬ t.isPrefixOf (l.drop a) = true) : thenQ t (l.drop a) k = badQ (if (l.drop a).isPrefixOf t = true then 20 else 180) := by
  unfold thenQ
  rw [if_neg p]
  rfl
theorem pre_le {t : List UInt8} {s : ByteArray} {a : Nat} (p : t.isPrefixOf (s.data.toList.drop a) = true) (ha : a ≤ s.size) : a + t.length ≤ s.size := by
  have := (List.isPrefixOf_iff_prefix.1 p).length_le
  rw [List.length_drop, size_list] at this
  omega
theorem ext_take (s : ByteArray) (a n : Nat) : s.extract a (a + n) = mkB ((s.data.toList.drop a).take n) := by
  apply ext_list
  rw [mkB_list, ByteArray.data_extract, Array.toList_extract, List.extract_eq_take_drop]
  congr 1
  omega
end Go.Proofs.YtdkbgbhcnbmlfaaDoor
