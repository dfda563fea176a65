/-
  String of a Builder whose bytes may be frozen, or that holds none.
-/
import Derived.Test.YtcdagmgbfihbdaaDoorBld
namespace Go.Proofs.YtcdagmgbfihbdaaDoor
open Go.RowKit
/-- A Builder's bytes can be read. -/
def BR (B T b : Nat) (l : List UInt8) (W : World) : Prop :=
  ∃ v, W.cell? ⟨b, 1, none⟩ = some v ∧ (∃ cs, W.heap[b]? = some (.cells cs T (0, 0))) ∧ ((l = [] ∧ v = .slice none 0 0) ∨ (l ≠ [] ∧ ∃ g cap cur fr, v = .slice (some ⟨g, 0, none⟩) l.length cap ∧ B ≤ g ∧ g ≠ b ∧ W.heap[g]? = some (.cells cur 5 fr) ∧ l.length ≤ cap ∧ cap ≤ maxLen ∧ cur.size = cap ∧ cur.toList.take l.length = Lib.byteCells l))
theorem addr_add0 (g j : Nat) : (⟨g, 0, none⟩ : Addr).add j = ⟨g, j, none⟩ := by unfold Addr.add; split <;> simp_all
theorem BR.of {B T b : Nat} {rest : List Value} {l : List UInt8} {W : World} (h : BA B T b rest l W) (hT : T ≠ 5) (h0 : l = [] → W.cell? ⟨b, 1, none⟩ = some (.slice none 0 0)) : BR B T b l W := by
  obtain ⟨hB, a, v, hbk, hown, _⟩ := h
  have c1 : W.cell? ⟨b, 1, none⟩ = some v := cell_of_block hbk rfl
  refine ⟨v, c1, ⟨_, hbk⟩, ?_⟩
  by_cases hl : l = []
  · have := h0 hl
    rw [c1] at this
    exact .inl ⟨hl, Option.some.inj this⟩
  · refine .inr ⟨hl, ?_⟩
    rcases hown.2 with ⟨_, hz⟩ | ⟨g, cap, cur, hv, hbg, hg, hnc, hcm, hcs, htake⟩
    · exact absurd (List.eq_nil_of_length_eq_zero hz) hl
    · refine ⟨g, cap, cur, (0, 0), hv, hbg, fun e => ?_, hg, hnc, hcm, by simpa using hcs, by simpa using htake⟩
      subst e
      rw [hg] at hbk
      cases hbk
      exact hT rfl
set_option maxHeartbeats 4000000 in
set_option maxRecDepth 100000 in
theorem bstr2_any (B T b : Nat) (l : List UInt8) (w : World) (h : BR B T b l w) :
    Calls Tryd.prog 21 #[.pointer (some ⟨b, 0, none⟩)] w fun e w' => e = .returned (.string (bOf l)) ∧ BR B T b l w' ∧ Below B w w' := by
  obtain ⟨v, hv1, ⟨cs, hcs0⟩, h2⟩ := h
  rcases h2 with ⟨rfl, rfl⟩ | ⟨h0, g, cap, cur, fr, rfl, hbg, hgb, hg, hnc, hcm, hcs, htake⟩
  · have c1 : w.drew.cell? ⟨b, 1, none⟩ = some (.slice none 0 0) := hv1
    have hSD : (Builtin.unsafeSliceData_ #[46] 88 #[.slice none 0 0]).run Tryd.prog w.drew = .ok (.pointer none) w.drew := Lib.run_unsafeSliceData_nil _ _ _ _ _
    have hUS : (Builtin.unsafeString_ #[88, 3] 9 #[.pointer none, .int .i64 0]).run Tryd.prog w.drew = .ok (.string .empty) w.drew := Lib.run_unsafeString_none _ _ _ _ _
    have HFI : Hid (Below B w w.drew) := Below.drew (Below.refl B w)
    have HBR : Hid (BR B T b [] w.drew) := ⟨_, c1, ⟨cs, hcs0⟩, .inl ⟨rfl, rfl⟩⟩
    clear hv1 hcs0
    go_enter Tryd.func21, Tryd.ntmps21
    go_wp2
    go_region
    all_goals (go_wp2; go_ret; exact ⟨rfl, HBR.out, HFI.out⟩)
  · have hl0 : l.length ≠ 0 := by simpa using h0
    have c1 : w.drew.cell? ⟨b, 1, none⟩ = some (.slice (some ⟨g, 0, none⟩) l.length cap) := hv1
    have hSD : (Builtin.unsafeSliceData_ #[46] 88 #[.slice (some ⟨g, 0, none⟩) l.length cap]).run Tryd.prog w.drew = .ok (.pointer (some ⟨g, 0, none⟩)) w.drew :=
      Lib.run_unsafeSliceData_row _ _ _ _ _ _ (by omega)
    have hUS : (Builtin.unsafeString_ #[88, 3] 9 #[.pointer (some ⟨g, 0, none⟩), .int .i64 l.length]).run Tryd.prog w.drew = .ok (.string (bOf l)) (w.drew.freeze ⟨g, 0, none⟩ l.length) := by
      refine Lib.run_unsafeString_row w.drew 88 3 9 5 Tryd.underlying88 cells5 g cur.size (by have hg' : w.drew.heap[g]? = some (.cells cur 5 fr) := hg; simp [World.shape?, hg']) l h0 (by omega) (by unfold maxLen at hcm; omega) ?_
      intro j x hx
      have hjl : j < l.length := (List.getElem?_eq_some_iff.1 hx).1
      have hg' : w.drew.heap[g]? = some (.cells cur 5 fr) := hg
      have h1 : (Lib.byteCells l)[j]? = some (.int .u8 x.toNat) := by simp [Lib.byteCells, hx]
      rw [← htake, List.getElem?_take, if_pos hjl] at h1
      have : cur[j]? = some (.int .u8 x.toNat) := by simpa using h1
      rw [addr_add0]
      exact cell_of_block (w := w.drew) hg' this
    have HFI : Hid (Below B w (w.drew.freeze ⟨g, 0, none⟩ l.length)) := Lib.below_freeze (Below.drew (Below.refl B w)) (p := ⟨g, 0, none⟩) hbg _
    have HBR : Hid (BR B T b l (w.drew.freeze ⟨g, 0, none⟩ l.length)) := by
      have hbb : (w.drew.freeze ⟨g, 0, none⟩ l.length).heap[b]? = w.heap[b]? := by
        unfold World.freeze
        rw [if_neg hl0]
        show (w.heap.modify g _)[b]? = _
        rw [Array.getElem?_modify, if_neg hgb]
      have hgg : ∃ fr', (w.drew.freeze ⟨g, 0, none⟩ l.length).heap[g]? = some (.cells cur 5 fr') := by
        unfold World.freeze
        rw [if_neg hl0]
        show ∃ fr', (w.heap.modify g _)[g]? = _
        rw [Array.getElem?_modify, if_pos rfl, hg]
        exact ⟨_, rfl⟩
      obtain ⟨fr', hgg⟩ := hgg
      refine ⟨_, ?_, ⟨cs, by rw [hbb]; exact hcs0⟩, .inr ⟨h0, g, cap, cur, fr', rfl, hbg, hgb, hgg, hnc, hcm, hcs, htake⟩⟩
      rw [World.cell?, hbb]
      exact hv1
    clear hv1 hcs0 hg htake
    go_enter Tryd.func21, Tryd.ntmps21
    go_wp2
    go_region
    all_goals (go_wp2; go_ret; exact ⟨rfl, HBR.out, HFI.out⟩)
end Go.Proofs.YtcdagmgbfihbdaaDoor
