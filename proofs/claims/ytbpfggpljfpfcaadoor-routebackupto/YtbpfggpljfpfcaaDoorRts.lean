/-
  Texts cut at a byte: the library's Cut and Split, and the pure side.
-/
import Derived.Test.YtbpfggpljfpfcaaDoorCor
namespace Go.Proofs.YtbpfggpljfpfcaaDoor
open Go.RowKit
theorem ahd_hit : ∀ {c : UInt8} {a t : List UInt8}, c ∉ a → ahd c (a ++ c :: t) = a ∧ bhd c (a ++ c :: t) = t ∧ hsb c (a ++ c :: t) = true
  | c, [], t, _ => by simp [ahd, bhd, hsb]
  | c, x :: a, t, h => by
    have h1 : x ≠ c := fun e => h (by rw [e]; exact List.mem_cons_self ..)
    have h2 : c ∉ a := fun e => h (List.mem_cons_of_mem _ e)
    obtain ⟨i1, i2, i3⟩ := ahd_hit (t := t) h2
    unfold ahd bhd hsb at *
    rw [List.cons_append, List.takeWhile_cons_of_pos (by simp [h1]), List.dropWhile_cons_of_pos (by simp [h1])]
    exact ⟨by rw [i1], i2, i3⟩
theorem ahd_none : ∀ {c : UInt8} {l : List UInt8}, c ∉ l → ahd c l = l ∧ bhd c l = [] ∧ hsb c l = false
  | c, [], _ => by simp [ahd, bhd, hsb]
  | c, x :: l, h => by
    have h1 : x ≠ c := fun e => h (by rw [e]; exact List.mem_cons_self ..)
    have h2 : c ∉ l := fun e => h (List.mem_cons_of_mem _ e)
    obtain ⟨i1, i2, i3⟩ := ahd_none h2
    unfold ahd bhd hsb at *
    rw [List.takeWhile_cons_of_pos (by simp [h1]), List.dropWhile_cons_of_pos (by simp [h1])]
    exact ⟨by rw [i1], i2, i3⟩
theorem ixB_some {s : ByteArray} {c : UInt8} {k : Nat} (h : ixB s c.toNat = some k) : ∃ a t, s.data.toList = a ++ c :: t ∧ a.length = k ∧ c ∉ a := by
  unfold ixB at h
  rw [List.find?_range_eq_some] at h
  obtain ⟨h1, h2, h3⟩ := h
  have hk : k < s.data.toList.length := by rw [size_list']; exact List.mem_range.1 h2
  have hb : byteAt s k = c.toNat := of_decide_eq_true h1
  have hg : s.data.toList[k] = c := by
    unfold byteAt at hb
    rw [List.getD_eq_getElem?_getD, List.getElem?_eq_getElem hk] at hb
    exact UInt8.toNat_inj.1 hb
  refine ⟨s.data.toList.take k, s.data.toList.drop (k + 1), ?_, by rw [List.length_take]; omega, fun hm => ?_⟩
  · rw [← hg, List.getElem_cons_drop, List.take_append_drop]
  · obtain ⟨j, hj, e⟩ := List.getElem_of_mem hm
    rw [List.length_take] at hj
    have := h3 j (by omega)
    rw [List.getElem_take] at e
    unfold byteAt at this
    rw [List.getD_eq_getElem?_getD, List.getElem?_eq_getElem (by omega), Option.getD_some, e] at this
    simp at this
theorem ixB_no {s : ByteArray} {c : UInt8} (h : ixB s c.toNat = none) : c ∉ s.data.toList := by
  unfold ixB at h
  rw [List.find?_eq_none] at h
  intro hm
  obtain ⟨j, hj, e⟩ := List.getElem_of_mem hm
  have := h j (List.mem_range.2 (by rw [← size_list']; exact hj))
  unfold byteAt at this
  rw [List.getD_eq_getElem?_getD, List.getElem?_eq_getElem hj, Option.getD_some, e] at this
  simp at this
theorem cutP_ahd (s : ByteArray) (c : UInt8) : cutP s c.toNat = (bOf (ahd c s.data.toList), bOf (bhd c s.data.toList), hsb c s.data.toList) := by
  unfold cutP
  cases h : ixB s c.toNat with
  | none =>
    obtain ⟨e1, e2, e3⟩ := ahd_none (ixB_no h)
    rw [e1, e2, e3]
    rfl
  | some k =>
    obtain ⟨a, t, h1, rfl, h3⟩ := ixB_some h
    obtain ⟨e1, e2, e3⟩ := ahd_hit (t := t) h3
    have hs : s = bOf (a ++ c :: t) := by rw [← h1]; exact (bOf_self s).symm
    dsimp only
    rw [h1, e1, e2, e3, hs, sub_left, sub_right]
theorem parts_cut (c : UInt8) : ∀ (n : Nat) (s : ByteArray), s.size ≤ n → partsOf ⟨#[c]⟩ s = (cutL c s.data.toList).map bOf
  | n, s, hn => by
    rcases ix_one s c with ⟨h1, h2⟩ | ⟨k, h1, h2, h3⟩
    · rw [parts_miss h1, cutL_none (ixB_no h2)]
      rfl
    · obtain ⟨a, t, g1, rfl, g3⟩ := ixB_some h2
      have hs : s = bOf (a ++ c :: t) := by rw [← g1]; exact (bOf_self s).symm
      cases n with
      | zero => omega
      | succ n =>
        have hz : s.size = a.length + 1 + t.length := by rw [hs, bOf_size, List.length_append, List.length_cons]; omega
        rw [parts_hit (sep := ⟨#[c]⟩) (Nat.le_refl 1) h1, show (⟨#[c]⟩ : ByteArray).size = 1 from rfl]
        have e1 : s.extract 0 a.length = bOf a := by rw [hs]; exact sub_left _ _
        have e2 : s.extract (a.length + 1) s.size = bOf t := by rw [hs]; exact sub_right _ _ _
        rw [e1, e2, g1, cutL_hit g3, List.map_cons, parts_cut c n (bOf t) (by rw [bOf_size]; omega)]
        rfl
end Go.Proofs.YtbpfggpljfpfcaaDoor
