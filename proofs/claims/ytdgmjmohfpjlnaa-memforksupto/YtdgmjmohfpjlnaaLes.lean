/-
  The contracts of the twin's Less, and of Size.
-/
import Derived.Test.YtdgmjmohfpjlnaaPur
namespace Go.Proofs.Ytdgmjmohfpjlnaa
open Go.RowKit Go.Shelf
set_option maxRecDepth 20000 in
set_option maxHeartbeats 4000000 in
theorem less_any (a b : Cl) (w : World) : Calls Try.prog 22 #[clV a, clV b] w fun e w' => e = .returned (.bool (lessC a b)) ∧ Below w.heap.size w w' := by
  obtain ⟨W1, hW1⟩ : ∃ W, (w.alloc (.cells #[.string a.key, .int .u64 ((a.seq : Nat) : Int), .string a.val, .bool a.gone] 33)).alloc (.cells #[.string b.key, .int .u64 ((b.seq : Nat) : Int), .string b.val, .bool b.gone] 33) = W := ⟨_, rfl⟩
  have b1 : Below w.heap.size w W1 := by rw [← hW1]; exact ((Below.refl _ w).alloc (Nat.le_refl _) _).alloc (by simp) _
  have za : W1.heap[w.heap.size]? = some (.cells #[.string a.key, .int .u64 ((a.seq : Nat) : Int), .string a.val, .bool a.gone] 33 (0, 0)) := by
    rw [← hW1]; exact (Below.heap_alloc _ _ _ (by simp)).trans (block_alloc_at _ _)
  have zb : W1.heap[w.heap.size + 1]? = some (.cells #[.string b.key, .int .u64 ((b.seq : Nat) : Int), .string b.val, .bool b.gone] 33 (0, 0)) := by
    rw [← hW1]
    have := block_alloc_at (w.alloc (.cells #[.string a.key, .int .u64 ((a.seq : Nat) : Int), .string a.val, .bool a.gone] 33)) (.cells #[.string b.key, .int .u64 ((b.seq : Nat) : Int), .string b.val, .bool b.gone] 33)
    rwa [World.size_alloc] at this
  have a0 : W1.cell? ⟨w.heap.size, 0, none⟩ = some (.string a.key) := cell_of_block za rfl
  have a1 : W1.cell? ⟨w.heap.size, 1, none⟩ = some (.int .u64 ((a.seq : Nat) : Int)) := cell_of_block za rfl
  have b0 : W1.cell? ⟨w.heap.size + 1, 0, none⟩ = some (.string b.key) := cell_of_block zb rfl
  have b2 : W1.cell? ⟨w.heap.size + 1, 1, none⟩ = some (.int .u64 ((b.seq : Nat) : Int)) := cell_of_block zb rfl
  have HB : Hid _ := b1
  have HW : Hid _ := hW1
  rw [← hW1] at a0 a1 b0 b2
  clear b1 za zb hW1
  simp only [clV]
  have hcase : (Op.bytesLess a.key.toList b.key.toList = true ∧ lessC a b = true) ∨ (Op.bytesLess a.key.toList b.key.toList = false ∧ (a.key.toList == b.key.toList) = true ∧ b.seq < a.seq ∧ lessC a b = true) ∨ (Op.bytesLess a.key.toList b.key.toList = false ∧ (a.key.toList == b.key.toList) = true ∧ ¬ b.seq < a.seq ∧ lessC a b = false) ∨ (Op.bytesLess a.key.toList b.key.toList = false ∧ (a.key.toList == b.key.toList) = false ∧ lessC a b = false) := by
    unfold lessC
    by_cases h : a.key.toList = b.key.toList
    · rw [ahK_same h, h, bytesLess_irrefl]
      by_cases hs : b.seq < a.seq
      · exact .inr (.inl ⟨rfl, by simp, hs, decide_eq_true hs⟩)
      · exact .inr (.inr (.inl ⟨rfl, by simp, hs, decide_eq_false hs⟩))
    · rw [ahK_other h]
      cases hb : Op.bytesLess a.key.toList b.key.toList with
      | true => exact .inl ⟨rfl, rfl⟩
      | false => exact .inr (.inr (.inr ⟨rfl, by simp [h], rfl⟩))
  rcases hcase with ⟨h1, h2⟩ | ⟨h1, h2, h3, h4⟩ | ⟨h1, h2, h3, h4⟩ | ⟨h1, h2, h3⟩
  · rw [h2]
    clear h2
    go_enter Try.func22, Try.ntmps22
    go_wp2_with fail
    rw [HW.out]
    go_ret
    exact ⟨rfl, HB.out⟩
  · rw [h4]
    have h3 : (b.seq : Int) < (a.seq : Int) := by omega
    clear h4
    go_enter Try.func22, Try.ntmps22
    go_wp2_with fail
    rw [HW.out]
    go_ret
    exact ⟨rfl, HB.out⟩
  · rw [h4]
    have h3 : ¬ (b.seq : Int) < (a.seq : Int) := by omega
    clear h4
    go_enter Try.func22, Try.ntmps22
    go_wp2_with fail
    rw [HW.out]
    go_ret
    exact ⟨rfl, HB.out⟩
  · rw [h3]
    clear h3
    go_enter Try.func22, Try.ntmps22
    go_wp2_with fail
    rw [HW.out]
    go_ret
    exact ⟨rfl, HB.out⟩
set_option maxRecDepth 20000 in
set_option maxHeartbeats 4000000 in
theorem size_any (B g b cap : Nat) (s : St) (w : World) (h : MA B w g b cap s) : Calls Try.prog 20 #[.pointer (some ⟨g, 0, none⟩)] w fun e w' => e = .returned (.int .i64 ((s.size : Nat) : Int)) ∧ w' = w := by
  obtain ⟨m0, m1, m2⟩ := h.hd
  have HCL : Hid (∀ _ : Unit, _) := fun _ => closed_no g w h.hd.1
  clear h
  go_enter Try.func20, Try.ntmps20
  go_wp2_with fail
  refine (HCL.out ()).mono ?_
  rintro e w1 ⟨rfl, hw1⟩
  rw [hw1]
  clear hw1 w1
  go_wp2_with fail
  go_ret
  exact ⟨rfl, rfl⟩
end Go.Proofs.Ytdgmjmohfpjlnaa
