/-
  The contract of the twin's Check.
-/
import Derived.Test.YtdgmjmohfpjlnaaOpi
namespace Go.Proofs.Ytdgmjmohfpjlnaa
open Go.RowKit Go.Shelf
theorem chk_cases2 (c : Cl) : (c.key.size < 1 ∧ chkR c = 60) ∨ (¬ c.key.size < 1 ∧ 128 < c.key.size ∧ chkR c = 60) ∨ (¬ c.key.size < 1 ∧ ¬ 128 < c.key.size ∧ 1024 < c.val.size ∧ chkR c = 60) ∨ (¬ c.key.size < 1 ∧ ¬ 128 < c.key.size ∧ ¬ 1024 < c.val.size ∧ c.gone = true ∧ c.val.toList.isEmpty = false ∧ chkR c = 60) ∨
    (¬ c.key.size < 1 ∧ ¬ 128 < c.key.size ∧ ¬ 1024 < c.val.size ∧ c.gone = true ∧ c.val.toList.isEmpty = true ∧ 72057594037927935 < c.seq ∧ chkR c = 60) ∨ (¬ c.key.size < 1 ∧ ¬ 128 < c.key.size ∧ ¬ 1024 < c.val.size ∧ c.gone = true ∧ c.val.toList.isEmpty = true ∧ ¬ 72057594037927935 < c.seq ∧ chkR c = 0) ∨
    (¬ c.key.size < 1 ∧ ¬ 128 < c.key.size ∧ ¬ 1024 < c.val.size ∧ c.gone = false ∧ 72057594037927935 < c.seq ∧ chkR c = 60) ∨ (¬ c.key.size < 1 ∧ ¬ 128 < c.key.size ∧ ¬ 1024 < c.val.size ∧ c.gone = false ∧ ¬ 72057594037927935 < c.seq ∧ chkR c = 0) := by
  unfold chkR
  by_cases h1 : c.key.size < 1
  · exact .inl ⟨h1, by simp [h1]⟩
  by_cases h2 : 128 < c.key.size
  · exact .inr (.inl ⟨h1, h2, by simp [h2]⟩)
  by_cases h3 : 1024 < c.val.size
  · exact .inr (.inr (.inl ⟨h1, h2, h3, by simp [h3]⟩))
  have hz : c.key.size ≠ 0 := by omega
  cases hg : c.gone with
  | true =>
    cases he : c.val.toList.isEmpty with
    | false =>
      have hn : c.val.toList ≠ [] := by intro e; rw [e] at he; cases he
      exact .inr (.inr (.inr (.inl ⟨h1, h2, h3, rfl, rfl, by simp [hn]⟩)))
    | true =>
      have hn : c.val.toList = [] := by simpa using he
      by_cases h5 : 72057594037927935 < c.seq
      · exact .inr (.inr (.inr (.inr (.inl ⟨h1, h2, h3, rfl, rfl, h5, by simp [h5]⟩))))
      · exact .inr (.inr (.inr (.inr (.inr (.inl ⟨h1, h2, h3, rfl, rfl, h5, by rw [if_neg (by rintro (q | q | q | ⟨_, q⟩ | q); exact h1 q; exact h2 q; exact h3 q; exact q hn; exact h5 q)]⟩)))))
  | false =>
    by_cases h5 : 72057594037927935 < c.seq
    · exact .inr (.inr (.inr (.inr (.inr (.inr (.inl ⟨h1, h2, h3, rfl, h5, by simp [h5]⟩))))))
    · exact .inr (.inr (.inr (.inr (.inr (.inr (.inr ⟨h1, h2, h3, rfl, h5, by rw [if_neg (by rintro (q | q | q | ⟨q, _⟩ | q); exact h1 q; exact h2 q; exact h3 q; cases q; exact h5 q)]⟩))))))
set_option maxRecDepth 20000 in
set_option maxHeartbeats 8000000 in
theorem rcheck_any (c : Cl) (w : World) : Calls Try.prog 33 #[clV c] w fun e w' => e = .returned (.int .i64 ((chkR c : Nat) : Int)) ∧ Below w.heap.size w w' := by
  obtain ⟨W1, hW1⟩ : ∃ W, w.alloc (.cells #[.string c.key, .int .u64 ((c.seq : Nat) : Int), .string c.val, .bool c.gone] 33) = W := ⟨_, rfl⟩
  have hcb : CB W1 w.heap.size c := by rw [← hW1]; exact block_alloc_at _ _
  obtain ⟨x0, x1, x2, x3⟩ := CB.cells hcb
  have HB : Hid (Below w.heap.size w W1) := by rw [Hid, ← hW1]; exact below_new _ _
  have HW : Hid _ := hW1
  have hcase := chk_cases2 c
  obtain ⟨R, hR⟩ : ∃ R, chkR c = R := ⟨_, rfl⟩
  rw [hR] at hcase ⊢
  rw [← hW1] at x0 x1 x2 x3
  obtain ⟨ck, cs, cv, cg⟩ := c
  simp only at hcase x0 x1 x2 x3 HW
  simp only [clV]
  clear hW1 hcb hR
  rcases hcase with ⟨h1, rfl⟩ | ⟨h1, h2, rfl⟩ | ⟨h1, h2, h3, rfl⟩ | ⟨h1, h2, h3, h4, h5, rfl⟩ | ⟨h1, h2, h3, h4, h5, h6, rfl⟩ | ⟨h1, h2, h3, h4, h5, h6, rfl⟩ | ⟨h1, h2, h3, h4, h5, rfl⟩ | ⟨h1, h2, h3, h4, h5, rfl⟩
  · have h1z :  ((ck.size : Nat) : Int) < 1 := by omega
    go_enter Try.func33, Try.ntmps33
    go_wp2_with fail
    try rw [HW.out]
    go_ret
    exact ⟨rfl, HB.out⟩
  · have h1z : ¬ ((ck.size : Nat) : Int) < 1 := by omega
    have h2z :  (128 : Int) < ((ck.size : Nat) : Int) := by omega
    go_enter Try.func33, Try.ntmps33
    go_wp2_with fail
    try rw [HW.out]
    go_ret
    exact ⟨rfl, HB.out⟩
  · have h1z : ¬ ((ck.size : Nat) : Int) < 1 := by omega
    have h2z : ¬ (128 : Int) < ((ck.size : Nat) : Int) := by omega
    have h3z :  (1024 : Int) < ((cv.size : Nat) : Int) := by omega
    go_enter Try.func33, Try.ntmps33
    go_wp2_with fail
    try rw [HW.out]
    go_ret
    exact ⟨rfl, HB.out⟩
  · have h1z : ¬ ((ck.size : Nat) : Int) < 1 := by omega
    have h2z : ¬ (128 : Int) < ((ck.size : Nat) : Int) := by omega
    have h3z : ¬ (1024 : Int) < ((cv.size : Nat) : Int) := by omega
    subst h4
    go_enter Try.func33, Try.ntmps33
    go_wp2_with fail
    try rw [HW.out]
    go_ret
    exact ⟨rfl, HB.out⟩
  · have h1z : ¬ ((ck.size : Nat) : Int) < 1 := by omega
    have h2z : ¬ (128 : Int) < ((ck.size : Nat) : Int) := by omega
    have h3z : ¬ (1024 : Int) < ((cv.size : Nat) : Int) := by omega
    subst h4
    have h6z :  (72057594037927935 : Int) < ((cs : Nat) : Int) := by omega
    go_enter Try.func33, Try.ntmps33
    go_wp2_with fail
    try rw [HW.out]
    go_ret
    exact ⟨rfl, HB.out⟩
  · have h1z : ¬ ((ck.size : Nat) : Int) < 1 := by omega
    have h2z : ¬ (128 : Int) < ((ck.size : Nat) : Int) := by omega
    have h3z : ¬ (1024 : Int) < ((cv.size : Nat) : Int) := by omega
    subst h4
    have h6z : ¬ (72057594037927935 : Int) < ((cs : Nat) : Int) := by omega
    go_enter Try.func33, Try.ntmps33
    go_wp2_with fail
    try rw [HW.out]
    go_ret
    exact ⟨rfl, HB.out⟩
  · have h1z : ¬ ((ck.size : Nat) : Int) < 1 := by omega
    have h2z : ¬ (128 : Int) < ((ck.size : Nat) : Int) := by omega
    have h3z : ¬ (1024 : Int) < ((cv.size : Nat) : Int) := by omega
    subst h4
    have h5z :  (72057594037927935 : Int) < ((cs : Nat) : Int) := by omega
    go_enter Try.func33, Try.ntmps33
    go_wp2_with fail
    try rw [HW.out]
    go_ret
    exact ⟨rfl, HB.out⟩
  · have h1z : ¬ ((ck.size : Nat) : Int) < 1 := by omega
    have h2z : ¬ (128 : Int) < ((ck.size : Nat) : Int) := by omega
    have h3z : ¬ (1024 : Int) < ((cv.size : Nat) : Int) := by omega
    subst h4
    have h5z : ¬ (72057594037927935 : Int) < ((cs : Nat) : Int) := by omega
    go_enter Try.func33, Try.ntmps33
    go_wp2_with fail
    try rw [HW.out]
    go_ret
    exact ⟨rfl, HB.out⟩
end Go.Proofs.Ytdgmjmohfpjlnaa
