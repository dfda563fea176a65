/-
  The contract of print at every rule; of Target.
-/
import Derived.Test.YtbpfggpljfpfcaaDoorPrt
namespace Go.Proofs.YtbpfggpljfpfcaaDoor
open Go.RowKit
theorem rule_cases {r : Rule} (h : r ∈ rulesT) : r = rul 0 ∨ r = rul 1 ∨ r = rul 2 ∨ r = rul 3 ∨ r = rul 4 ∨ r = rul 5 ∨ r = rul 6 ∨ r = rul 7 ∨ r = rul 8 ∨ r = rul 9 := by
  simp only [rulesT, List.mem_cons, List.not_mem_nil, or_false] at h
  exact h
theorem s2_len (u : List UInt8) : (pS2 u).length ≤ 100 + 3 * u.length := by have := escOf_len u; simp [pS2, wSess]; omega
theorem s3_len (u : List UInt8) : (pS3 u).length ≤ 100 + 3 * u.length := by have := escOf_len u; simp [pS3, wSess, wTouch]; omega
theorem u3_len (u : List UInt8) : (pU3 u).length ≤ 100 + 3 * u.length := by have := escOf_len u; simp [pU3, wSess, wUsers]; omega
theorem print_len {r : Rule} (h : r ∈ rulesT) {y : Rt} (h0 : -9223372036854775808 ≤ y.frm) (h1 : y.frm ≤ 9223372036854775807) (ht : y.token.length ≤ 10000000) (hu : y.user.length ≤ 10000000) : (printR r y).length ≤ 100000000 := by
  have a1 := s2_len y.token
  have a2 := s3_len y.token
  have a3 := u3_len y.user
  have a4 := pA_len h0 h1
  have a5 : p1.length ≤ 1024 ∧ pMe.length ≤ 1024 ∧ pSt.length ≤ 1024 := by decide
  rcases rule_cases h with rfl | rfl | rfl | rfl | rfl | rfl | rfl | rfl | rfl | rfl
  · rw [print_0]; omega
  · rw [print_1]; omega
  · rw [print_2]; omega
  · rw [print_3]; omega
  · rw [print_4]; omega
  · rw [print_5]; omega
  · rw [print_6]; omega
  · rw [print_7]; omega
  · rw [print_8]; omega
  · rw [print_9]; omega
theorem flat_le_print (r : Rule) (y : Rt) : (r.path.flatMap (wordR r y)).length ≤ (printR r y).length := by unfold printR; rw [List.length_append]; omega
theorem print_gen (x : Rule × Nat) (hx : x.1 ∈ rulesT) (fv : Value) (f1 f2 : Nat) (hfv : pfV (partF x.1.part) = fv) (hf2 : (rmOf x).fw = f2) (y : Rt) (h0 : -9223372036854775808 ≤ y.frm) (h1 : y.frm ≤ 9223372036854775807) (ht : y.token.length ≤ 10000000) (hu : y.user.length ≤ 10000000) (w : World) (hp : PathAt w x) (hT : TabP w) :
    Calls Tryd.prog 37 #[.agg #[.string (bOf x.1.meth), .slice (some ⟨x.2, 0, none⟩) x.1.path.length x.1.path.length, .int .i64 x.1.kind, .string ⟨#[]⟩, .string ⟨#[]⟩, .int .i64 0, .bool x.1.me, fv, .func (.func f1) #[] #[], .func (.func f2) #[] #[]], .agg #[.int .i64 y.kind, .string (bOf y.token), .string (bOf y.user), .int .i64 y.frm, .bool y.me]] w fun e w' => e = .returned (.string (bOf (printR x.1 y))) ∧ Below w.heap.size w w' := by
  obtain ⟨r, pb⟩ := x
  simp only at hx hfv hf2 ⊢
  subst hfv hf2
  have hl := print_len hx h0 h1 ht hu
  have HT : Hid (∀ W, Below w.heap.size w W → TabP W) := fun W b => tab_below hT b
  obtain ⟨yk, ya, yb, yf, ym⟩ := y
  simp only at ht hu h0 h1 ⊢
  have HN : ∀ W, Below w.heap.size w W → _ := fun W _ => noText_any ⟨yk, ya, yb, yf, ym⟩ W
  have HF : ∀ W, Below w.heap.size w W → _ := fun W b => writeFrom_any ⟨yk, ya, yb, yf, ym⟩ h0 h1 W (HT.out W b)
  rcases rule_cases hx with rfl | rfl | rfl | rfl | rfl | rfl | rfl | rfl | rfl | rfl
  · exact print_p0 mPost [wSess] 1 false pb f1 1 yk ya yb yf ym [] w hp rfl (by decide) (show _ ≤ _ by decide) (fun k p h => by match k, h with | 0, h => cases h; decide | k + 1, h => simp at h) (show _ ≤ _ by decide) HN
  · exact print_p1 mGet [wSess, []] 2 false pb f1 2 yk ya yb yf ym [] w hp rfl (by decide) (Nat.le_trans (flat_le_print (rul 1) ⟨yk, ya, yb, yf, ym⟩) hl) ht (show _ ≤ _ by decide) HN
  · exact print_p1 mPost [wSess, [], wTouch] 3 false pb f1 3 yk ya yb yf ym [] w hp rfl (by decide) (Nat.le_trans (flat_le_print (rul 2) ⟨yk, ya, yb, yf, ym⟩) hl) ht (show _ ≤ _ by decide) HN
  · exact print_p1 mDel [wSess, []] 4 false pb f1 2 yk ya yb yf ym [] w hp rfl (by decide) (Nat.le_trans (flat_le_print (rul 3) ⟨yk, ya, yb, yf, ym⟩) hl) ht (show _ ≤ _ by decide) HN
  · exact print_p2 mDel [wUsers, [], wSess] 5 false pb f1 3 yk ya yb yf ym [] w hp rfl (by decide) (Nat.le_trans (flat_le_print (rul 4) ⟨yk, ya, yb, yf, ym⟩) hl) hu (show _ ≤ _ by decide) HN
  · exact print_p0 mDel [wSess] 6 false pb f1 1 yk ya yb yf ym [] w hp rfl (by decide) (show _ ≤ _ by decide) (fun k p h => by match k, h with | 0, h => cases h; decide | k + 1, h => simp at h) (show _ ≤ _ by decide) HN
  · exact print_p2 mGet [wUsers, [], wSess] 7 false pb f1 3 yk ya yb yf ym [] w hp rfl (by decide) (Nat.le_trans (flat_le_print (rul 6) ⟨yk, ya, yb, yf, ym⟩) hl) hu (show _ ≤ _ by decide) HN
  · exact print_p8 mGet [wAudit] 8 false pb f1 1 yk ya yb yf ym (fromQ ++ Lib.itoa yf) w hp rfl (by decide) (show _ ≤ _ by decide) (fun k p h => by match k, h with | 0, h => cases h; decide | k + 1, h => simp at h) (from_len h0 h1) HF
  · exact print_p0 mGet [wMe] 2 true pb f1 1 yk ya yb yf ym [] w hp rfl (by decide) (show _ ≤ _ by decide) (fun k p h => by match k, h with | 0, h => cases h; decide | k + 1, h => simp at h) (show _ ≤ _ by decide) HN
  · exact print_p0 mGet [wStats] 9 false pb f1 1 yk ya yb yf ym [] w hp rfl (by decide) (show _ ≤ _ by decide) (fun k p h => by match k, h with | 0, h => cases h; decide | k + 1, h => simp at h) (show _ ≤ _ by decide) HN
end Go.Proofs.YtbpfggpljfpfcaaDoor
