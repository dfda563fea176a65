/-
  More bytes, the same begin.
-/
import Derived.Test.YtefigcnfcbdecaaScan
namespace Go.Proofs.Ytefigcnfcbdecaa
theorem getD_app {l m : List UInt8} {j : Nat} (h : j < l.length) : (l ++ m).getD j 0 = l.getD j 0 := by
  rw [List.getD_eq_getElem?_getD, List.getD_eq_getElem?_getD, List.getElem?_append_left h]
theorem take_app {l m : List UInt8} {n : Nat} (h : n ≤ l.length) : (l ++ m).take n = l.take n := by
  rw [List.take_append_of_le_length h]
theorem drop_app {l m : List UInt8} {n : Nat} (h : n ≤ l.length) : (l ++ m).drop n = l.drop n ++ m := by
  rw [List.drop_append_of_le_length h]
theorem find_more {l : List UInt8} (m : List UInt8) {t : Nat} {bg : Bool} {f : UInt8 × Nat × Nat} (h : findL l t bg = .inr f) : findL (l ++ m) t bg = .inr f := by
  obtain ⟨k, s, n⟩ := f
  have hb := find_bounds h
  have hp0 : (passedL l t).length = min (skipN t) (l.length - t) := by rw [passedL, List.length_take, List.length_drop]
  have h' := h
  unfold findL findG at h'
  repeat' split at h'
  all_goals first | (cases h'; done) | skip
  rename_i g1 g2 g3 g4 g5 g6 g7
  simp only [Sum.inr.injEq, Prod.mk.injEq] at h'
  obtain ⟨e1, e2, e3⟩ := h'
  rw [List.length_drop] at g3 g6
  have hps : (passedL l t).length = skipN t := by omega
  have hpe : passedL (l ++ m) t = passedL l t := by
    rw [passedL, passedL, drop_app (by omega), take_app (by rw [List.length_drop]; omega)]
  obtain ⟨rest, hrest⟩ : ∃ rest, l.drop (t + (passedL l t).length) = rest := ⟨_, rfl⟩
  have hrl : rest.length = l.length - (t + (passedL l t).length) := by rw [← hrest, List.length_drop]
  have hre : (l ++ m).drop (t + (passedL l t).length) = rest ++ m := by rw [drop_app (by omega), hrest]
  rw [hrest] at e1 e3 g4 g5 g6 g7
  have d4 : (rest ++ m).getD 4 0 = rest.getD 4 0 := getD_app (by omega)
  have d5 : (rest ++ m).getD 5 0 = rest.getD 5 0 := getD_app (by omega)
  have d6 : (rest ++ m).getD 6 0 = rest.getD 6 0 := getD_app (by omega)
  have dl : lenF (rest ++ m) = lenF rest := by rw [lenF, lenF, d4, d5]
  have dt : (rest ++ m).take 7 = rest.take 7 := take_app (by omega)
  have dp : ((rest ++ m).drop 7).take (lenF rest) = (rest.drop 7).take (lenF rest) := by rw [drop_app (by omega), take_app (by rw [List.length_drop]; omega)]
  unfold findL findG
  rw [hpe, hre, if_neg g1, if_neg (fun e => by have := e.1; rw [List.length_append] at this; omega), if_neg (by rw [List.length_append]; omega), dl, d6, if_neg g4, if_neg g5, if_neg (by rw [List.length_append]; omega), dt, dp, if_pos g7, e1, e2, e3]
theorem next_more {l : List UInt8} (m : List UInt8) {r : List UInt8 × Nat} : ∀ {g g' t : Nat} {bg : Bool} {acc : List UInt8}, g ≤ g' → nextR l g t bg acc = .inr r → nextR (l ++ m) g' t bg acc = .inr r
  | 0, _, _, _, _, _, h => by cases h
  | g + 1, 0, _, _, _, hg, _ => by omega
  | g + 1, g' + 1, t, bg, acc, hg, h => by
    rw [nextR] at h ⊢
    cases hf : findL l t bg with
    | inl e => rw [hf] at h; cases h
    | inr f =>
      have hm := find_more m hf
      obtain ⟨k, s, n⟩ := f
      have hb := find_bounds hf
      rw [hf] at h
      rw [hm]
      dsimp only at h ⊢
      have hd : ((l ++ m).drop s).take n = (l.drop s).take n := by rw [drop_app (by omega), take_app (by rw [List.length_drop]; omega)]
      rw [hd]
      by_cases hk : k = 1 ∨ k = 4
      · rw [if_pos hk] at h ⊢; exact h
      · rw [if_neg hk] at h ⊢; exact next_more m (by omega) h
theorem recs_more {l : List UInt8} (m : List UInt8) : ∀ (g g' t : Nat), g ≤ g' → (recsR l g t).1 <+: (recsR (l ++ m) g' t).1
  | 0, _, _, _ => ⟨_, rfl⟩
  | g + 1, 0, _, hg => by omega
  | g + 1, g' + 1, t, hg => by
    rw [recsR, recsR]
    cases hn : nextR l (l.length + 1) t false [] with
    | inl e => exact ⟨_, rfl⟩
    | inr r =>
      have hm := next_more m (g' := (l ++ m).length + 1) (by rw [List.length_append]; omega) hn
      obtain ⟨rec, t'⟩ := r
      rw [hm]
      dsimp only
      obtain ⟨z, hz⟩ := recs_more m g g' t' (by omega)
      exact ⟨z, by rw [List.cons_append, hz]⟩
theorem scan_more (l m : List UInt8) : (scanL l).1 <+: (scanL (l ++ m)).1 := recs_more m _ _ _ (by rw [List.length_append]; omega)
end Go.Proofs.Ytefigcnfcbdecaa
