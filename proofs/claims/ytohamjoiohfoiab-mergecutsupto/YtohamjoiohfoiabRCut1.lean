/-
  Cut and its twin tell the same pieces.
-/
import Derived.Test.YtohamjoiohfoiabRCut0
import Derived.Test.YtohamjoiohfoiabPure
import Derived.Test.YtohamjoiohfoiabUnseen
namespace Go.Proofs.Ytohamjoiohfoiab
open Go.RowKit
theorem grps_flat (l : List Cl) : ∀ g k, k ≤ l.length → l.length < k + g → (grps l g k).flatMap (cutL l) = l.drop k
  | 0, k, h1, h2 => by omega
  | g + 1, k, h1, h2 => by
    rw [grps]
    split
    · rename_i hk
      have hp := runN_pos (l := l.drop k) (by intro e; have := congrArg List.length e; simp at this; omega)
      have hr := runN_le (l.drop k)
      simp at hr
      rw [List.flatMap_cons, grps_flat l g (k + runN (l.drop k)) (by omega) (by omega)]
      unfold cutL
      simp only
      rw [← List.drop_drop, List.take_append_drop]
    · rw [List.drop_eq_nil_of_le (by omega)]
      rfl
theorem allG_flat {l : List Cl} (hs : sortedC l = true) : (allG l).flatMap (cutL l) = l := by
  unfold allG
  rw [if_pos hs, grps_flat l _ 0 (Nat.zero_le _) (by omega)]
  rfl
/-- The places where keys begin. -/
theorem grps_begins {l : List Cl} (hs : sortedC l = true) : ∀ g k, k ≤ l.length → l.length < k + g → Begins l k → ∀ pre y rest, grps l g k = pre ++ y :: rest → Begins l (k + (pre.flatMap (cutL l)).length) ∧ y.1 = k + (pre.flatMap (cutL l)).length
  | 0, k, h1, h2, _, pre, y, rest, h => by omega
  | g + 1, k, h1, h2, hb, pre, y, rest, h => by
    rw [grps] at h
    split at h
    · rename_i hk
      have hp := runN_pos (l := l.drop k) (by intro e; have := congrArg List.length e; simp at this; omega)
      have hr := runN_le (l.drop k)
      simp at hr
      cases pre with
      | nil =>
        simp at h
        exact ⟨by simpa using hb, by rw [← h.1]; simp⟩
      | cons z pre =>
        simp at h
        obtain ⟨h3, h4⟩ := grps_begins hs g (k + runN (l.drop k)) (by omega) (by omega) (begins_next hs hk) pre y rest h.2
        rw [List.flatMap_cons, List.length_append, ← h.1, cut_len, ← Nat.add_assoc]
        exact ⟨h3, h4⟩
    · cases pre <;> simp at h
theorem allG_begins {l : List Cl} (hs : sortedC l = true) {pre rest : List (Nat × Nat)} {y : Nat × Nat} (h : allG l = pre ++ y :: rest) : Begins l (pre.flatMap (cutL l)).length := by
  unfold allG at h
  rw [if_pos hs] at h
  have := (grps_begins hs _ 0 (Nat.zero_le _) (by omega) (begins_zero l) pre y rest h).1
  simpa using this
theorem refP_flat (l : List Cl) (most : Int) (pre : List (Nat × Nat)) : (refP l most pre).1.flatten ++ (refP l most pre).2 = pre.flatMap (cutL l) := by
  induction hn : pre.length generalizing pre with
  | zero =>
    obtain rfl := List.length_eq_zero_iff.1 hn
    rfl
  | succ n ih =>
    obtain ⟨qs, y, rfl⟩ : ∃ qs y, pre = qs ++ [y] := ⟨pre.dropLast, pre.getLast (by rintro rfl; simp at hn), (List.dropLast_concat_getLast _).symm⟩
    have h := ih qs (by simpa using hn)
    rw [refP_snoc, List.flatMap_append, ← h]
    unfold refStep
    split <;> simp
/-- Where pieces begin keys begin. -/
def Bounds (l : List Cl) (P : List (List Cl)) : Prop := ∀ i, i < P.length → Begins l ((P.take i).flatten).length
theorem cut_main {l : List Cl} (hs : sortedC l = true) {most : Int} (hm : 1 ≤ most) (hm2 : most ≤ 9223372036854775807) (hw : wN l < 4000000000000000000) : ∀ (n : Nat) (pre rest : List (Nat × Nat)), pre.length = n → allG l = pre ++ rest →
    (pre = [] ∧ refP l most pre = ([], []) ∧ cutP l most pre = ([], 0)) ∨ ∃ pcs p, refP l most pre = (pcs, p) ∧ p ≠ [] ∧ (∀ q ∈ pcs, q ≠ []) ∧ cutP l most pre = (pcs ++ [p], most - (wN p : Int)) ∧ Bounds l (pcs ++ [p])
  | 0, pre, rest, hn, h => by
    obtain rfl := List.length_eq_zero_iff.1 hn
    exact Or.inl ⟨rfl, rfl, rfl⟩
  | n + 1, pre, rest, hn, h => by
    obtain ⟨qs, y, rfl⟩ : ∃ qs y, pre = qs ++ [y] := ⟨pre.dropLast, pre.getLast (by rintro rfl; simp at hn), (List.dropLast_concat_getLast _).symm⟩
    have h' : allG l = qs ++ y :: rest := by rw [h, List.append_assoc]; rfl
    have ih := cut_main hs hm hm2 hw n qs (y :: rest) (by simpa using hn) h'
    have hy := allG_mem (l := l) (y := y) (by rw [h']; simp)
    have hb := allG_begins hs h'
    obtain ⟨K, hK⟩ : ∃ K, cutL l y = K := ⟨_, rfl⟩
    have hKn : K ≠ [] := by
      rintro rfl
      have := hy.2.2.2.2
      rw [hK] at this
      simp at this
      omega
    have hfl := refP_flat l most qs
    have hwl : wN (qs.flatMap (cutL l)) + wN K ≤ wN l := by
      have e := allG_flat hs
      rw [h'] at e
      have : wN l = wN (qs.flatMap (cutL l)) + (wN (cutL l y) + wN (rest.flatMap (cutL l))) := by
        rw [← wN_app, ← wN_app, ← List.flatMap_cons, ← List.flatMap_append, e]
      rw [hK] at this
      omega
    have hwK : wtI K = (wN K : Int) := wtI_nat (by omega)
    right
    rw [refP_snoc, cutP_snoc, hK]
    rcases ih with ⟨rfl, h1, h2⟩ | ⟨pcs, p, h1, h3, h4, h2, h5⟩
    · rw [h1, h2]
      refine ⟨[], K, ?_, hKn, fun q hq => (by cases hq), ?_, ?_⟩
      · unfold refStep
        rw [if_neg (by simp)]
        rfl
      · have hr : cutNew most ([], 0) K = ([[]], most) := by
          unfold cutNew
          simp
        unfold cutStep
        rw [hr, hwK]
        have e : wrap64 (most - (wN K : Int)) = most - (wN K : Int) := by unfold wrap64; omega
        show (onLast ([] ++ [[]]) K, wrap64 (most - (wN K : Int))) = _
        rw [onLast_snoc, e]
        rfl
      · intro i hi
        have : i = 0 := by simp at hi; exact hi
        subst this
        simpa using begins_zero l
    · rw [h1] at hfl
      simp only at hfl
      have hwp : wN p + wN K ≤ wN l := by
        rw [← hfl, wN_app] at hwl
        omega
      have hwtp : wtI p = (wN p : Int) := wtI_nat (by omega)
      rw [h1, h2]
      by_cases hbig : most < (wN p : Int) + (wN K : Int)
      · refine ⟨pcs ++ [p], K, ?_, hKn, ?_, ?_, ?_⟩
        · unfold refStep
          rw [if_pos]
          refine ⟨by simpa using h3, ?_⟩
          show most < wrap64 (wtI p + wtI K)
          rw [hwtp, hwK]
          unfold wrap64
          omega
        · intro q hq
          rcases List.mem_append.1 hq with hq | hq
          · exact h4 q hq
          · rw [List.mem_singleton.1 hq]; exact h3
        · have hr : cutNew most (pcs ++ [p], most - (wN p : Int)) K = (pcs ++ [p] ++ [[]], most) := by
            unfold cutNew
            rw [if_pos]
            right
            show most - (wN p : Int) < wtI K
            rw [hwK]
            omega
          unfold cutStep
          rw [hr, hwK]
          have e : wrap64 (most - (wN K : Int)) = most - (wN K : Int) := by unfold wrap64; omega
          show (onLast (pcs ++ [p] ++ [[]]) K, wrap64 (most - (wN K : Int))) = _
          rw [onLast_snoc, e]
          rfl
        · intro i hi
          by_cases hi2 : i < (pcs ++ [p]).length
          · rw [List.take_append_of_le_length (by omega)]
            exact h5 i hi2
          · have : i = (pcs ++ [p]).length := by simp at hi hi2 ⊢; omega
            rw [this, List.take_append_of_le_length (Nat.le_refl _), List.take_length, List.flatten_append, List.flatten_singleton, hfl]
            exact hb
      · refine ⟨pcs, p ++ K, ?_, by simp [h3], h4, ?_, ?_⟩
        · unfold refStep
          rw [if_neg]
          rintro ⟨_, h6⟩
          have h6' : most < wrap64 (wtI p + wtI K) := h6
          rw [hwtp, hwK] at h6'
          unfold wrap64 at h6'
          omega
        · have hr : cutNew most (pcs ++ [p], most - (wN p : Int)) K = (pcs ++ [p], most - (wN p : Int)) := by
            unfold cutNew
            rw [if_neg]
            rintro (h6 | h6)
            · simp at h6
            · have h6' : most - (wN p : Int) < wtI K := h6
              rw [hwK] at h6'
              omega
          unfold cutStep
          rw [hr, hwK]
          have e : wrap64 (most - (wN p : Int) - (wN K : Int)) = most - (wN (p ++ K) : Int) := by rw [wN_app]; unfold wrap64; omega
          show (onLast (pcs ++ [p]) K, wrap64 (most - (wN p : Int) - (wN K : Int))) = _
          rw [onLast_snoc, e]
        · intro i hi
          have hi' : i < (pcs ++ [p]).length := by simpa using hi
          have := h5 i hi'
          have hle : i ≤ pcs.length := by simp at hi; omega
          rw [List.take_append_of_le_length hle] at this ⊢
          exact this
/-- The pieces of a list in order. -/
theorem cut_same {l : List Cl} {most : Int} (hm2 : most ≤ 9223372036854775807) (hw : wN l < 4000000000000000000) : cutQ l most = cutA l most ∧ (∀ q ∈ cutA l most, q ≠ []) ∧ Bounds l (cutA l most) ∧ (sortedC l = true → 1 ≤ most → (cutA l most).flatten = l) := by
  by_cases hm : most < 1
  · have h1 : cutA l most = [] := by rw [cutA, if_pos hm]
    have h2 : cutQ l most = [] := by rw [cutQ, if_pos hm]
    rw [h1, h2]
    exact ⟨rfl, fun q hq => (by cases hq), fun i hi => by simp at hi, fun _ h => by omega⟩
  · have hA : cutA l most = (cutP l most (allG l)).1 := by rw [cutA, if_neg hm]
    cases hs : sortedC l with
    | false =>
      have hg : allG l = [] := allG_nil (Or.inr hs)
      have h2 : cutQ l most = [] := by rw [cutQ, if_neg hm, hg]; rfl
      rw [hA, hg, h2]
      exact ⟨rfl, fun q hq => (by cases hq), fun i hi => by simp [cutP] at hi, fun h => by cases h⟩
    | true =>
      have hfl := refP_flat l most (allG l)
      rw [allG_flat hs] at hfl
      rcases cut_main hs (by omega) hm2 hw _ (allG l) [] rfl (by simp) with ⟨h0, h1, h2⟩ | ⟨pcs, p, h1, h3, h4, h2, h5⟩
      · have hQ : cutQ l most = [] := by rw [cutQ, if_neg hm, h1]; rfl
        rw [hA, hQ, h2]
        rw [h1] at hfl
        exact ⟨rfl, fun q hq => (by cases hq), fun i hi => by simp at hi, fun _ _ => by simpa using hfl⟩
      · have hQ : cutQ l most = pcs ++ [p] := by
          rw [cutQ, if_neg hm, h1, if_neg (by show ¬ p.length = 0; simpa using h3)]
        rw [hA, hQ, h2]
        rw [h1] at hfl
        refine ⟨rfl, fun q hq => ?_, h5, fun _ _ => by simpa using hfl⟩
        rcases List.mem_append.1 hq with hq | hq
        · exact h4 q hq
        · rw [List.mem_singleton.1 hq]; exact h3
end Go.Proofs.Ytohamjoiohfoiab
