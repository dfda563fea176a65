/-
  What a compaction leaves: in order, of the list, done twice it is done once, and seen alike.
-/
import Derived.Test.YtohamjoiohfoiaaPure
namespace Go.Proofs.Ytohamjoiohfoiaa
theorem bytesLess_asym {a b : List UInt8} (h : Op.bytesLess a b = true) : Op.bytesLess b a = false := by
  cases h2 : Op.bytesLess b a with
  | false => rfl
  | true =>
    have := bytesLess_trans h h2
    rw [bytesLess_irrefl] at this
    cases this
theorem lessC_trans {a b c : Cl} (h1 : lessC a b = true) (h2 : lessC b c = true) : lessC a c = true := by
  unfold lessC at *
  by_cases e1 : (a.key.toList == b.key.toList) = true
  · have e1' : a.key.toList = b.key.toList := by simpa using e1
    rw [if_pos e1] at h1
    rw [e1']
    by_cases e2 : (b.key.toList == c.key.toList) = true
    · rw [if_pos e2] at h2 ⊢
      simp at *
      omega
    · rw [if_neg e2] at h2 ⊢
      exact h2
  · rw [if_neg e1] at h1
    by_cases e2 : (b.key.toList == c.key.toList) = true
    · have e2' : b.key.toList = c.key.toList := by simpa using e2
      rw [← e2', if_neg e1]
      exact h1
    · rw [if_neg e2] at h2
      have h3 := bytesLess_trans h1 h2
      rw [if_neg]
      · exact h3
      · intro e
        have e' : a.key.toList = c.key.toList := by simpa using e
        rw [e', bytesLess_irrefl] at h3
        cases h3
theorem lessC_asym {a b : Cl} (h : lessC a b = true) : lessC b a = false := by
  cases h2 : lessC b a with
  | false => rfl
  | true =>
    have := lessC_trans h h2
    unfold lessC at this
    rw [if_pos (by simp)] at this
    simp at this
theorem sorted_pair : ∀ {l : List Cl}, sortedC l = true → l.Pairwise (fun a b => lessC a b = true)
  | [], _ => List.Pairwise.nil
  | [a], _ => by simp
  | a :: b :: l, h => by
    rw [sortedC, Bool.and_eq_true] at h
    have ih := sorted_pair h.2
    refine List.Pairwise.cons (fun c hc => ?_) ih
    rcases List.mem_cons.1 hc with rfl | hc
    · exact h.1
    · exact lessC_trans h.1 (List.rel_of_pairwise_cons ih hc)
theorem pair_sorted : ∀ {l : List Cl}, l.Pairwise (fun a b => lessC a b = true) → sortedC l = true
  | [], _ => rfl
  | [a], _ => rfl
  | a :: b :: l, h => by
    rw [sortedC, Bool.and_eq_true]
    exact ⟨List.rel_of_pairwise_cons h (List.mem_cons_self ..), pair_sorted (List.Pairwise.of_cons h)⟩
/-- What is seen of the rest of a list, behind some cells. -/
def seenB (s : Nat) : List Cl → List Cl → List Cl
  | _, [] => []
  | pre, c :: l => (if fstB s pre c && !c.gone then [c] else []) ++ seenB s (pre ++ [c]) l
/-- What is kept of the rest of a list, behind some cells. -/
def keptB (o : Nat) (b : Bool) : List Cl → List Cl → List Cl
  | _, [] => []
  | pre, c :: l => (if decide (o < c.seq) || (fstB o pre c && !(b && c.gone)) then [c] else []) ++ keptB o b (pre ++ [c]) l
theorem seenB_snoc (s : Nat) : ∀ (l pre : List Cl) (c : Cl), seenB s pre (l ++ [c]) = seenB s pre l ++ (if fstB s (pre ++ l) c && !c.gone then [c] else [])
  | [], pre, c => by simp [seenB]
  | a :: l, pre, c => by rw [List.cons_append, seenB, seenB, seenB_snoc s l (pre ++ [a]) c, List.append_assoc, List.append_assoc]; rfl
theorem keptB_snoc (o : Nat) (b : Bool) : ∀ (l pre : List Cl) (c : Cl), keptB o b pre (l ++ [c]) = keptB o b pre l ++ (if decide (o < c.seq) || (fstB o (pre ++ l) c && !(b && c.gone)) then [c] else [])
  | [], pre, c => by simp [keptB]
  | a :: l, pre, c => by rw [List.cons_append, keptB, keptB, keptB_snoc o b l (pre ++ [a]) c, List.append_assoc, List.append_assoc]; rfl
theorem rvTo_seen (l : List Cl) (s : Nat) : ∀ k, k ≤ l.length → rvTo l s k = seenB s [] (l.take k)
  | 0, _ => by simp [rvTo, seenB]
  | k + 1, h => by
    have hc : l[k]? = some l[k] := List.getElem?_eq_getElem (by omega)
    rw [rvTo_succ hc, rvTo_seen l s k (by omega), List.take_add_one, hc, Option.toList, seenB_snoc, List.nil_append]
theorem rdTo_kept (l : List Cl) (o : Nat) (b : Bool) : ∀ k, k ≤ l.length → rdTo l o b k = keptB o b [] (l.take k)
  | 0, _ => by simp [rdTo, keptB]
  | k + 1, h => by
    have hc : l[k]? = some l[k] := List.getElem?_eq_getElem (by omega)
    rw [rdTo_succ hc, rdTo_kept l o b k (by omega), List.take_add_one, hc, Option.toList, keptB_snoc, List.nil_append]
theorem kept_sub (o : Nat) (b : Bool) : ∀ (l pre : List Cl), List.Sublist (keptB o b pre l) l
  | [], _ => by simp [keptB]
  | c :: l, pre => by
    rw [keptB]
    split
    · exact (kept_sub o b l _).cons_cons c
    · exact (kept_sub o b l _).cons c
theorem fst_less {s : Nat} {p q : List Cl} {c : Cl} (h : ∀ d ∈ q, d ∈ p) (hf : fstB s p c = true) : fstB s q c = true := by
  unfold fstB at *
  rw [Bool.and_eq_true, List.all_eq_true] at *
  exact ⟨hf.1, fun d hd => hf.2 d (h d hd)⟩
theorem kept_again (o : Nat) (b : Bool) : ∀ (l pre q : List Cl), (∀ d ∈ q, d ∈ pre) → keptB o b q (keptB o b pre l) = keptB o b pre l
  | [], _, _, _ => by simp [keptB]
  | c :: l, pre, q, h => by
    rw [keptB]
    split
    · rename_i hk
      rw [List.singleton_append, keptB, kept_again o b l (pre ++ [c]) (q ++ [c]) (fun d hd => by
        rcases List.mem_append.1 hd with hd | hd
        · exact List.mem_append_left _ (h d hd)
        · exact List.mem_append_right _ hd)]
      rw [if_pos, List.singleton_append]
      rw [Bool.or_eq_true] at hk ⊢
      rcases hk with hk | hk
      · exact Or.inl hk
      · rw [Bool.and_eq_true] at hk ⊢
        exact Or.inr ⟨fst_less h hk.1, hk.2⟩
    · rw [List.nil_append]
      exact kept_again o b l (pre ++ [c]) q (fun d hd => List.mem_append_left _ (h d hd))
theorem fst_of {s : Nat} {p : List Cl} {c : Cl} (hc : c.seq ≤ s) (h : fstB s p c = false) : ∃ d ∈ p, sameK d c = true ∧ d.seq ≤ s := by
  unfold fstB at h
  rw [decide_eq_true hc, Bool.true_and, List.all_eq_false] at h
  obtain ⟨d, hd, h⟩ := h
  simp at h
  exact ⟨d, hd, h.1, h.2⟩
theorem fst_no {s : Nat} {p : List Cl} {c d : Cl} (hd : d ∈ p) (hk : sameK d c = true) (hs : d.seq ≤ s) : fstB s p c = false := by
  unfold fstB
  have : p.all (fun d => !(sameK d c && decide (d.seq ≤ s))) = false := by
    rw [List.all_eq_false]
    exact ⟨d, hd, by simp [hk, hs]⟩
  rw [this, Bool.and_false]
/-- Of one key, what stands behind is older. -/
def Olds (l : List Cl) : Prop := l.Pairwise (fun x y => sameK x y = true → y.seq < x.seq)
theorem olds_of {l : List Cl} (h : sortedC l = true) : Olds l := (sorted_pair h).imp (fun h k => less_same h (sameK_eq k))
theorem kept_seen (o s : Nat) (b : Bool) (hos : o ≤ s) : ∀ (l pre q : List Cl), (∀ d ∈ q, d ∈ pre) → (∀ d ∈ pre, d ∈ q ∨ d.seq ≤ o) → Olds (pre ++ l) → seenB s q (keptB o b pre l) = seenB s pre l
  | [], _, _, _, _, _ => by simp [keptB, seenB]
  | c :: l, pre, q, h, g, hol => by
    have hol2 : Olds ((pre ++ [c]) ++ l) := by rw [List.append_assoc]; exact hol
    have old : ∀ d ∈ pre, sameK d c = true → c.seq < d.seq := fun d hd hk => (List.pairwise_append.1 hol).2.2 d hd c (List.mem_cons_self ..) hk
    rw [keptB]
    split
    · rename_i hk
      rw [List.singleton_append, seenB, seenB, kept_seen o s b hos l (pre ++ [c]) (q ++ [c]) (fun d hd => by
        rcases List.mem_append.1 hd with hd | hd
        · exact List.mem_append_left _ (h d hd)
        · exact List.mem_append_right _ hd) (fun d hd => by
        rcases List.mem_append.1 hd with hd | hd
        · rcases g d hd with h1 | h1
          · exact Or.inl (List.mem_append_left _ h1)
          · exact Or.inr h1
        · exact Or.inl (List.mem_append_right _ hd)) hol2]
      congr 1
      have : fstB s q c = fstB s pre c := by
        cases hp : fstB s pre c with
        | true => exact fst_less h hp
        | false =>
          by_cases hcs : c.seq ≤ s
          · obtain ⟨d, hd, hdk, hds⟩ := fst_of hcs hp
            rcases g d hd with h1 | h1
            · exact fst_no h1 hdk hds
            · have h2 := old d hd hdk
              have h3 := fst_no hd hdk h1
              rw [h3, decide_eq_false (show ¬ o < c.seq by omega)] at hk
              simp at hk
          · unfold fstB
            rw [decide_eq_false hcs, Bool.false_and]
      rw [this]
    · rename_i hk
      rw [List.nil_append, seenB]
      have hk' : c.seq ≤ o ∧ (fstB o pre c = false ∨ c.gone = true) := by
        simp only [Bool.or_eq_true, decide_eq_true_eq, Bool.and_eq_true, Bool.not_eq_true', not_or, not_and] at hk
        refine ⟨by omega, ?_⟩
        cases hp : fstB o pre c with
        | false => exact Or.inl rfl
        | true =>
          have := hk.2 hp
          cases hg : c.gone with
          | true => exact Or.inr rfl
          | false => rw [hg, Bool.and_false] at this; exact absurd rfl this
      have hno : (fstB s pre c && !c.gone) = false := by
        rcases hk'.2 with h1 | h1
        · obtain ⟨d, hd, hdk, hds⟩ := fst_of hk'.1 h1
          rw [fst_no hd hdk (by omega), Bool.false_and]
        · rw [h1]; simp
      rw [hno, if_neg (by simp), List.nil_append]
      exact kept_seen o s b hos l (pre ++ [c]) q (fun d hd => List.mem_append_left _ (h d hd)) (fun d hd => by
        rcases List.mem_append.1 hd with hd | hd
        · exact g d hd
        · rw [List.mem_singleton.1 hd]; exact Or.inr hk'.1) hol2
/-- What Drop tells of a list in order, as a list. -/
def drpA (l : List Cl) (o : Nat) (b : Bool) : List Cl := drpP l o b (allG l)
def visA (l : List Cl) (s : Nat) : List Cl := visP l s (allG l)
theorem drpA_eq {l : List Cl} (hs : sortedC l = true) (o : Nat) (b : Bool) : drpA l o b = keptB o b [] l := by
  unfold drpA
  rw [drop_same hs, rdTo_kept l o b _ (Nat.le_refl _), List.take_length]
theorem visA_eq {l : List Cl} (hs : sortedC l = true) (s : Nat) : visA l s = seenB s [] l := by
  unfold visA
  rw [visible_same hs, rvTo_seen l s _ (Nat.le_refl _), List.take_length]
theorem drpA_sub {l : List Cl} (hs : sortedC l = true) (o : Nat) (b : Bool) : List.Sublist (drpA l o b) l := by
  rw [drpA_eq hs]; exact kept_sub o b l []
theorem drpA_sorted {l : List Cl} (hs : sortedC l = true) (o : Nat) (b : Bool) : sortedC (drpA l o b) = true := pair_sorted ((sorted_pair hs).sublist (drpA_sub hs o b))
theorem drpA_again {l : List Cl} (hs : sortedC l = true) (o : Nat) (b : Bool) : drpA (drpA l o b) o b = drpA l o b := by
  rw [drpA_eq (drpA_sorted hs o b), drpA_eq hs]
  exact kept_again o b l [] [] (fun _ h => h)
theorem drpA_seen {l : List Cl} (hs : sortedC l = true) (o s : Nat) (b : Bool) (h : o ≤ s) : visA (drpA l o b) s = visA l s := by
  rw [visA_eq (drpA_sorted hs o b), visA_eq hs, drpA_eq hs]
  exact kept_seen o s b h l [] [] (fun _ h => h) (fun _ h => by cases h) (olds_of hs)
/-- One step of looking for a list's cells in another one. -/
theorem sub_step {d l : List Cl} {i k : Nat} {c : Cl} (h : List.Sublist (d.drop i) (l.drop k)) (hc : l[k]? = some c) :
    (∀ x, d[i]? = some x → x = c → List.Sublist (d.drop (i + 1)) (l.drop (k + 1))) ∧ ((∀ x, d[i]? = some x → x ≠ c) → List.Sublist (d.drop i) (l.drop (k + 1))) := by
  have hl : l.drop k = c :: l.drop (k + 1) := by
    obtain ⟨hk, e⟩ := List.getElem?_eq_some_iff.1 hc
    rw [← e]; exact List.drop_eq_getElem_cons hk
  rw [hl] at h
  refine ⟨fun x hx _ => ?_, fun hn => ?_⟩
  · obtain ⟨hi, e⟩ := List.getElem?_eq_some_iff.1 hx
    rw [List.drop_eq_getElem_cons hi] at h
    exact List.Sublist.tail h |>.trans (by simp) 
  · cases hd : d.drop i with
    | nil => exact List.nil_sublist _
    | cons x r =>
      rw [hd] at h
      cases h with
      | cons _ h => exact h
      | cons_cons _ h =>
        exact absurd rfl (hn c (by
          have := List.getElem?_drop (xs := d) (i := i) (j := 0)
          rw [hd] at this
          simpa using this.symm))
theorem sub_end {d l : List Cl} {i : Nat} (h : List.Sublist (d.drop i) (l.drop l.length)) (hi : i ≤ d.length) : i = d.length := by
  rw [List.drop_length] at h
  have := h.length_le
  simp at this
  omega
end Go.Proofs.Ytohamjoiohfoiaa
