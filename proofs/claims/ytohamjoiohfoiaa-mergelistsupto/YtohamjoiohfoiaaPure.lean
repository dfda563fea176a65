/-
  Lists of cells in order: what is told group by group is what the twin tells cell by cell.
-/
import Derived.Test.YtohamjoiohfoiaaDrp
import Derived.Test.YtohamjoiohfoiaaRDrp
namespace Go.Proofs.Ytohamjoiohfoiaa
theorem bytesLess_trans : ∀ {a b c : List UInt8}, Op.bytesLess a b = true → Op.bytesLess b c = true → Op.bytesLess a c = true
  | _, _, [], _, h => by simp [Op.bytesLess] at h
  | [], _, _ :: _, _, _ => by simp [Op.bytesLess]
  | _ :: _, [], _ :: _, h, _ => by simp [Op.bytesLess] at h
  | x :: a, y :: b, z :: c, h1, h2 => by
    simp only [Op.bytesLess, Bool.or_eq_true, decide_eq_true_eq, Bool.and_eq_true, beq_iff_eq] at h1 h2 ⊢
    rcases h1 with h1 | ⟨rfl, h1⟩
    · rcases h2 with h2 | ⟨rfl, h2⟩
      · exact Or.inl (UInt8.lt_trans h1 h2)
      · exact Or.inl h1
    · rcases h2 with h2 | ⟨rfl, h2⟩
      · exact Or.inl h2
      · exact Or.inr ⟨rfl, bytesLess_trans h1 h2⟩
theorem tw_stop {p : Cl → Bool} : ∀ {l : List Cl} {y : Cl}, l[(l.takeWhile p).length]? = some y → p y = false
  | [], y, h => by simp at h
  | a :: l, y, h => by
    by_cases ha : p a = true
    · rw [List.takeWhile_cons, if_pos ha, List.length_cons, List.getElem?_cons_succ] at h
      exact tw_stop h
    · rw [List.takeWhile_cons, if_neg ha] at h
      simp at h
      subst h
      simpa using ha
theorem less_key {a b : Cl} (h : lessC a b = true) : a.key.toList = b.key.toList ∨ Op.bytesLess a.key.toList b.key.toList = true := by
  unfold lessC at h
  split at h
  · rename_i e
    exact Or.inl (by simpa using e)
  · exact Or.inr h
/-- Keys rise along a list in order. -/
theorem keys_rise {l : List Cl} (hs : sortedC l = true) : ∀ (d i : Nat) {x y : Cl}, l[i]? = some x → l[i + d]? = some y → x.key.toList = y.key.toList ∨ Op.bytesLess x.key.toList y.key.toList = true
  | 0, i, x, y, hx, hy => by
    rw [Nat.add_zero, hx] at hy
    cases hy
    exact Or.inl rfl
  | d + 1, i, x, y, hx, hy => by
    have hlt : i + d < l.length := by have := (List.getElem?_eq_some_iff.1 hy).1; omega
    have hz : l[i + d]? = some l[i + d] := List.getElem?_eq_getElem hlt
    have h1 := keys_rise hs d i hx hz
    have h2 := less_key (sortedC_adj hs hz (by rw [Nat.add_assoc]; exact hy))
    rcases h1 with h1 | h1
    · rw [h1]; exact h2
    · rcases h2 with h2 | h2
      · rw [← h2]; exact Or.inr h1
      · exact Or.inr (bytesLess_trans h1 h2)
/-- A place at which a key begins. -/
def Begins (l : List Cl) (k : Nat) : Prop := ∀ i x y, i < k → l[i]? = some x → l[k]? = some y → sameK x y = false
theorem begins_zero (l : List Cl) : Begins l 0 := fun i _ _ h => by omega
theorem begins_next {l : List Cl} (hs : sortedC l = true) {k : Nat} (hk : k < l.length) : Begins l (k + runN (l.drop k)) := by
  intro i x y hi hx hy
  obtain ⟨c, hc⟩ : ∃ c, l[k]? = some c := ⟨l[k], List.getElem?_eq_getElem hk⟩
  have hc0 : (l.drop k)[0]? = some c := by rw [List.getElem?_drop]; exact hc
  have hne : l.drop k ≠ [] := by intro e; rw [e] at hc0; simp at hc0
  have hp := runN_pos hne
  obtain ⟨r, hr⟩ : ∃ r, runN (l.drop k) = r := ⟨_, rfl⟩
  rw [hr] at hi hy hp
  -- the last of the run has another key than what follows
  have hyc : sameK y c = false := by
    cases h : sameK y c with
    | false => rfl
    | true =>
      have : runN (l.drop k) ≠ r := by
        cases hl : l.drop k with
        | nil => exact absurd hl hne
        | cons a l' =>
          rw [hl] at hc0
          simp at hc0
          subst hc0
          intro e
          have hlen : ((a :: l').takeWhile (fun x => sameK x a)).length = r := e
          have hat : (a :: l')[r]? = some y := by rw [← hl, List.getElem?_drop]; exact hy
          have := tw_stop (p := fun x => sameK x a) (l := a :: l') (by rw [hlen]; exact hat)
          rw [h] at this
          cases this
      exact absurd hr this
  have hlast : l[k + (r - 1)]? = some (l[k + (r - 1)]'(by have := (List.getElem?_eq_some_iff.1 hy).1; omega)) := List.getElem?_eq_getElem _
  have hlc := run_key hc0 (j := r - 1) (by omega) (by rw [List.getElem?_drop]; exact hlast)
  have e1 := sameK_eq hlc
  have hlt : Op.bytesLess c.key.toList y.key.toList = true := by
    have := keys_rise hs r k hc hy
    rcases this with e | e
    · have : sameK y c = true := by simp [sameK, e]
      rw [hyc] at this
      cases this
    · exact e
  cases h : sameK x y with
  | false => rfl
  | true =>
    have exy := sameK_eq h
    by_cases hik : i ≤ k
    · have h2 := keys_rise hs (k - i) i hx (by rw [Nat.add_sub_cancel' hik]; exact hc)
      rcases h2 with e | e
      · rw [← e, exy, bytesLess_irrefl] at hlt
        cases hlt
      · have := bytesLess_trans e hlt
        rw [exy, bytesLess_irrefl] at this
        cases this
    · have h2 := run_key hc0 (j := i - k) (by omega) (by rw [List.getElem?_drop, Nat.add_sub_cancel' (by omega)]; exact hx)
      have e2 := sameK_eq h2
      rw [← e2, exy, bytesLess_irrefl] at hlt
      cases hlt
theorem cut_of {l : List Cl} {k r j : Nat} {c : Cl} (hj : j < r) (h : l[k + j]? = some c) : (cutL l (k, r))[j]? = some c := by
  unfold cutL
  rw [List.getElem?_take, if_pos hj, List.getElem?_drop]
  exact h
/-- The first of a key up to a moment is the newest one. -/
theorem fst_at {l : List Cl} {k j seq : Nat} {c : Cl} (hb : Begins l k) (hj : j < runN (l.drop k)) (hc : l[k + j]? = some c) : fstB seq (l.take (k + j)) c = decide (j = newN (cutL l (k, runN (l.drop k))) seq) := by
  obtain ⟨r, hr⟩ : ∃ r, runN (l.drop k) = r := ⟨_, rfl⟩
  rw [hr] at hj ⊢
  obtain ⟨n, hn⟩ : ∃ n, newN (cutL l (k, r)) seq = n := ⟨_, rfl⟩
  rw [hn]
  have hk : k < l.length := by have := (List.getElem?_eq_some_iff.1 hc).1; omega
  obtain ⟨c0, hc0⟩ : ∃ c0, l[k]? = some c0 := ⟨l[k], List.getElem?_eq_getElem hk⟩
  have hd0 : (l.drop k)[0]? = some c0 := by rw [List.getElem?_drop]; exact hc0
  have key : ∀ {i x}, i < r → l[k + i]? = some x → x.key.toList = c0.key.toList := fun {i x} hi hx => sameK_eq (run_key hd0 (j := i) (by omega) (by rw [List.getElem?_drop]; exact hx))
  have hcv := cut_of hj hc
  have below : ∀ {i x}, i < n → l[k + i]? = some x → ¬ x.seq ≤ seq := fun {i x} hi hx => by
    have hir : i < r := by
      have : n ≤ (cutL l (k, r)).length := by rw [← hn]; exact (List.takeWhile_prefix _).length_le
      have : (cutL l (k, r)).length ≤ r := by unfold cutL; simp; omega
      omega
    have := tw_at (p := fun c => !decide (c.seq ≤ seq)) (l := cutL l (k, r)) (j := i) (by show i < newN _ _; omega) (cut_of hir hx)
    simpa using this
  have atn : ∀ {x}, n < r → l[k + n]? = some x → x.seq ≤ seq := fun {x} hnr hx => by
    have := tw_stop (p := fun c => !decide (c.seq ≤ seq)) (l := cutL l (k, r)) (y := x) (by
      show (cutL l (k, r))[newN (cutL l (k, r)) seq]? = some x
      rw [hn]; exact cut_of hnr hx)
    simpa using this
  unfold fstB
  by_cases h1 : j < n
  · rw [decide_eq_false (below h1 hc), decide_eq_false (show ¬ j = n by omega), Bool.false_and]
  · by_cases h2 : j = n
    · subst h2
      rw [decide_eq_true (atn hj hc), decide_eq_true rfl, Bool.true_and, List.all_eq_true]
      intro d hd
      obtain ⟨i, hi⟩ := List.mem_iff_getElem?.1 hd
      rw [List.getElem?_take] at hi
      split at hi
      · rename_i hik
        by_cases hlt : i < k
        · have h3 := hb i d c0 hlt hi hc0
          have : sameK d c = false := by
            unfold sameK at h3 ⊢
            rw [key hj hc]
            exact h3
          simp [this]
        · obtain ⟨i', rfl⟩ : ∃ i', i = k + i' := ⟨i - k, by omega⟩
          have := below (i := i') (by omega) hi
          simp [this]
      · cases hi
    · rw [decide_eq_false h2]
      have hnr : n < r := by omega
      obtain ⟨d, hd⟩ : ∃ d, l[k + n]? = some d := ⟨l[k + n]'(by have := (List.getElem?_eq_some_iff.1 hc).1; omega), List.getElem?_eq_getElem _⟩
      have hall : (l.take (k + j)).all (fun d => !(sameK d c && decide (d.seq ≤ seq))) = false := by
        rw [List.all_eq_false]
        refine ⟨d, List.mem_iff_getElem?.2 ⟨k + n, by rw [List.getElem?_take, if_pos (by omega)]; exact hd⟩, ?_⟩
        have e1 : sameK d c = true := by unfold sameK; rw [key hnr hd, key hj hc]; simp
        simp [e1, atn hnr hd]
      rw [hall, Bool.and_false]
/-- One key's versions, cell by cell. -/
theorem rv_group {l : List Cl} {k seq : Nat} (hb : Begins l k) (hk : k < l.length) : ∀ j, j ≤ runN (l.drop k) → rvTo l seq (k + j) = rvTo l seq k ++ if newN (cutL l (k, runN (l.drop k))) seq < j then pickV (cutL l (k, runN (l.drop k))) seq else []
  | 0, _ => by rw [if_neg (by omega)]; simp
  | j + 1, hj => by
    have ih := rv_group (seq := seq) hb hk j (by omega)
    have hr := runN_le (l.drop k)
    simp at hr
    obtain ⟨c, hc⟩ : ∃ c, l[k + j]? = some c := ⟨l[k + j]'(by omega), List.getElem?_eq_getElem _⟩
    rw [← Nat.add_assoc, rvTo_succ hc, ih, fst_at hb (by omega) hc]
    have hcv := cut_of (r := runN (l.drop k)) (show j < runN (l.drop k) by omega) hc
    generalize hn : newN (cutL l (k, runN (l.drop k))) seq = n
    by_cases h1 : j = n
    · rw [decide_eq_true h1, if_neg (by omega), if_pos (show n < j + 1 by omega), List.append_nil]
      congr 1
      unfold pickV
      rw [hn, ← h1, hcv]
      cases hg : c.gone <;> simp [hg]
    · rw [decide_eq_false h1]
      by_cases h2 : n < j
      · rw [if_pos h2, if_pos (show n < j + 1 by omega)]; simp
      · rw [if_neg h2, if_neg (show ¬ n < j + 1 by omega)]; simp
theorem new_le (vs : List Cl) (seq : Nat) : newN vs seq ≤ vs.length := (List.takeWhile_prefix _).length_le
theorem cut_len {l : List Cl} {k : Nat} : (cutL l (k, runN (l.drop k))).length = runN (l.drop k) := by
  have hr := runN_le (l.drop k)
  unfold cutL
  simp at hr ⊢
  omega
theorem rv_run {l : List Cl} {k seq : Nat} (hb : Begins l k) (hk : k < l.length) : rvTo l seq (k + runN (l.drop k)) = rvTo l seq k ++ pickV (cutL l (k, runN (l.drop k))) seq := by
  rw [rv_group hb hk _ (Nat.le_refl _)]
  split
  · rfl
  · rename_i h
    have : pickV (cutL l (k, runN (l.drop k))) seq = [] := by
      unfold pickV
      rw [List.getElem?_eq_none (by rw [cut_len]; omega)]
    rw [this]
theorem rv_all {l : List Cl} (hs : sortedC l = true) (seq : Nat) : ∀ g k, k ≤ l.length → l.length < k + g → Begins l k → rvTo l seq l.length = rvTo l seq k ++ visP l seq (grps l g k)
  | 0, k, h1, h2, _ => by omega
  | g + 1, k, h1, h2, hb => by
    rw [grps]
    split
    · rename_i hk
      have hp := runN_pos (l := l.drop k) (by intro e; have := congrArg List.length e; simp at this; omega)
      have hr := runN_le (l.drop k)
      simp at hr
      rw [rv_all hs seq g (k + runN (l.drop k)) (by omega) (by omega) (begins_next hs hk), rv_run hb hk, List.append_assoc]
      rfl
    · obtain rfl : k = l.length := by omega
      simp [visP]
theorem visible_same {l : List Cl} (hs : sortedC l = true) (seq : Nat) : visP l seq (allG l) = rvTo l seq l.length := by
  have := rv_all hs seq (l.length + 1) 0 (Nat.zero_le _) (by omega) (begins_zero l)
  rw [this]
  unfold allG
  rw [if_pos hs]
  simp [rvTo]
def tailD (vs : List Cl) (seq : Nat) (bt : Bool) : List Cl := match vs[newN vs seq]? with
  | some c => if bt && c.gone then [] else [c]
  | none => []
theorem rd_group {l : List Cl} (hs : sortedC l = true) {k seq : Nat} {bt : Bool} (hb : Begins l k) (hk : k < l.length) : ∀ j, j ≤ runN (l.drop k) → rdTo l seq bt (k + j) = rdTo l seq bt k ++ ((cutL l (k, runN (l.drop k))).take (min j (newN (cutL l (k, runN (l.drop k))) seq)) ++ if newN (cutL l (k, runN (l.drop k))) seq < j then tailD (cutL l (k, runN (l.drop k))) seq bt else [])
  | 0, _ => by simp
  | j + 1, hj => by
    have ih := rd_group hs (seq := seq) (bt := bt) hb hk j (by omega)
    have hr := runN_le (l.drop k)
    simp at hr
    obtain ⟨c, hc⟩ : ∃ c, l[k + j]? = some c := ⟨l[k + j]'(by omega), List.getElem?_eq_getElem _⟩
    rw [← Nat.add_assoc, rdTo_succ hc, ih, fst_at hb (by omega) hc]
    have hcv := cut_of (r := runN (l.drop k)) (show j < runN (l.drop k) by omega) hc
    have hfa := falls_of hs (k := k) (r := runN (l.drop k)) (Nat.le_refl _)
    have hnl := new_le (cutL l (k, runN (l.drop k))) seq
    rw [cut_len] at hnl
    have below : j < newN (cutL l (k, runN (l.drop k))) seq → seq < c.seq := fun h => by
      have := tw_at (p := fun c => !decide (c.seq ≤ seq)) (l := cutL l (k, runN (l.drop k))) (j := j) h hcv
      simp at this
      omega
    have above : newN (cutL l (k, runN (l.drop k))) seq ≤ j → c.seq ≤ seq := fun h => by
      obtain ⟨d, hd⟩ : ∃ d, (cutL l (k, runN (l.drop k)))[newN (cutL l (k, runN (l.drop k))) seq]? = some d := ⟨_, List.getElem?_eq_getElem (by rw [cut_len]; omega)⟩
      have h1 := tw_stop (p := fun c => !decide (c.seq ≤ seq)) (l := cutL l (k, runN (l.drop k))) (y := d) hd
      have h2 := hfa _ _ d c h hd hcv
      simp at h1
      omega
    generalize hn : newN (cutL l (k, runN (l.drop k))) seq = n at *
    rw [List.append_assoc]
    congr 1
    by_cases h1 : j < n
    · have e1 := below h1
      rw [decide_eq_true e1, if_neg (show ¬ n < j by omega), if_neg (show ¬ n < j + 1 by omega), List.append_nil, List.append_nil, Bool.true_or, if_pos rfl, Nat.min_eq_left (by omega), Nat.min_eq_left (by omega), List.take_add_one, hcv]
      rfl
    · have e1 := above (by omega)
      rw [decide_eq_false (show ¬ seq < c.seq by omega), Bool.false_or, Nat.min_eq_right (by omega), Nat.min_eq_right (by omega)]
      by_cases h2 : j = n
      · rw [decide_eq_true h2, if_neg (show ¬ n < j by omega), if_pos (show n < j + 1 by omega), List.append_nil, Bool.true_and]
        congr 1
        unfold tailD
        rw [hn, ← h2, hcv]
        cases hg : (bt && c.gone) <;> simp [hg]
      · rw [decide_eq_false h2, if_pos (show n < j by omega), if_pos (show n < j + 1 by omega), Bool.false_and]
        simp
theorem rd_run {l : List Cl} (hs : sortedC l = true) {k seq : Nat} {bt : Bool} (hb : Begins l k) (hk : k < l.length) : rdTo l seq bt (k + runN (l.drop k)) = rdTo l seq bt k ++ pickD (cutL l (k, runN (l.drop k))) seq bt := by
  rw [rd_group hs hb hk _ (Nat.le_refl _)]
  congr 1
  have hnl := new_le (cutL l (k, runN (l.drop k))) seq
  rw [cut_len] at hnl
  unfold pickD
  rw [Nat.min_eq_right hnl]
  congr 1
  split
  · rfl
  · rename_i h
    rw [List.getElem?_eq_none (by rw [cut_len]; omega)]
theorem rd_all {l : List Cl} (hs : sortedC l = true) (seq : Nat) (bt : Bool) : ∀ g k, k ≤ l.length → l.length < k + g → Begins l k → rdTo l seq bt l.length = rdTo l seq bt k ++ drpP l seq bt (grps l g k)
  | 0, k, h1, h2, _ => by omega
  | g + 1, k, h1, h2, hb => by
    rw [grps]
    split
    · rename_i hk
      have hp := runN_pos (l := l.drop k) (by intro e; have := congrArg List.length e; simp at this; omega)
      have hr := runN_le (l.drop k)
      simp at hr
      rw [rd_all hs seq bt g (k + runN (l.drop k)) (by omega) (by omega) (begins_next hs hk), rd_run hs hb hk, List.append_assoc]
      rfl
    · obtain rfl : k = l.length := by omega
      simp [drpP]
theorem drop_same {l : List Cl} (hs : sortedC l = true) (seq : Nat) (bt : Bool) : drpP l seq bt (allG l) = rdTo l seq bt l.length := by
  have := rd_all hs seq bt (l.length + 1) 0 (Nat.zero_le _) (by omega) (begins_zero l)
  rw [this]
  unfold allG
  rw [if_pos hs]
  simp [rdTo]
end Go.Proofs.Ytohamjoiohfoiaa
