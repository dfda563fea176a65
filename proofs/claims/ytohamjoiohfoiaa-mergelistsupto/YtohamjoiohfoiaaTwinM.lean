/-
  Merge and its twin tell the same of at most three lists.
-/
import Derived.Test.YtohamjoiohfoiaaHeap4
import Derived.Test.YtohamjoiohfoiaaRMerge
import Derived.Test.YtohamjoiohfoiaaApp
namespace Go.Proofs.Ytohamjoiohfoiaa
theorem ins_sorted {l : List Cl} {c : Cl} (h : l.Pairwise (fun a b => lessC a b = true)) : (insC l c).Pairwise (fun a b => lessC a b = true) ∧ ∀ d, d ∈ insC l c ↔ (d ∈ l ∨ (d = c ∧ ∀ e ∈ l, ¬ alike e c)) := by
  obtain ⟨k, hk⟩ : ∃ k, aheadN l c = k := ⟨_, rfl⟩
  have hkl : k ≤ l.length := by rw [← hk]; exact ahead_le l c
  have hbef : ∀ x ∈ l.take k, lessC x c = true := fun x hx => by
    have : l.take k = l.takeWhile (fun x => lessC x c) := by
      rw [← hk]
      exact List.prefix_iff_eq_take.1 (List.takeWhile_prefix _) |>.symm
    rw [this] at hx
    have := List.all_takeWhile (p := fun x => lessC x c) (l := l)
    rw [List.all_eq_true] at this
    exact this x hx
  have hsplit : l = l.take k ++ l.drop k := (List.take_append_drop k l).symm
  have hnot : ∀ {e : Cl}, lessC e c = true → ¬ alike e c := fun h k => by rw [alike_not k] at h; cases h
  cases hx : l[k]? with
  | none =>
    have hlen : l.length = k := by have := List.getElem?_eq_none_iff.1 hx; omega
    have hall : ∀ x ∈ l, lessC x c = true := fun x hx => hbef x (by rw [← hlen, List.take_length]; exact hx)
    have hin : insC l c = l ++ [c] := by rw [ins_end hk hlen, ← hlen, List.take_length, List.drop_length]
    rw [hin]
    refine ⟨List.pairwise_append.2 ⟨h, by simp, fun a ha b hb => by rw [List.mem_singleton.1 hb]; exact hall a ha⟩, fun d => ?_⟩
    rw [List.mem_append, List.mem_singleton]
    constructor
    · rintro (hd | rfl)
      · exact Or.inl hd
      · exact Or.inr ⟨rfl, fun e he => hnot (hall e he)⟩
    · rintro (hd | ⟨rfl, _⟩)
      · exact Or.inl hd
      · exact Or.inr rfl
  | some x =>
    have hdrop : l.drop k = x :: l.drop (k + 1) := by
      obtain ⟨hkl, e⟩ := List.getElem?_eq_some_iff.1 hx
      rw [← e]; exact List.drop_eq_getElem_cons hkl
    have hst : lessC x c = false := tw_stop (p := fun x => lessC x c) (l := l) (y := x) (by show l[aheadN l c]? = some x; rw [hk]; exact hx)
    have hxl : x ∈ l := List.mem_of_getElem? hx
    have hpw := h
    rw [hsplit, hdrop] at hpw
    obtain ⟨hp1, hp2, hp3⟩ := List.pairwise_append.1 hpw
    cases hcx : lessC c x with
    | true =>
      rw [ins_here hk hx hcx]
      have hbeh : ∀ y ∈ l.drop k, lessC c y = true := fun y hy => by
        rw [hdrop] at hy
        rcases List.mem_cons.1 hy with rfl | hy
        · exact hcx
        · exact lessC_trans hcx (List.rel_of_pairwise_cons hp2 hy)
      refine ⟨List.pairwise_append.2 ⟨hp1, List.pairwise_cons.2 ⟨hbeh, by rw [hdrop]; exact hp2⟩, fun a ha b hb => ?_⟩, fun d => ?_⟩
      · rcases List.mem_cons.1 hb with rfl | hb
        · exact hbef a ha
        · exact lessC_trans (hbef a ha) (hbeh b hb)
      · rw [List.mem_append, List.mem_cons]
        constructor
        · rintro (hd | rfl | hd)
          · exact Or.inl (List.mem_of_mem_take hd)
          · refine Or.inr ⟨rfl, fun e he ha => ?_⟩
            rw [hsplit] at he
            rcases List.mem_append.1 he with he | he
            · exact hnot (hbef e he) ha
            · have := hbeh e he
              rw [alike_not ha.symm] at this
              cases this
          · exact Or.inl (List.mem_of_mem_drop hd)
        · rintro (hd | ⟨rfl, _⟩)
          · rw [hsplit] at hd
            rcases List.mem_append.1 hd with hd | hd
            · exact Or.inl hd
            · exact Or.inr (Or.inr hd)
          · exact Or.inr (Or.inl rfl)
    | false =>
      rw [ins_there hk hx hcx]
      have hal : alike x c := by
        rcases lessC_tri x c with k | k | k
        · rw [hst] at k; cases k
        · rw [hcx] at k; cases k
        · exact k
      exact ⟨h, fun d => ⟨fun hd => Or.inl hd, fun hd => by
        rcases hd with hd | ⟨rfl, hno⟩
        · exact hd
        · exact absurd hal (hno x hxl)⟩⟩
theorem fold_set : ∀ (s o : List Cl), s.Pairwise (fun a b => lessC a b = true) → o.Pairwise (fun a b => lessC a b = true) → (s.foldl insC o).Pairwise (fun a b => lessC a b = true) ∧ ∀ d, d ∈ s.foldl insC o ↔ (d ∈ o ∨ (d ∈ s ∧ ∀ e ∈ o, ¬ alike e d))
  | [], o, _, ho => ⟨ho, fun d => by simp⟩
  | c :: s, o, hs, ho => by
    obtain ⟨k1, k2⟩ := ins_sorted (c := c) ho
    obtain ⟨h1, h2⟩ := fold_set s (insC o c) (List.Pairwise.of_cons hs) k1
    refine ⟨h1, fun d => ?_⟩
    rw [List.foldl_cons, h2 d, k2 d]
    constructor
    · rintro ((hd | ⟨rfl, hno⟩) | ⟨hd, hno⟩)
      · exact Or.inl hd
      · exact Or.inr ⟨by simp, hno⟩
      · exact Or.inr ⟨by simp [hd], fun e he => hno e ((k2 e).2 (Or.inl he))⟩
    · rintro (hd | ⟨hd, hno⟩)
      · exact Or.inl (Or.inl hd)
      · rcases List.mem_cons.1 hd with rfl | hd2
        · exact Or.inl (Or.inr ⟨rfl, hno⟩)
        · refine Or.inr ⟨hd2, fun e he ha => ?_⟩
          rcases (k2 e).1 he with he | ⟨rfl, _⟩
          · exact hno e he ha
          · have := List.rel_of_pairwise_cons hs hd2
            rw [alike_not ha] at this
            cases this
/-- Of what stands in some list one alike is chosen. -/
theorem chosen_some (L : List (List Cl)) : ∀ (m : Nat) (s : List Cl) (e : Cl), L[m]? = some s → e ∈ s → ∃ x, Chosen L x ∧ alike x e := by
  intro m
  induction m using Nat.strongRecOn with
  | ind m ih =>
    intro s e hs he
    by_cases hex : ∃ (m' : Nat) (s' : List Cl) (e' : Cl), L[m']? = some s' ∧ e' ∈ s' ∧ m' < m ∧ alike e' e
    · obtain ⟨m', s', e', h1, h2, h3, h4⟩ := hex
      obtain ⟨x, hx, hxa⟩ := ih m' h3 s' e' h1 h2
      exact ⟨x, hx, hxa.trans h4⟩
    · exact ⟨e, ⟨m, s, hs, he, fun m' s' e' h1 h2 h3 h4 => hex ⟨m', s', e', h1, h2, h3, h4⟩⟩, ⟨rfl, rfl⟩⟩
theorem chosen_snoc (L : List (List Cl)) (s : List Cl) (d : Cl) : Chosen (L ++ [s]) d ↔ (Chosen L d ∨ (d ∈ s ∧ ∀ e, Chosen L e → ¬ alike e d)) := by
  have low : ∀ {i : Nat} {x : List Cl}, i < L.length → ((L ++ [s])[i]? = some x ↔ L[i]? = some x) := fun {i x} hi => by rw [List.getElem?_append_left hi]
  constructor
  · rintro ⟨n, t, h1, h2, hno⟩
    by_cases hn : n < L.length
    · exact Or.inl ⟨n, t, (low hn).1 h1, h2, fun m s' e h3 h4 h5 => hno m s' e ((low (by omega)).2 h3) h4 h5⟩
    · have : n = L.length := by have := (List.getElem?_eq_some_iff.1 h1).1; simp at this; omega
      subst this
      simp at h1
      subst h1
      refine Or.inr ⟨h2, fun e ⟨m, s', h3, h4, _⟩ ha => ?_⟩
      have hm := (List.getElem?_eq_some_iff.1 h3).1
      exact hno m s' e ((low hm).2 h3) h4 hm ha
  · rintro (⟨n, t, h1, h2, hno⟩ | ⟨hd, hno⟩)
    · have hn := (List.getElem?_eq_some_iff.1 h1).1
      exact ⟨n, t, (low hn).2 h1, h2, fun m s' e h3 h4 h5 => hno m s' e ((low (by omega)).1 h3) h4 h5⟩
    · refine ⟨L.length, s, by simp, hd, fun m s' e h3 h4 h5 ha => ?_⟩
      obtain ⟨x, hx, hxa⟩ := chosen_some L m s' e ((low h5).1 h3) h4
      exact hno x hx (hxa.trans ha)
theorem lay_chosen : ∀ (L : List (List Cl)), (∀ s ∈ L, sortedC s = true) → (layC L.flatten).Pairwise (fun a b => lessC a b = true) ∧ ∀ d, d ∈ layC L.flatten ↔ Chosen L d := by
  intro L
  induction hn : L.length generalizing L with
  | zero =>
    obtain rfl := List.length_eq_zero_iff.1 hn
    exact fun _ => ⟨List.Pairwise.nil, fun d => ⟨fun h => by simp [layC] at h, fun ⟨i, s, h, _⟩ => by simp at h⟩⟩
  | succ n ih =>
    intro hs
    obtain ⟨M, s, rfl⟩ : ∃ M s, L = M ++ [s] := ⟨L.dropLast, L.getLast (by rintro rfl; simp at hn), (List.dropLast_concat_getLast _).symm⟩
    obtain ⟨h1, h2⟩ := ih M (by simpa using hn) (fun t ht => hs t (by simp [ht]))
    have hl : layC ((M ++ [s]).flatten) = s.foldl insC (layC M.flatten) := by simp [layC, List.foldl_append]
    rw [hl]
    obtain ⟨k1, k2⟩ := fold_set s (layC M.flatten) (sorted_pair (hs s (by simp))) h1
    refine ⟨k1, fun d => ?_⟩
    rw [k2 d, chosen_snoc, h2 d]
    constructor
    · rintro (h | ⟨h, g⟩)
      · exact Or.inl h
      · exact Or.inr ⟨h, fun e he => g e ((h2 e).2 he)⟩
    · rintro (h | ⟨h, g⟩)
      · exact Or.inl h
      · exact Or.inr ⟨h, fun e he => g e ((h2 e).1 he)⟩
theorem allS_each {ls : List Sl} (h : allS ls = true) : ∀ s ∈ ls.map Sl.cs, sortedC s = true := fun s hs => by
  obtain ⟨q, hq, rfl⟩ := List.mem_map.1 hs
  rw [allS, List.all_eq_true] at h
  exact h q hq
theorem merge_same (ls : List Sl) (h3 : ls.length ≤ 3) : mergeQ ls = mergeP ls := by
  unfold mergeQ mergeP
  split
  · rename_i hs
    obtain ⟨h1, h2⟩ := lay_chosen _ (allS_each hs)
    obtain ⟨k1, k2⟩ := outM_set ls h3 hs
    exact sorted_ext h1 k1 (fun d => (h2 d).trans (k2 d).symm)
  · rfl
end Go.Proofs.Ytohamjoiohfoiaa
