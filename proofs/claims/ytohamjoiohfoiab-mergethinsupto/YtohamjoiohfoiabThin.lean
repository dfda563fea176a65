/-
  A list that was thinned out, merged with another one, shows the same.
-/
import Derived.Test.YtohamjoiohfoiabCalls
namespace Go.Proofs.Ytohamjoiohfoiab
/-- The newest one of its key up to a moment. -/
def Newest (L : List Cl) (d : Cl) (s : Nat) : Prop := d.seq ≤ s ∧ ∀ e ∈ L, sameK e d = true → e.seq ≤ s → e.seq ≤ d.seq
theorem sameK_symm {a b : Cl} (h : sameK a b = true) : sameK b a = true := by have := sameK_eq h; simp [sameK, this]
theorem sameK_trans {a b c : Cl} (h : sameK a b = true) (k : sameK b c = true) : sameK a c = true := by have := sameK_eq h; have := sameK_eq k; simp [sameK, *]
theorem fst_newest {s : Nat} {pre l : List Cl} {c : Cl} (ho : Olds (pre ++ c :: l)) : fstB s pre c = true ↔ Newest (pre ++ c :: l) c s := by
  obtain ⟨_, h2, h3⟩ := List.pairwise_append.1 ho
  constructor
  · intro h
    unfold fstB at h
    rw [Bool.and_eq_true, decide_eq_true_eq, List.all_eq_true] at h
    refine ⟨h.1, fun e he hk hs => ?_⟩
    rcases List.mem_append.1 he with he | he
    · have := h.2 e he
      simp [hk, hs] at this
    · rcases List.mem_cons.1 he with rfl | he
      · exact Nat.le_refl _
      · have := List.rel_of_pairwise_cons h2 he (sameK_symm hk)
        omega
  · rintro ⟨h1, h4⟩
    unfold fstB
    rw [Bool.and_eq_true, decide_eq_true_eq, List.all_eq_true]
    refine ⟨h1, fun e he => ?_⟩
    cases hk : sameK e c with
    | false => rfl
    | true =>
      by_cases hs : e.seq ≤ s
      · have g1 := h4 e (List.mem_append_left _ he) hk hs
        have g2 := h3 e he c (by simp) hk
        omega
      · simp [hs]
theorem seen_mem (s : Nat) : ∀ (l pre : List Cl), Olds (pre ++ l) → ∀ d, d ∈ seenB s pre l ↔ (d ∈ l ∧ Newest (pre ++ l) d s ∧ d.gone = false)
  | [], pre, _, d => by simp [seenB]
  | c :: l, pre, ho, d => by
    have ho2 : Olds ((pre ++ [c]) ++ l) := by rw [List.append_assoc]; exact ho
    have ih := seen_mem s l (pre ++ [c]) ho2 d
    rw [List.append_assoc] at ih
    have hcl : ∀ e ∈ l, e ≠ c := fun e he h => by
      obtain ⟨_, h2, _⟩ := List.pairwise_append.1 ho
      have := List.rel_of_pairwise_cons h2 he (by rw [h]; exact sameK_refl c)
      rw [h] at this
      omega
    rw [seenB, List.mem_append, ih]
    constructor
    · rintro (h | h)
      · split at h
        · rename_i hf
          rw [Bool.and_eq_true] at hf
          rw [List.mem_singleton.1 h]
          exact ⟨by simp, (fst_newest ho).1 hf.1, by simpa using hf.2⟩
        · simp at h
      · exact ⟨by simp [h.1], h.2⟩
    · rintro ⟨h1, h2, h3⟩
      rcases List.mem_cons.1 h1 with rfl | h1
      · left
        rw [(fst_newest ho).2 h2, h3]
        simp
      · exact Or.inr ⟨h1, h2, h3⟩
theorem kept_mem (o : Nat) : ∀ (l pre : List Cl), Olds (pre ++ l) → ∀ d, d ∈ keptB o false pre l ↔ (d ∈ l ∧ (o < d.seq ∨ Newest (pre ++ l) d o))
  | [], pre, _, d => by simp [keptB]
  | c :: l, pre, ho, d => by
    have ho2 : Olds ((pre ++ [c]) ++ l) := by rw [List.append_assoc]; exact ho
    have ih := kept_mem o l (pre ++ [c]) ho2 d
    rw [List.append_assoc] at ih
    rw [keptB, List.mem_append, ih]
    constructor
    · rintro (h | h)
      · split at h
        · rename_i hf
          rw [List.mem_singleton.1 h]
          refine ⟨by simp, ?_⟩
          simp only [Bool.false_and, Bool.not_false, Bool.and_true, Bool.or_eq_true, decide_eq_true_eq] at hf
          rcases hf with hf | hf
          · exact Or.inl hf
          · exact Or.inr ((fst_newest ho).1 hf)
        · simp at h
      · exact ⟨by simp [h.1], h.2⟩
    · rintro ⟨h1, h2⟩
      rcases List.mem_cons.1 h1 with rfl | h1
      · left
        rw [if_pos]
        · simp
        · simp only [Bool.false_and, Bool.not_false, Bool.and_true, Bool.or_eq_true, decide_eq_true_eq]
          rcases h2 with h2 | h2
          · exact Or.inl h2
          · exact Or.inr ((fst_newest ho).2 h2)
      · exact Or.inr ⟨h1, h2⟩
theorem newest_some {L : List Cl} {o : Nat} : ∀ (g : Nat) (x : Cl), o - x.seq ≤ g → x ∈ L → x.seq ≤ o → ∃ f ∈ L, sameK f x = true ∧ Newest L f o ∧ x.seq ≤ f.seq
  | 0, x, hg, hx, hs => ⟨x, hx, sameK_refl x, ⟨hs, fun e _ _ he => by omega⟩, Nat.le_refl _⟩
  | g + 1, x, hg, hx, hs => by
    by_cases hex : ∃ e ∈ L, sameK e x = true ∧ e.seq ≤ o ∧ x.seq < e.seq
    · obtain ⟨e, he, hk, heo, hlt⟩ := hex
      obtain ⟨f, hf, hfk, hfn, hfs⟩ := newest_some g e (by omega) he heo
      exact ⟨f, hf, sameK_trans hfk hk, hfn, by omega⟩
    · refine ⟨x, hx, sameK_refl x, ⟨hs, fun e he hk heo => ?_⟩, Nat.le_refl _⟩
      by_cases hlt : x.seq < e.seq
      · exact absurd ⟨e, he, hk, heo, hlt⟩ hex
      · omega
theorem vis_mem {L : List Cl} (h : sortedC L = true) (s : Nat) (d : Cl) : d ∈ visA L s ↔ (d ∈ L ∧ Newest L d s ∧ d.gone = false) := by
  rw [visA_eq h]
  exact seen_mem s L [] (olds_of h) d
theorem drp_mem {L : List Cl} (h : sortedC L = true) (o : Nat) (d : Cl) : d ∈ drpA L o false ↔ (d ∈ L ∧ (o < d.seq ∨ Newest L d o)) := by
  rw [drpA_eq h]
  exact kept_mem o L [] (olds_of h) d
theorem seen_sub (s : Nat) : ∀ (l pre : List Cl), List.Sublist (seenB s pre l) l
  | [], _ => by simp [seenB]
  | c :: l, pre => by
    rw [seenB]
    split
    · exact (seen_sub s l _).cons_cons c
    · exact (seen_sub s l _).cons c
theorem vis_sorted {L : List Cl} (h : sortedC L = true) (s : Nat) : (visA L s).Pairwise (fun a b => lessC a b = true) := by
  rw [visA_eq h]
  exact (sorted_pair h).sublist (seen_sub s L [])
theorem alike_same {a b : Cl} (h : alike a b) : sameK a b = true := by simp [sameK, h.1]
theorem thin_same {l m : List Cl} (hl : sortedC l = true) (hm : sortedC m = true) (o s : Nat) (hos : o ≤ s) : visA (mP [drpA l o false, m]) s = visA (mP [l, m]) s := by
  have hd := drpA_sorted hl o false
  have hM := mP_sorted [l, m]
  have hN := mP_sorted [drpA l o false, m]
  have memM : ∀ e, e ∈ mP [l, m] ↔ (e ∈ l ∨ (e ∈ m ∧ ∀ x ∈ l, ¬ alike x e)) := fun e => by rw [mP_mem (two1 hl hm), chosen_two]
  have memN : ∀ e, e ∈ mP [drpA l o false, m] ↔ (e ∈ drpA l o false ∨ (e ∈ m ∧ ∀ x ∈ drpA l o false, ¬ alike x e)) := fun e => by rw [mP_mem (two1 hd hm), chosen_two]
  have dl : ∀ e, e ∈ drpA l o false → e ∈ l := fun e he => ((drp_mem hl o e).1 he).1
  -- what was let go has a newer one that was kept
  have gone : ∀ x ∈ l, x ∉ drpA l o false → ∃ f ∈ drpA l o false, sameK f x = true ∧ f.seq ≤ o ∧ x.seq < f.seq := fun x hx hn => by
    have hxo : x.seq ≤ o := by
      by_cases h : o < x.seq
      · exact absurd ((drp_mem hl o x).2 ⟨hx, Or.inl h⟩) hn
      · omega
    obtain ⟨f, hf, hk, hfn, hfs⟩ := newest_some (o - x.seq) x (Nat.le_refl _) hx hxo
    have hfd := (drp_mem hl o f).2 ⟨hf, Or.inr hfn⟩
    refine ⟨f, hfd, hk, hfn.1, ?_⟩
    by_cases e : x.seq = f.seq
    · exfalso
      refine hn ((drp_mem hl o x).2 ⟨hx, Or.inr ⟨hxo, fun e he hke hes => ?_⟩⟩)
      have := hfn.2 e he (sameK_trans hke (sameK_symm hk)) hes
      omega
    · omega
  -- whatever stands in one has one of the same key, as new, in the other
  have up : ∀ e, e ∈ mP [l, m] → e.seq ≤ s → ∃ f ∈ mP [drpA l o false, m], sameK f e = true ∧ f.seq ≤ s ∧ e.seq ≤ f.seq := fun e he hes => by
    rcases (memM e).1 he with h | ⟨h, hno⟩
    · by_cases hin : e ∈ drpA l o false
      · exact ⟨e, (memN e).2 (Or.inl hin), sameK_refl e, hes, Nat.le_refl _⟩
      · obtain ⟨f, hf, hk, hfo, hlt⟩ := gone e h hin
        exact ⟨f, (memN f).2 (Or.inl hf), hk, by omega, by omega⟩
    · exact ⟨e, (memN e).2 (Or.inr ⟨h, fun x hx => hno x (dl x hx)⟩), sameK_refl e, hes, Nat.le_refl _⟩
  have down : ∀ e, e ∈ mP [drpA l o false, m] → e.seq ≤ s → ∃ f ∈ mP [l, m], sameK f e = true ∧ f.seq ≤ s ∧ e.seq ≤ f.seq := fun e he hes => by
    rcases (memN e).1 he with h | ⟨h, hno⟩
    · exact ⟨e, (memM e).2 (Or.inl (dl e h)), sameK_refl e, hes, Nat.le_refl _⟩
    · by_cases hex : ∃ x ∈ l, alike x e
      · obtain ⟨x, hx, hxe⟩ := hex
        exact ⟨x, (memM x).2 (Or.inl hx), alike_same hxe, by have := hxe.2; omega, by have := hxe.2; omega⟩
      · exact ⟨e, (memM e).2 (Or.inr ⟨h, fun x hx ha => hex ⟨x, hx, ha⟩⟩), sameK_refl e, hes, Nat.le_refl _⟩
  refine sorted_ext (vis_sorted hN s) (vis_sorted hM s) fun d => ?_
  rw [vis_mem hN, vis_mem hM]
  constructor
  · rintro ⟨h1, ⟨h2, h3⟩, h4⟩
    have hnew : Newest (mP [l, m]) d s := ⟨h2, fun e he hk hes => by
      obtain ⟨f, hf, hfk, hfs, hef⟩ := up e he hes
      have := h3 f hf (sameK_trans hfk hk) hfs
      omega⟩
    refine ⟨?_, hnew, h4⟩
    rcases (memN d).1 h1 with h | ⟨h, hno⟩
    · exact (memM d).2 (Or.inl (dl d h))
    · refine (memM d).2 (Or.inr ⟨h, fun x hx ha => ?_⟩)
      by_cases hin : x ∈ drpA l o false
      · exact hno x hin ha
      · obtain ⟨f, hf, hk, hfo, hlt⟩ := gone x hx hin
        have := h3 f ((memN f).2 (Or.inl hf)) (sameK_trans hk (alike_same ha)) (by omega)
        have := ha.2
        omega
  · rintro ⟨h1, ⟨h2, h3⟩, h4⟩
    have hnew : Newest (mP [drpA l o false, m]) d s := ⟨h2, fun e he hk hes => by
      obtain ⟨f, hf, hfk, hfs, hef⟩ := down e he hes
      have := h3 f hf (sameK_trans hfk hk) hfs
      omega⟩
    refine ⟨?_, hnew, h4⟩
    rcases (memM d).1 h1 with h | ⟨h, hno⟩
    · refine (memN d).2 (Or.inl ((drp_mem hl o d).2 ⟨h, ?_⟩))
      by_cases hdo : o < d.seq
      · exact Or.inl hdo
      · exact Or.inr ⟨by omega, fun e he hk heo => h3 e ((memM e).2 (Or.inl he)) hk (by omega)⟩
    · exact (memN d).2 (Or.inr ⟨h, fun x hx => hno x (dl x hx)⟩)
end Go.Proofs.Ytohamjoiohfoiab
