/-
  Merge and its twin, called with two or three lists.
-/
import Derived.Test.YtohamjoiohfoiaaTwinM
import Derived.Test.YtohamjoiohfoiaaAwake
namespace Go.Proofs.Ytohamjoiohfoiaa
open Go.RowKit
/-- Lists merged into one; nothing, if one is not in order. -/
def mP (L : List (List Cl)) : List Cl := if L.all sortedC then layC L.flatten else []
theorem mP_len (L : List (List Cl)) : (mP L).length ≤ L.flatten.length := by
  unfold mP
  split
  · exact lay_len _
  · simp
theorem all_map (ls : List Sl) : allS ls = (ls.map Sl.cs).all sortedC := by simp [allS, List.all_map, Function.comp_def]
theorem mergeQ_eq (ls : List Sl) : mergeQ ls = mP (ls.map Sl.cs) := by rw [mergeQ, mP, all_map]
theorem mergeP_eq (ls : List Sl) (h : ls.length ≤ 3) : mergeP ls = mP (ls.map Sl.cs) := by rw [← merge_same ls h, mergeQ_eq]
theorem outF_len : ∀ (f : Nat) (hs : List Hd), (outF f hs).length ≤ f
  | 0, _ => by simp [outF]
  | f + 1, [] => by simp [outF]
  | f + 1, x :: t => by
    cases hx : x.cs with
    | nil => simp [outF, hx]
    | cons c r =>
      rw [outF_cons hx]
      have := outF_len f (skipF (wt (takeL (x :: t))) c (takeL (x :: t)))
      simp
      omega
theorem wt_perm {hs gs : List Hd} (p : hs.Perm gs) : wt hs = wt gs := by
  induction p with
  | nil => rfl
  | cons x _ ih => rw [wt_cons, wt_cons, ih]
  | swap x y l => simp only [wt_cons]; omega
  | trans _ _ h1 h2 => rw [h1, h2]
theorem begin_wt (ls : List Sl) : ∀ k, k ≤ 3 → Root (beginK ls k) ∧ wt (beginK ls k) ≤ (flatS ls k).length
  | 0, _ => ⟨trivial, by simp [beginK, wt]⟩
  | k + 1, hk => by
    have ih := begin_wt ls k (by omega)
    rw [beginK]
    cases hs : ls[k]? with
    | none =>
      refine ⟨ih.1, ?_⟩
      have : flatS ls (k + 1) = flatS ls k := by
        unfold flatS
        rw [List.take_add_one, List.getElem?_map, hs]
        simp
      rw [this]
      exact ih.2
    | some s =>
      simp only
      rw [flat_succ hs, List.length_append]
      split
      · exact ⟨ih.1, by omega⟩
      · rename_i h0
        have hlen := beginK_len ls k
        have htk := took_push (hs := beginK ls k) (x := headOf s k) (by omega) ih.1 (beginK_ne ls k) (by rw [headOf_cs]; omega)
        refine ⟨htk.root, ?_⟩
        rw [wt_perm htk.perm]
        have : wt (beginK ls k ++ [headOf s k]) = wt (beginK ls k) + s.cs.length := by simp [wt, headOf_cs]
        omega
theorem outM_len (ls : List Sl) (h : ls.length ≤ 3) : (outM ls).length ≤ ((ls.map Sl.cs).flatten).length := by
  have h1 := outF_len (wt (beginK ls ls.length)) (beginK ls ls.length)
  have h2 := (begin_wt ls ls.length h).2
  have h3 := flat_le ls ls.length
  unfold outM
  omega
/-- What is told of a merged list. -/
def Told (V : World) (L : List Cl) (r : Ending) (w' : World) : Prop := ∃ ra rc, r = .returned (.slice ra L.length rc) ∧ L.length ≤ rc ∧ CA w'.heap.size w' ra L ∧ Below V.heap.size V w'
theorem merge_told (V : World) (x : Nat) (ls : List Sl) (n : Nat) (hb : V.heap[x]? = some (.cells (ls.map slV).toArray 25 (0, 0))) (hn : ls.length = n) (h3 : n ≤ 3) (hc : ∀ s ∈ ls, CA V.heap.size V s.a s.cs ∧ s.cs.length ≤ s.c ∧ s.cs.length ≤ 3200000) :
    Calls Try.prog 15 #[.slice (some ⟨x, 0, none⟩) n n] V (Told V (mP (ls.map Sl.cs))) := by
  have hx : x < V.heap.size := (Array.getElem?_eq_some_iff.1 hb).1
  have hla : LA V.heap.size V (some ⟨x, 0, none⟩) ls := la_lit hb hx (fun s hs => ⟨(hc s hs).1, (hc s hs).2.1, by have := (hc s hs).2.2; omega⟩)
  have hfl : ((ls.map Sl.cs).flatten).length ≤ 9600000 := by
    match ls, hn ▸ h3 with
    | [], _ => simp
    | [a], _ => have := (hc a (by simp)).2.2; simp; omega
    | [a, b], _ => have := (hc a (by simp)).2.2; have := (hc b (by simp)).2.2; simp; omega
    | [a, b, c], _ => have := (hc a (by simp)).2.2; have := (hc b (by simp)).2.2; have := (hc c (by simp)).2.2; simp; omega
  have ho := outM_len ls (by omega)
  refine Calls.mono (merge_any n n _ ls V hla hn (by omega) (by omega)) ?_
  rintro r w' ⟨v, rfl, hr, b⟩
  rw [mergeP_eq ls (by omega)] at hr
  obtain ⟨ra, rc, rfl, h1, h2⟩ := ca_row hr
  exact ⟨ra, rc, rfl, h1, h2, b⟩
theorem rmerge_told (V : World) (x : Nat) (ls : List Sl) (n : Nat) (hb : V.heap[x]? = some (.cells (ls.map slV).toArray 25 (0, 0))) (hn : ls.length = n) (h3 : n ≤ 3) (hc : ∀ s ∈ ls, CA V.heap.size V s.a s.cs ∧ s.cs.length ≤ s.c ∧ s.cs.length ≤ 3200000) :
    Calls Try.prog 14 #[.slice (some ⟨x, 0, none⟩) n n] V fun r w' => ∃ ra rc, r = .returned (.slice ra (mP (ls.map Sl.cs)).length rc) ∧ CA w'.heap.size w' ra (mP (ls.map Sl.cs)) ∧ Below V.heap.size V w' := by
  have hx : x < V.heap.size := (Array.getElem?_eq_some_iff.1 hb).1
  have hla : LA V.heap.size V (some ⟨x, 0, none⟩) ls := la_lit hb hx (fun s hs => ⟨(hc s hs).1, (hc s hs).2.1, by have := (hc s hs).2.2; omega⟩)
  have hfl : ((ls.map Sl.cs).flatten).length ≤ 9600000 := by
    match ls, hn ▸ h3 with
    | [], _ => simp
    | [a], _ => have := (hc a (by simp)).2.2; simp; omega
    | [a, b], _ => have := (hc a (by simp)).2.2; have := (hc b (by simp)).2.2; simp; omega
    | [a, b, c], _ => have := (hc a (by simp)).2.2; have := (hc b (by simp)).2.2; have := (hc c (by simp)).2.2; simp; omega
  have := rmerge_any n n _ ls V hla hn (by omega) (by omega)
  rw [mergeQ_eq] at this
  exact this
/-- Two lists, laid down in a new array. -/
theorem merge2_told (V : World) (a b : Option Addr) (la lb : List Cl) (na nb ca cb : Nat) (ha : CA V.heap.size V a la) (hb : CA V.heap.size V b lb) (hna : la.length = na) (hnb : lb.length = nb) (hca : na ≤ ca) (hcb : nb ≤ cb) (h1 : na ≤ 3200000) (h2 : nb ≤ 3200000) :
    Calls Try.prog 15 #[.slice (some ⟨V.heap.size, 0, none⟩) 2 2] (V.alloc (.cells #[.slice a na ca, .slice b nb cb] 25)) (Told V (mP [la, lb])) := by
  subst hna hnb
  have up : ∀ {x l}, CA V.heap.size V x l → CA (V.alloc (.cells #[.slice a la.length ca, .slice b lb.length cb] 25)).heap.size (V.alloc (.cells #[.slice a la.length ca, .slice b lb.length cb] 25)) x l := fun {x l} h => (h.below (fun k hk => ((Below.refl _ V).alloc (Nat.le_refl _) _).block k hk)).up (by simp)
  refine Calls.mono (merge_told _ V.heap.size [⟨a, ca, la⟩, ⟨b, cb, lb⟩] 2 (World.alloc_heap_new _ _) rfl (by omega) (by
    intro s hs
    rcases List.mem_cons.1 hs with rfl | hs
    · exact ⟨up ha, hca, h1⟩
    · rw [List.mem_singleton.1 hs]; exact ⟨up hb, hcb, h2⟩)) ?_
  rintro r w' ⟨ra, rc, rfl, g1, g2, g3⟩
  exact ⟨ra, rc, rfl, g1, g2, ((Below.refl _ V).alloc (Nat.le_refl _) _).trans (g3.mono (by simp))⟩
theorem merge3_told (V : World) (a b c : Option Addr) (la lb lc : List Cl) (na nb nc ca cb cc : Nat) (ha : CA V.heap.size V a la) (hb : CA V.heap.size V b lb) (hc : CA V.heap.size V c lc) (hna : la.length = na) (hnb : lb.length = nb) (hnc : lc.length = nc) (hca : na ≤ ca) (hcb : nb ≤ cb) (hcc : nc ≤ cc) (h1 : na ≤ 3200000) (h2 : nb ≤ 3200000) (h3 : nc ≤ 3200000) :
    Calls Try.prog 15 #[.slice (some ⟨V.heap.size, 0, none⟩) 3 3] (V.alloc (.cells #[.slice a na ca, .slice b nb cb, .slice c nc cc] 25)) (Told V (mP [la, lb, lc])) := by
  subst hna hnb hnc
  have up : ∀ {x l}, CA V.heap.size V x l → CA (V.alloc (.cells #[.slice a la.length ca, .slice b lb.length cb, .slice c lc.length cc] 25)).heap.size (V.alloc (.cells #[.slice a la.length ca, .slice b lb.length cb, .slice c lc.length cc] 25)) x l := fun {x l} h => (h.below (fun k hk => ((Below.refl _ V).alloc (Nat.le_refl _) _).block k hk)).up (by simp)
  refine Calls.mono (merge_told _ V.heap.size [⟨a, ca, la⟩, ⟨b, cb, lb⟩, ⟨c, cc, lc⟩] 3 (World.alloc_heap_new _ _) rfl (by omega) (by
    intro s hs
    rcases List.mem_cons.1 hs with rfl | hs
    · exact ⟨up ha, hca, h1⟩
    · rcases List.mem_cons.1 hs with rfl | hs
      · exact ⟨up hb, hcb, h2⟩
      · rw [List.mem_singleton.1 hs]; exact ⟨up hc, hcc, h3⟩)) ?_
  rintro r w' ⟨ra, rc, rfl, g1, g2, g3⟩
  exact ⟨ra, rc, rfl, g1, g2, ((Below.refl _ V).alloc (Nat.le_refl _) _).trans (g3.mono (by simp))⟩
theorem rmerge3_told (V : World) (a b c : Option Addr) (la lb lc : List Cl) (na nb nc ca cb cc : Nat) (ha : CA V.heap.size V a la) (hb : CA V.heap.size V b lb) (hc : CA V.heap.size V c lc) (hna : la.length = na) (hnb : lb.length = nb) (hnc : lc.length = nc) (hca : na ≤ ca) (hcb : nb ≤ cb) (hcc : nc ≤ cc) (h1 : na ≤ 3200000) (h2 : nb ≤ 3200000) (h3 : nc ≤ 3200000) :
    Calls Try.prog 14 #[.slice (some ⟨V.heap.size, 0, none⟩) 3 3] (V.alloc (.cells #[.slice a na ca, .slice b nb cb, .slice c nc cc] 25)) fun r w' => ∃ ra rc, r = .returned (.slice ra (mP [la, lb, lc]).length rc) ∧ CA w'.heap.size w' ra (mP [la, lb, lc]) ∧ Below V.heap.size V w' := by
  subst hna hnb hnc
  have up : ∀ {x l}, CA V.heap.size V x l → CA (V.alloc (.cells #[.slice a la.length ca, .slice b lb.length cb, .slice c lc.length cc] 25)).heap.size (V.alloc (.cells #[.slice a la.length ca, .slice b lb.length cb, .slice c lc.length cc] 25)) x l := fun {x l} h => (h.below (fun k hk => ((Below.refl _ V).alloc (Nat.le_refl _) _).block k hk)).up (by simp)
  refine Calls.mono (rmerge_told _ V.heap.size [⟨a, ca, la⟩, ⟨b, cb, lb⟩, ⟨c, cc, lc⟩] 3 (World.alloc_heap_new _ _) rfl (by omega) (by
    intro s hs
    rcases List.mem_cons.1 hs with rfl | hs
    · exact ⟨up ha, hca, h1⟩
    · rcases List.mem_cons.1 hs with rfl | hs
      · exact ⟨up hb, hcb, h2⟩
      · rw [List.mem_singleton.1 hs]; exact ⟨up hc, hcc, h3⟩)) ?_
  rintro r w' ⟨ra, rc, rfl, g2, g3⟩
  exact ⟨ra, rc, rfl, g2, ((Below.refl _ V).alloc (Nat.le_refl _) _).trans (g3.mono (by simp))⟩
/-! ### Merging in one go, or one behind the other -/
theorem chosen_one (x : List Cl) (d : Cl) : Chosen [x] d ↔ d ∈ x := by
  have := chosen_snoc [] x d
  rw [List.nil_append] at this
  rw [this]
  constructor
  · rintro (⟨n, s, h, _⟩ | ⟨h, _⟩)
    · simp at h
    · exact h
  · intro h
    exact Or.inr ⟨h, fun e ⟨n, s, h, _⟩ => by simp at h⟩
theorem chosen_two (x y : List Cl) (d : Cl) : Chosen [x, y] d ↔ (d ∈ x ∨ (d ∈ y ∧ ∀ e ∈ x, ¬ alike e d)) := by
  have := chosen_snoc [x] y d
  rw [show [x] ++ [y] = [x, y] from rfl] at this
  rw [this, chosen_one]
  simp only [chosen_one]
theorem chosen_three (x y z : List Cl) (d : Cl) : Chosen [x, y, z] d ↔ (Chosen [x, y] d ∨ (d ∈ z ∧ ∀ e, Chosen [x, y] e → ¬ alike e d)) := chosen_snoc [x, y] z d
theorem mP_sorted (L : List (List Cl)) : sortedC (mP L) = true := by
  unfold mP
  split
  · rename_i h
    exact pair_sorted (lay_chosen L (by rw [List.all_eq_true] at h; exact h)).1
  · rfl
theorem mP_mem {L : List (List Cl)} (h : ∀ s ∈ L, sortedC s = true) (d : Cl) : d ∈ mP L ↔ Chosen L d := by
  unfold mP
  rw [if_pos (List.all_eq_true.2 h)]
  exact (lay_chosen L h).2 d
theorem mP_ext {L M : List (List Cl)} (h : ∀ d, d ∈ mP L ↔ d ∈ mP M) : mP L = mP M := sorted_ext (sorted_pair (mP_sorted L)) (sorted_pair (mP_sorted M)) h
theorem two1 {a b : List Cl} (ha : sortedC a = true) (hb : sortedC b = true) : ∀ s ∈ [a, b], sortedC s = true := fun s hs => by
  rcases List.mem_cons.1 hs with rfl | hs
  · exact ha
  · rw [List.mem_singleton.1 hs]; exact hb
theorem three1 {a b c : List Cl} (ha : sortedC a = true) (hb : sortedC b = true) (hc : sortedC c = true) : ∀ s ∈ [a, b, c], sortedC s = true := fun s hs => by
  rcases List.mem_cons.1 hs with rfl | hs
  · exact ha
  · exact two1 hb hc s hs
theorem kinds_left {a b c : List Cl} (ha : sortedC a = true) (hb : sortedC b = true) (hc : sortedC c = true) : mP [mP [a, b], c] = mP [a, b, c] := by
  refine mP_ext fun d => ?_
  rw [mP_mem (two1 (mP_sorted _) hc), mP_mem (three1 ha hb hc), chosen_two, chosen_three]
  simp only [mP_mem (two1 ha hb)]
theorem kinds_right {a b c : List Cl} (ha : sortedC a = true) (hb : sortedC b = true) (hc : sortedC c = true) : mP [a, mP [b, c]] = mP [a, b, c] := by
  refine mP_ext fun d => ?_
  rw [mP_mem (two1 ha (mP_sorted _)), mP_mem (three1 ha hb hc), chosen_two, chosen_three, mP_mem (two1 hb hc), chosen_two, chosen_two]
  constructor
  · rintro (h | ⟨h | ⟨h, h2⟩, h1⟩)
    · exact Or.inl (Or.inl h)
    · exact Or.inl (Or.inr ⟨h, h1⟩)
    · refine Or.inr ⟨h, fun e he hal => ?_⟩
      rcases (chosen_two a b e).1 he with he | ⟨he, _⟩
      · exact h1 e he hal
      · exact h2 e he hal
  · rintro ((h | ⟨h, h1⟩) | ⟨h, h1⟩)
    · exact Or.inl h
    · exact Or.inr ⟨Or.inl h, h1⟩
    · have ha' : ∀ e ∈ a, ¬ alike e d := fun e he => h1 e ((chosen_two a b e).2 (Or.inl he))
      refine Or.inr ⟨Or.inr ⟨h, fun e he hal => ?_⟩, ha'⟩
      by_cases hex : ∃ x ∈ a, alike x e
      · obtain ⟨x, hx, hxe⟩ := hex
        exact ha' x hx (hxe.trans hal)
      · exact h1 e ((chosen_two a b e).2 (Or.inr ⟨he, fun x hx hxe => hex ⟨x, hx, hxe⟩⟩)) hal
theorem kinds_twice {l : List Cl} (hl : sortedC l = true) : mP [l, l] = l := by
  refine sorted_ext (sorted_pair (mP_sorted _)) (sorted_pair hl) fun d => ?_
  rw [mP_mem (two1 hl hl), chosen_two]
  constructor
  · rintro (h | h)
    · exact h
    · exact h.1
  · exact Or.inl
end Go.Proofs.Ytohamjoiohfoiaa
