/-
  What comes out of at most three lists in order, as a set of cells.
-/
import Derived.Test.YtohamjoiohfoiaaHeap3
namespace Go.Proofs.Ytohamjoiohfoiaa
/-- Heads that may be: at most three, none empty, in order each, of different lists, a least one first. -/
structure Gd (hs : List Hd) : Prop where
  len : hs.length ≤ 3
  ne : ∀ h ∈ hs, 0 < h.cs.length
  srt : ∀ h ∈ hs, sortedC h.cs = true
  nth : hs.Pairwise (fun a b => a.nth ≠ b.nth)
  root : Root hs
/-- Cell c is left of list n. -/
def PP (hs : List Hd) (n : Nat) (c : Cl) : Prop := ∃ h ∈ hs, h.nth = n ∧ c ∈ h.cs
theorem PP.perm {hs gs : List Hd} (p : hs.Perm gs) (n : Nat) (c : Cl) : PP hs n c ↔ PP gs n c :=
  ⟨fun ⟨h, hh, r⟩ => ⟨h, p.mem_iff.1 hh, r⟩, fun ⟨h, hh, r⟩ => ⟨h, p.mem_iff.2 hh, r⟩⟩
theorem sorted_tail {c : Cl} {r : List Cl} (h : sortedC (c :: r) = true) : sortedC r = true ∧ ∀ d ∈ r, lessC c d = true := by
  have := sorted_pair h
  exact ⟨pair_sorted (List.Pairwise.of_cons this), fun d hd => List.rel_of_pairwise_cons this hd⟩
theorem gd_take {x : Hd} {t : List Hd} {c : Cl} {r : List Cl} (g : Gd (x :: t)) (hx : x.cs = c :: r) :
    Gd (takeL (x :: t)) ∧ ∀ n d, PP (takeL (x :: t)) n d ↔ (PP (x :: t) n d ∧ ¬ (n = x.nth ∧ d = c)) := by
  have ht : t.length ≤ 2 := by have := g.len; simp at this; omega
  have htk := took_take (x := x) ht (fun y hy => g.ne y (by simp [hy]))
  have hsr := sorted_tail (by have := g.srt x (by simp); rw [hx] at this; exact this)
  have hcr : c ∉ r := fun h => by
    have := hsr.2 c h
    rw [alike_not ⟨rfl, rfl⟩] at this
    cases this
  have hpw := List.pairwise_cons.1 g.nth
  have hother : ∀ h ∈ t, h.nth ≠ x.nth := fun h hh e => hpw.1 h hh e.symm
  have tother : ∀ {n d}, (∃ h ∈ t, h.nth = n ∧ d ∈ h.cs) → n ≠ x.nth := fun ⟨h, hh, e, _⟩ => by rw [← e]; exact hother h hh
  by_cases h1 : x.cs.length ≤ 1
  · rw [if_pos h1] at htk
    have hr : r = [] := by rw [hx] at h1; simp at h1; exact h1
    subst hr
    refine ⟨⟨by rw [htk.perm.length_eq]; omega, fun h hh => g.ne h (by simp [htk.perm.mem_iff.1 hh]), fun h hh => g.srt h (by simp [htk.perm.mem_iff.1 hh]), htk.perm.symm.pairwise hpw.2 (fun h e => h e.symm), htk.root⟩, fun n d => ?_⟩
    rw [PP.perm htk.perm]
    constructor
    · intro hp
      have hn := tother hp
      obtain ⟨h, hh, e, hd⟩ := hp
      exact ⟨⟨h, by simp [hh], e, hd⟩, fun k => hn k.1⟩
    · rintro ⟨⟨h, hh, e, hd⟩, hno⟩
      rcases List.mem_cons.1 hh with rfl | hh
      · rw [hx] at hd
        have : d = c := by simpa using hd
        exact absurd ⟨e.symm, this⟩ hno
      · exact ⟨h, hh, e, hd⟩
  · rw [if_neg h1] at htk
    have hs : (stepH x).cs = r := by rw [stepH_cs, hx]; rfl
    have hrl : 0 < r.length := List.length_pos_iff.2 (by intro e; rw [hx, e] at h1; simp at h1)
    refine ⟨⟨by rw [htk.perm.length_eq]; simp; omega, fun h hh => ?_, fun h hh => ?_, htk.perm.symm.pairwise (List.pairwise_cons.2 ⟨fun h hh => by rw [stepH_nth]; exact hpw.1 h hh, hpw.2⟩) (fun h e => h e.symm), htk.root⟩, fun n d => ?_⟩
    · rcases List.mem_cons.1 (htk.perm.mem_iff.1 hh) with rfl | hh
      · rw [hs]; exact hrl
      · exact g.ne h (by simp [hh])
    · rcases List.mem_cons.1 (htk.perm.mem_iff.1 hh) with rfl | hh
      · rw [hs]; exact hsr.1
      · exact g.srt h (by simp [hh])
    · rw [PP.perm htk.perm]
      constructor
      · rintro ⟨h, hh, e, hd⟩
        rcases List.mem_cons.1 hh with rfl | hh
        · rw [hs] at hd
          rw [stepH_nth] at e
          exact ⟨⟨x, by simp, e, by rw [hx]; simp [hd]⟩, fun k => hcr (k.2 ▸ hd)⟩
        · exact ⟨⟨h, by simp [hh], e, hd⟩, fun k => hother h hh (e.trans k.1)⟩
      · rintro ⟨⟨h, hh, e, hd⟩, hno⟩
        rcases List.mem_cons.1 hh with rfl | hh
        · rw [hx] at hd
          rcases List.mem_cons.1 hd with rfl | hd
          · exact absurd ⟨e.symm, rfl⟩ hno
          · exact ⟨stepH h, by simp, by rw [stepH_nth]; exact e, by rw [hs]; exact hd⟩
        · exact ⟨h, by simp [hh], e, hd⟩
/-- The first head's first cell comes out first. -/
theorem gd_first {x : Hd} {t : List Hd} {c : Cl} {r : List Cl} (g : Gd (x :: t)) (hx : x.cs = c :: r) {n : Nat} {d : Cl} (hp : PP (x :: t) n d) : leH c x.nth d n := by
  obtain ⟨h, hh, rfl, hd⟩ := hp
  have hsr := sorted_tail (by have := g.srt x (by simp); rw [hx] at this; exact this)
  rcases List.mem_cons.1 hh with rfl | hh
  · rw [hx] at hd
    rcases List.mem_cons.1 hd with rfl | hd
    · exact Or.inr ⟨⟨rfl, rfl⟩, Nat.le_refl _⟩
    · exact Or.inl (hsr.2 d hd)
  · obtain ⟨a, b, ha, hb, hl⟩ := g.root h hh
    rw [hx] at ha
    simp at ha
    subst ha
    cases hc : h.cs with
    | nil => rw [hc] at hb; simp at hb
    | cons e l =>
      rw [hc] at hb hd
      simp at hb
      subst hb
      have hsr2 := sorted_tail (by have := g.srt h (by simp [hh]); rw [hc] at this; exact this)
      rcases List.mem_cons.1 hd with rfl | hd
      · exact hl
      · exact leH_trans hl (Or.inl (hsr2.2 d hd))
theorem gd_skip : ∀ (f : Nat) (c : Cl) (hs : List Hd), wt hs ≤ f → Gd hs → Gd (skipF f c hs) ∧ ∀ n d, PP (skipF f c hs) n d → PP hs n d ∧ lessC c d = true
  | 0, c, [], _, g => ⟨g, fun n d ⟨h, hh, _⟩ => by simp [skipF] at hh⟩
  | 0, c, x :: t, hw, g => by
    have := g.ne x (by simp)
    rw [wt_cons] at hw
    omega
  | f + 1, c, [], _, g => ⟨g, fun n d ⟨h, hh, _⟩ => by simp [skipF] at hh⟩
  | f + 1, c, x :: t, hw, g => by
    cases hx : x.cs with
    | nil => have := g.ne x (by simp); rw [hx] at this; simp at this
    | cons e r =>
      cases hl : lessC c e with
      | true =>
        rw [skipF_stay hx hl]
        refine ⟨g, fun n d hp => ⟨hp, ?_⟩⟩
        rcases gd_first g hx hp with h | ⟨h, _⟩
        · exact lessC_trans hl h
        · exact less_alike hl h
      | false =>
        rw [skipF_go hx hl]
        have ht := gd_take g hx
        have hwt := wt_take (t := t) (g.ne x (by simp))
        have ih := gd_skip f c (takeL (x :: t)) (by omega) ht.1
        exact ⟨ih.1, fun n d hp => ⟨((ht.2 n d).1 (ih.2 n d hp).1).1, (ih.2 n d hp).2⟩⟩
theorem gd_skip_all : ∀ (f : Nat) (c : Cl) (hs : List Hd), wt hs ≤ f → Gd hs → ∀ n d, PP hs n d → lessC c d = true → PP (skipF f c hs) n d
  | 0, c, [], _, _, n, d, hp, _ => hp
  | 0, c, x :: t, hw, g, _, _, _, _ => by
    have := g.ne x (by simp)
    rw [wt_cons] at hw
    omega
  | f + 1, c, [], _, _, n, d, hp, _ => by obtain ⟨h, hh, _⟩ := hp; simp at hh
  | f + 1, c, x :: t, hw, g, n, d, hp, hd => by
    cases hx : x.cs with
    | nil => have := g.ne x (by simp); rw [hx] at this; simp at this
    | cons e r =>
      cases hl : lessC c e with
      | true => rw [skipF_stay hx hl]; exact hp
      | false =>
        rw [skipF_go hx hl]
        have ht := gd_take g hx
        have hwt := wt_take (t := t) (g.ne x (by simp))
        exact gd_skip_all f c (takeL (x :: t)) (by omega) ht.1 n d ((ht.2 n d).2 ⟨hp, fun k => by rw [k.2] at hd; rw [hd] at hl; cases hl⟩) hd
/-- The first of its like. -/
def Rem (hs : List Hd) (d : Cl) : Prop := ∃ n, PP hs n d ∧ ∀ m e, PP hs m e → m < n → ¬ alike e d
theorem gd_out : ∀ (f : Nat) (hs : List Hd), wt hs ≤ f → Gd hs → (outF f hs).Pairwise (fun a b => lessC a b = true) ∧ ∀ d, d ∈ outF f hs ↔ Rem hs d
  | 0, [], _, _ => ⟨List.Pairwise.nil, fun d => ⟨fun h => by simp [outF] at h, fun ⟨n, ⟨h, hh, _⟩, _⟩ => by simp at hh⟩⟩
  | 0, x :: t, hw, g => by
    have := g.ne x (by simp)
    rw [wt_cons] at hw
    omega
  | f + 1, [], _, _ => ⟨List.Pairwise.nil, fun d => ⟨fun h => by simp [outF] at h, fun ⟨n, ⟨h, hh, _⟩, _⟩ => by simp at hh⟩⟩
  | f + 1, x :: t, hw, g => by
    cases hx : x.cs with
    | nil => have := g.ne x (by simp); rw [hx] at this; simp at this
    | cons c r =>
      rw [outF_cons hx]
      have ht := gd_take g hx
      have hwt := wt_take (t := t) (g.ne x (by simp))
      have hsk := gd_skip _ c (takeL (x :: t)) (Nat.le_refl _) ht.1
      have hska := gd_skip_all _ c (takeL (x :: t)) (Nat.le_refl _) ht.1
      have hok := skip_ok (wt (takeL (x :: t))) c (takeL (x :: t)) ht.1.ne
      have ih := gd_out f (skipF (wt (takeL (x :: t))) c (takeL (x :: t))) (by omega) hsk.1
      have pin : ∀ n d, PP (skipF (wt (takeL (x :: t))) c (takeL (x :: t))) n d ↔ (PP (x :: t) n d ∧ lessC c d = true) := fun n d =>
        ⟨fun hp => ⟨((ht.2 n d).1 (hsk.2 n d hp).1).1, (hsk.2 n d hp).2⟩, fun ⟨hp, hl⟩ => hska n d ((ht.2 n d).2 ⟨hp, fun k => by rw [k.2, alike_not ⟨rfl, rfl⟩] at hl; cases hl⟩) hl⟩
      refine ⟨List.pairwise_cons.2 ⟨fun d hd => ?_, ih.1⟩, fun d => ?_⟩
      · obtain ⟨n, hp, _⟩ := (ih.2 d).1 hd
        exact ((pin n d).1 hp).2
      · rw [List.mem_cons, ih.2 d]
        constructor
        · rintro (rfl | ⟨n, hp, hno⟩)
          · refine ⟨x.nth, ⟨x, by simp, rfl, by rw [hx]; simp⟩, fun m e hp hm ha => ?_⟩
            rcases gd_first g hx hp with h | ⟨_, h⟩
            · rw [alike_not ha.symm] at h; cases h
            · omega
          · have hp' := (pin n d).1 hp
            exact ⟨n, hp'.1, fun m e he hm ha => hno m e ((pin m e).2 ⟨he, less_alike hp'.2 ha.symm⟩) hm ha⟩
        · rintro ⟨n, hp, hno⟩
          rcases gd_first g hx hp with h | ⟨h, h'⟩
          · exact Or.inr ⟨n, (pin n d).2 ⟨hp, h⟩, fun m e he hm => hno m e ((pin m e).1 he).1 hm⟩
          · left
            have hn : n = x.nth := by
              by_cases hlt : x.nth < n
              · exact absurd h (hno x.nth c ⟨x, by simp, rfl, by rw [hx]; simp⟩ hlt)
              · omega
            obtain ⟨y, hy, e, hd⟩ := hp
            rcases List.mem_cons.1 hy with rfl | hy
            · rw [hx] at hd
              rcases List.mem_cons.1 hd with rfl | hd
              · rfl
              · have := (sorted_tail (by have := g.srt y (by simp); rw [hx] at this; exact this)).2 d hd
                rw [alike_not h] at this
                cases this
            · exact absurd (hn.symm.trans e.symm) ((List.pairwise_cons.1 g.nth).1 y hy)
theorem headOf_nth (s : Sl) (i : Nat) : (headOf s i).nth = i := by unfold headOf; split <;> rfl
theorem gd_begin (ls : List Sl) (hs : allS ls = true) : ∀ k, k ≤ 3 → Gd (beginK ls k) ∧ (∀ n d, PP (beginK ls k) n d ↔ (n < k ∧ ∃ s, ls[n]? = some s ∧ d ∈ s.cs))
  | 0, _ => ⟨⟨by simp [beginK], fun h hh => by simp [beginK] at hh, fun h hh => by simp [beginK] at hh, List.Pairwise.nil, trivial⟩, fun n d => ⟨fun ⟨h, hh, _⟩ => by simp [beginK] at hh, fun h => by omega⟩⟩
  | k + 1, hk => by
    have ih := gd_begin ls hs k (by omega)
    have hlen := beginK_len ls k
    rw [beginK]
    cases hsk : ls[k]? with
    | none =>
      simp only
      refine ⟨ih.1, fun n d => ?_⟩
      rw [ih.2 n d]
      constructor
      · rintro ⟨h1, h2⟩
        exact ⟨by omega, h2⟩
      · rintro ⟨h1, s, h2, h3⟩
        by_cases e : n = k
        · rw [e, hsk] at h2; cases h2
        · exact ⟨by omega, s, h2, h3⟩
    | some s =>
      simp only
      have hss : sortedC s.cs = true := by
        rw [allS, List.all_eq_true] at hs
        exact hs s (List.mem_of_getElem? hsk)
      split
      · rename_i h0
        refine ⟨ih.1, fun n d => ?_⟩
        rw [ih.2 n d]
        constructor
        · rintro ⟨h1, h2⟩
          exact ⟨by omega, h2⟩
        · rintro ⟨h1, s', h2, h3⟩
          by_cases e : n = k
          · rw [e, hsk] at h2
            cases h2
            rw [List.length_eq_zero_iff.1 h0] at h3
            simp at h3
          · exact ⟨by omega, s', h2, h3⟩
      · rename_i h0
        have htk := took_push (hs := beginK ls k) (x := headOf s k) (by omega) ih.1.root ih.1.ne (by rw [headOf_cs]; omega)
        have hold : ∀ h ∈ beginK ls k, h.nth ≠ k := fun h hh e => by
          obtain ⟨c, hc⟩ := hd0 (ih.1.ne h hh)
          have := ((ih.2 h.nth c).1 ⟨h, hh, rfl, List.mem_of_getElem? hc⟩).1
          omega
        refine ⟨⟨by rw [htk.perm.length_eq]; simp; omega, fun h hh => ?_, fun h hh => ?_, htk.perm.symm.pairwise (List.pairwise_append.2 ⟨ih.1.nth, by simp, fun a ha b hb => ?_⟩) (fun h e => h e.symm), htk.root⟩, fun n d => ?_⟩
        · rcases List.mem_append.1 (htk.perm.mem_iff.1 hh) with hh | hh
          · exact ih.1.ne h hh
          · rw [List.mem_singleton.1 hh, headOf_cs]; omega
        · rcases List.mem_append.1 (htk.perm.mem_iff.1 hh) with hh | hh
          · exact ih.1.srt h hh
          · rw [List.mem_singleton.1 hh, headOf_cs]; exact hss
        · rw [List.mem_singleton.1 hb, headOf_nth]; exact hold a ha
        · rw [PP.perm htk.perm]
          constructor
          · rintro ⟨h, hh, e, hd⟩
            rcases List.mem_append.1 hh with hh | hh
            · have := (ih.2 n d).1 ⟨h, hh, e, hd⟩
              exact ⟨by omega, this.2⟩
            · rw [List.mem_singleton.1 hh, headOf_nth] at e
              rw [List.mem_singleton.1 hh, headOf_cs] at hd
              exact ⟨by omega, s, by rw [← e]; exact hsk, hd⟩
          · rintro ⟨h1, s', h2, h3⟩
            by_cases e : n = k
            · rw [e, hsk] at h2
              cases h2
              exact ⟨headOf s k, by simp, by rw [headOf_nth, e], by rw [headOf_cs]; exact h3⟩
            · obtain ⟨h, hh, r⟩ := (ih.2 n d).2 ⟨by omega, s', h2, h3⟩
              exact ⟨h, by simp [hh], r⟩
/-- What is chosen of some lists: of alike ones the first list's. -/
def Chosen (ls : List (List Cl)) (d : Cl) : Prop := ∃ (n : Nat) (s : List Cl), ls[n]? = some s ∧ d ∈ s ∧ ∀ (m : Nat) (s' : List Cl) (e : Cl), ls[m]? = some s' → e ∈ s' → m < n → ¬ alike e d
theorem outM_set (ls : List Sl) (h3 : ls.length ≤ 3) (hs : allS ls = true) : (outM ls).Pairwise (fun a b => lessC a b = true) ∧ ∀ d, d ∈ outM ls ↔ Chosen (ls.map Sl.cs) d := by
  have hb := gd_begin ls hs ls.length h3
  have ho := gd_out _ _ (Nat.le_refl _) hb.1
  refine ⟨ho.1, fun d => ?_⟩
  unfold outM
  rw [ho.2 d]
  have at_ : ∀ {n : Nat} {s : List Cl}, (ls.map Sl.cs)[n]? = some s ↔ ∃ q, ls[n]? = some q ∧ q.cs = s := fun {n s} => by rw [List.getElem?_map, Option.map_eq_some_iff]
  constructor
  · rintro ⟨n, hp, hno⟩
    obtain ⟨hn, s, h1, h2⟩ := (hb.2 n d).1 hp
    refine ⟨n, s.cs, at_.2 ⟨s, h1, rfl⟩, h2, fun m s' e hm he hlt => ?_⟩
    obtain ⟨q, hq, rfl⟩ := at_.1 hm
    exact hno m e ((hb.2 m e).2 ⟨by omega, q, hq, he⟩) hlt
  · rintro ⟨n, s, h1, h2, hno⟩
    obtain ⟨q, hq, rfl⟩ := at_.1 h1
    refine ⟨n, (hb.2 n d).2 ⟨(List.getElem?_eq_some_iff.1 hq).1, q, hq, h2⟩, fun m e hp hlt => ?_⟩
    obtain ⟨_, s', h3, h4⟩ := (hb.2 m e).1 hp
    exact hno m s'.cs e (at_.2 ⟨s', h3, rfl⟩) h4 hlt
/-- A list in order is told by its cells. -/
theorem sorted_ext : ∀ {l m : List Cl}, l.Pairwise (fun a b => lessC a b = true) → m.Pairwise (fun a b => lessC a b = true) → (∀ d, d ∈ l ↔ d ∈ m) → l = m
  | [], [], _, _, _ => rfl
  | [], b :: m, _, _, h => by have := (h b).2 (by simp); simp at this
  | a :: l, [], _, _, h => by have := (h a).1 (by simp); simp at this
  | a :: l, b :: m, h1, h2, h => by
    have irr : ∀ c : Cl, lessC c c ≠ true := fun c e => by rw [alike_not ⟨rfl, rfl⟩] at e; cases e
    have e : a = b := by
      rcases List.mem_cons.1 ((h a).1 (by simp)) with e | ha
      · exact e
      · rcases List.mem_cons.1 ((h b).2 (by simp)) with e | hb
        · exact e.symm
        · have k1 := List.rel_of_pairwise_cons h1 hb
          have k2 := List.rel_of_pairwise_cons h2 ha
          exact absurd (lessC_trans k1 k2) (irr a)
    subst e
    rw [sorted_ext (List.Pairwise.of_cons h1) (List.Pairwise.of_cons h2) (fun d => ?_)]
    constructor
    · intro hd
      rcases List.mem_cons.1 ((h d).1 (by simp [hd])) with rfl | hd'
      · exact absurd (List.rel_of_pairwise_cons h1 hd) (irr d)
      · exact hd'
    · intro hd
      rcases List.mem_cons.1 ((h d).2 (by simp [hd])) with rfl | hd'
      · exact absurd (List.rel_of_pairwise_cons h2 hd) (irr d)
      · exact hd'
end Go.Proofs.Ytohamjoiohfoiaa
