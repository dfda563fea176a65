/-
  A reply's bytes that are cut off anywhere: more must come. The pure side.
-/
import Derived.Test.YtdkbgbhcnbmlfaaDoorPwr
namespace Go.Proofs.YtdkbgbhcnbmlfaaDoor
open Go.RowKit
/-- The first texts of A, but not all of it. -/
def Cut (l A : List UInt8) : Prop := l <+: A ∧ l.length < A.length
theorem cut_app {l A B : List UInt8} (h : Cut l (A ++ B)) : Cut l A ∨ ∃ m, l = A ++ m ∧ Cut m B := by
  obtain ⟨hp, hl⟩ := h
  rcases Nat.lt_or_ge l.length A.length with g | g
  · refine Or.inl ⟨?_, g⟩
    rcases List.prefix_or_prefix_of_prefix hp (List.prefix_append A B) with r | r
    · exact r
    · exact absurd r.length_le (by omega)
  · have r : A <+: l := List.prefix_of_prefix_length_le (List.prefix_append A B) hp g
    obtain ⟨m, rfl⟩ := r
    refine Or.inr ⟨m, rfl, (List.prefix_append_right_inj A).1 hp, ?_⟩
    simp only [List.length_append] at hl
    omega
theorem cut_nil {l : List UInt8} (h : Cut l []) : False := by have := h.2; simp at this
theorem cut_pre {l A : List UInt8} (h : Cut l A) : Lib.hasPrefix A l = true := by
  unfold Lib.hasPrefix
  exact List.isPrefixOf_iff_prefix.2 h.1
theorem cut_not {l A u : List UInt8} (h : Cut l A) (hu : u = A ∨ apt u A = true) : Lib.hasPrefix l u = false := by
  unfold Lib.hasPrefix
  cases hq : u.isPrefixOf l with
  | false => rfl
  | true =>
    have h1 := List.isPrefixOf_iff_prefix.1 hq
    rcases hu with rfl | hu
    · exact absurd h1.length_le (by have := h.2; omega)
    · unfold apt at hu
      simp only [Bool.and_eq_true, Bool.not_eq_true'] at hu
      have := List.isPrefixOf_iff_prefix.2 (h1.trans h.1)
      rw [hu.1] at this
      cases this
theorem chsG_cut {l : List UInt8} {t : ByteArray} (hc : Cut l t.data.toList) : ∀ (L : List ByteArray) (k : Nat) (x : Int), (∀ u ∈ L, u.data.toList = t.data.toList ∨ apt u.data.toList t.data.toList = true) → (x = 20 ∨ t ∈ L) → chsG l 0 L k x = (0, l, 20)
  | [], k, x, _, hx => by
    rcases hx with rfl | hx
    · rfl
    · cases hx
  | u :: us, k, x, ha, hx => by
    have h1 := cut_not hc (ha u (List.mem_cons_self ..))
    rw [chsG, if_neg (by rw [h1]; decide)]
    refine chsG_cut hc us (k + 1) _ (fun v hv => ha v (List.mem_cons_of_mem _ hv)) ?_
    split
    · exact Or.inl rfl
    · rename_i hn
      rcases hx with rfl | hx
      · exact Or.inl rfl
      · rcases List.mem_cons.1 hx with rfl | hx
        · exact absurd (cut_pre hc) hn
        · exact Or.inr hx
def aptEach (L : List ByteArray) : Bool := L.all fun t => L.all fun u => decide (u.data.toList = t.data.toList) || apt u.data.toList t.data.toList
theorem chs_cut {L : List ByteArray} (hL : aptEach L = true) {t : ByteArray} (ht : t ∈ L) {l : List UInt8} (hc : Cut l t.data.toList) : chs L l 0 = (0, l, 20) := by
  refine chsG_cut hc L 0 180 (fun u hu => ?_) (Or.inr ht)
  have := List.all_eq_true.1 (List.all_eq_true.1 hL t ht) u hu
  simp only [Bool.or_eq_true, decide_eq_true_eq] at this
  exact this
/-! ### Behind a fault nothing changes it -/
theorem failR_20 (x : Int) : failR 20 x = 20 := rfl
theorem chsG_20 (l : List UInt8) : ∀ (L : List ByteArray) (k : Nat) (x : Int), (chsG l 20 L k x).2.2 = 20
  | [], k, x => rfl
  | u :: us, k, x => by
    rw [chsG]
    split
    · rfl
    · exact chsG_20 l us _ _
theorem chs_20 (L : List ByteArray) (l : List UInt8) : (chs L l 20).2.2 = 20 := chsG_20 l L 0 180
theorem line_20 (n : Nat) (l : List UInt8) : (lineR n l 20).2 = 20 := by
  unfold lineR lineE
  split
  · exact chs_20 _ _
  · exact chs_20 _ _
theorem cook_20 (l : List UInt8) : (cookR l 20).2.2 = 20 := line_20 _ l
theorem sizG_20 (ty : Bool) (l : List UInt8) : ∀ (q : List UInt8) (i n : Nat), (sizG ty l 20 q i n).2.2 = 20
  | [], i, n => line_20 i l
  | c :: cs, i, n => by
    rw [sizG]
    split
    · split
      · rfl
      · exact sizG_20 ty l cs _ _
    · exact line_20 i l
theorem siz_20 (ty : Bool) (l : List UInt8) : (sizR ty l 20).2.2 = 20 := sizG_20 ty l l 0 0
theorem byt_20 (n : Nat) (l : List UInt8) : (bytesR n l 20).2.2 = 20 := by
  unfold bytesR
  split <;> rfl
theorem bod_20 (sz : Nat) (r : Rp) (l : List UInt8) : (bodK sz r (l, 20)).2.2 = 20 := byt_20 sz l
theorem r4_20 (sz : Nat) (r : Rp) (l : List UInt8) : (rep4 sz r l 20).2.2 = 20 := by unfold rep4; rw [if_neg (by decide)]
theorem r3_20 (sz : Nat) (r : Rp) (l : List UInt8) : (rep3 sz r l 20).2.2 = 20 := by unfold rep3; rw [if_neg (by decide)]
theorem r2_20 (sz : Nat) (r : Rp) (l : List UInt8) : (rep2 sz r l 20).2.2 = 20 := by unfold rep2; rw [if_neg (by decide)]
theorem r1_20 (ty : Bool) (r : Rp) (l : List UInt8) : (rep1 ty r l 20).2.2 = 20 := by unfold rep1; rw [if_neg (by decide)]
theorem r0_20 (ty : Bool) (r : Rp) (l : List UInt8) : (rep0 ty r l 20).2.2 = 20 := by unfold rep0; rw [if_neg (by decide)]
theorem sk_20 (ty : Bool) (r : Rp) (l : List UInt8) : (sizK ty r (l, 20)).2.2 = 20 := by
  unfold sizK
  simp only [siz_20]
  exact r2_20 _ _ _
theorem ck_20 (sz : Nat) (r : Rp) (l : List UInt8) : (cokK sz r (l, 20)).2.2 = 20 := by
  unfold cokK
  simp only [cook_20]
  exact r3_20 _ _ _
/-! ### Cut off within a line -/
theorem kTx_each : ∀ f : Fin 5, aptEach (kTx f.val) = true := by decide +kernel
theorem stL_each : aptEach stL = true := by decide +kernel
theorem knd_cut {f m : Nat} (hf : f ≤ 4) (h : f ≤ m) (hm : m ≤ kTo f) {l : List UInt8} (hc : Cut l (opn m).data.toList) : kndR f l 0 = (f, l, 20) := by
  have h1 : opn m ∈ kTx f := by
    unfold kTx
    rw [List.mem_map]
    exact ⟨m - f, List.mem_range.2 (by omega), by congr 1; omega⟩
  unfold kndR
  rw [chs_cut (kTx_each ⟨f, by omega⟩) h1 hc]
  rfl
theorem crlf_cut {l : List UInt8} (hc : Cut l crlf.data.toList) : chs [crlf] l 0 = (0, l, 20) := chs_cut (by decide +kernel) (List.mem_singleton.2 rfl) hc
theorem line_cut {s l : List UInt8} (hs : s ≠ []) (hc : Cut l crlf.data.toList) : lineR s.length (s ++ l) 0 = (l, 20) := by
  unfold lineR lineE
  rw [if_neg (fun r => hs (List.eq_nil_of_length_eq_zero r.1)), List.drop_left, crlf_cut hc]
/-- A line's words that are cut off: nothing stands behind them. -/
theorem line_end (s : List UInt8) : (lineR s.length s 0).2 = 20 := by
  unfold lineR lineE
  rw [List.drop_length, if_neg (fun r => r.2 (List.eq_nil_of_length_eq_zero r.1)), crlf_cut ⟨List.nil_prefix, by decide⟩]
theorem pre_dec : ∀ (n u : Nat), u ≤ n → 1 ≤ u → ∀ l : List UInt8, l <+: Lib.decDigits u → l = [] ∨ ∃ v, 1 ≤ v ∧ v ≤ u ∧ l = Lib.decDigits v
  | n, u, hn, h1, l, h => by
    by_cases h10 : u < 10
    · rw [Lib.decDigits_one h10] at h
      rcases Nat.lt_or_ge l.length 1 with g | g
      · exact Or.inl (List.eq_nil_of_length_eq_zero (by omega))
      · refine Or.inr ⟨u, h1, Nat.le_refl _, ?_⟩
        rw [Lib.decDigits_one h10]
        exact h.eq_of_length (by have := h.length_le; simp at this ⊢; omega)
    · match n, hn with
      | 0, hn => omega
      | n + 1, hn =>
        have e1 : Lib.decDigits u = Lib.decDigits (u / 10) ++ [UInt8.ofNat (48 + u % 10)] := by rw [Lib.decDigits, dif_neg h10]
        rcases Nat.lt_or_ge l.length (Lib.decDigits u).length with g | g
        · have hp : l <+: Lib.decDigits (u / 10) := by
            rw [e1] at h g
            refine List.prefix_of_prefix_length_le h (List.prefix_append _ _) ?_
            simp only [List.length_append, List.length_singleton] at g
            omega
          rcases pre_dec n (u / 10) (by omega) (by omega) l hp with r | ⟨v, v1, v2, v3⟩
          · exact Or.inl r
          · exact Or.inr ⟨v, v1, by omega, v3⟩
        · exact Or.inr ⟨u, h1, Nat.le_refl _, h.eq_of_length (by have := h.length_le; omega)⟩
theorem siz_cut {u : Nat} (h2 : u ≤ 65536) {l : List UInt8} (hc : Cut l (Lib.decDigits u ++ crlf.data.toList)) : (sizR (!decide (u = 0)) l 0).2.2 = 20 := by
  have h00 : ∀ ty, (sizR ty [] 0).2.2 = 20 := fun ty => line_end []
  have hend : ∀ (ty : Bool) (rest m : List UInt8) (i n : Nat), Cut m crlf.data.toList → sizG ty rest 0 m i n = (n, lineR i rest 0) := fun ty rest m i n hm => by
    rcases hm.1 with ⟨y, hy⟩
    have hl := hm.2
    match m, hy, hl with
    | [], _, _ => rfl
    | [c], hy, _ =>
      have : c = 13 := by
        have := congrArg List.head? hy
        simpa [crlf] using this
      subst this
      rw [sizG, if_neg (by decide)]
    | c :: d :: m', _, hl =>
      have : crlf.data.toList.length = 2 := rfl
      simp only [List.length_cons] at hl
      omega
  rcases cut_app hc with h | ⟨m, rfl, hm⟩
  · rcases Nat.eq_zero_or_pos u with g | g
    · subst g
      rw [Lib.decDigits_one (by omega)] at h
      have : l = [] := List.eq_nil_of_length_eq_zero (by have := h.2; rw [List.length_singleton] at this; omega)
      rw [this]
      exact h00 _
    · rcases pre_dec u u (Nat.le_refl _) g l h.1 with r | ⟨v, v1, v2, v3⟩
      · rw [r]; exact h00 _
      · rw [show (!decide (u = 0)) = true by simp; omega]
        unfold sizR
        have e := siz_dec l 0 v v (Nat.le_refl _) v1 (by omega) [] 0
        rw [List.append_nil, ← v3] at e
        rw [e, Nat.zero_add]
        exact line_end l
  · unfold sizR
    rcases Nat.eq_zero_or_pos u with g | g
    · subst g
      rw [show (!decide (0 = 0)) = false from rfl, Lib.decDigits_one (by omega), List.singleton_append, sizG, digit_nat (by omega), if_pos ⟨by omega, by omega⟩, if_neg (by simp), hend _ _ _ _ _ hm]
      have := line_cut (s := [UInt8.ofNat (48 + 0)]) (by simp) hm
      rw [List.singleton_append] at this
      show (lineR 1 _ 0).2 = _
      rw [show (1 : Nat) = ([UInt8.ofNat (48 + 0)] : List UInt8).length from rfl, this]
    · rw [show (!decide (u = 0)) = true by simp; omega, siz_dec _ 0 u u (Nat.le_refl _) g h2, hend _ _ _ _ _ hm, Nat.zero_add, line_cut (dec_ne u) hm]
theorem inC_pre : ∀ (l s : List UInt8), l <+: s → inC s = s.length → inC l = l.length
  | [], _, _, _ => rfl
  | c :: cs, s, h, hs => by
    obtain ⟨y, rfl⟩ := h
    rw [List.cons_append, inC] at hs
    rw [inC]
    split at hs
    · rename_i hp
      rw [if_pos hp, List.length_cons, inC_pre cs (cs ++ y) (List.prefix_append _ _) (by rw [List.length_cons] at hs; omega)]
    · cases hs
theorem cook_cut {s : List UInt8} (hs : s ≠ []) (h : inC s = s.length) (hl : s.length ≤ 256) {l : List UInt8} (hc : Cut l (s ++ crlf.data.toList)) : (cookR l 0).2.2 = 20 := by
  rcases cut_app hc with g | ⟨m, rfl, hm⟩
  · unfold cookR
    have e : l.take 256 = l := List.take_of_length_le (by have := g.2; omega)
    rw [e, inC_pre l s g.1 h]
    exact line_end l
  · have h1 : inC ((s ++ m).take 256) = s.length := by
      have hml := hm.2
      rcases hm.1 with ⟨y, hy⟩
      match m, hy, hml with
      | [], _, _ => rw [List.append_nil, List.take_of_length_le hl, h]
      | [c], hy, _ =>
        have : c = 13 := by
          have := congrArg List.head? hy
          simpa [crlf] using this
        subst this
        exact inC_take [] h hl
      | c :: d :: m', _, hml =>
        have : crlf.data.toList.length = 2 := rfl
        simp only [List.length_cons] at hml
        omega
    unfold cookR
    rw [h1, line_cut hs hm]
/-! ### Line by line -/
theorem body_cut {s m : List UInt8} (r : Rp) (h : Cut m s) : (bodK s.length r (m, 0)).2.2 = 20 := by
  show (bytesR s.length m 0).2.2 = 20
  unfold bytesR
  rw [if_pos h.2]
  rfl
theorem rep4_cut {s l : List UInt8} (r : Rp) (h : Cut l (crlf.data.toList ++ s)) : (rep4 s.length r l 0).2.2 = 20 := by
  unfold rep4
  rw [if_pos rfl]
  rcases cut_app h with g | ⟨m, rfl, hm⟩
  · rw [knd_cut (f := 4) (m := 4) (by omega) (by omega) (by decide) g]
    exact bod_20 _ _ _
  · rw [← opn4, knd_app (f := 4) (m := 4) (by omega) (by omega) (by decide)]
    exact body_cut r hm
theorem rep3_cut {s l : List UInt8} (b : Bool) (r : Rp) (h : Cut l (clP b ++ (crlf.data.toList ++ s))) : (rep3 s.length r l 0).2.2 = 20 := by
  unfold rep3
  rw [if_pos rfl]
  cases b with
  | true =>
    rcases cut_app h with g | ⟨m, rfl, hm⟩
    · rw [knd_cut (f := 3) (m := 3) (by omega) (by omega) (by decide) g, if_pos rfl]
      exact r4_20 _ _ _
    · rw [show clP true = (opn 3).data.toList from rfl, knd_app (f := 3) (m := 3) (by omega) (by omega) (by decide), if_pos rfl]
      exact rep4_cut _ hm
  | false =>
    rcases cut_app (show Cut l (crlf.data.toList ++ s) from h) with g | ⟨m, rfl, hm⟩
    · rw [knd_cut (f := 3) (m := 4) (by omega) (by omega) (by decide) g, if_pos rfl]
      exact r4_20 _ _ _
    · rw [← opn4, knd_app (f := 3) (m := 4) (by omega) (by omega) (by decide), if_neg (by simp)]
      exact body_cut r hm
theorem rep2_cut {s l ck : List UInt8} (b : Bool) (r : Rp) (hc : inC ck = ck.length) (hl : ck.length ≤ 256) (h : Cut l (ckP ck ++ (clP b ++ (crlf.data.toList ++ s)))) : (rep2 s.length r l 0).2.2 = 20 := by
  unfold rep2
  rw [if_pos rfl]
  cases hck : ck.isEmpty with
  | false =>
    have hne : ck ≠ [] := fun q => by rw [q] at hck; cases hck
    have e1 : ckP ck = (opn 2).data.toList ++ (ck ++ crlf.data.toList) := by unfold ckP; rw [hck]; rfl
    rw [e1, List.append_assoc] at h
    rcases cut_app h with g | ⟨m, rfl, hm⟩
    · rw [knd_cut (f := 2) (m := 2) (by omega) (by omega) (by decide) g, if_pos rfl]
      exact ck_20 _ _ _
    · rw [knd_app (f := 2) (m := 2) (by omega) (by omega) (by decide), if_pos rfl]
      unfold cokK
      rcases cut_app hm with g | ⟨m2, rfl, hm2⟩
      · simp only [cook_cut hne hc hl g]
        exact r3_20 _ _ _
      · simp only [List.append_assoc, cook_app hne hc hl]
        exact rep3_cut b _ hm2
  | true =>
    obtain rfl : ck = [] := List.isEmpty_iff.1 hck
    rw [show ckP [] = [] from rfl, List.nil_append] at h
    cases b with
    | true =>
      rcases cut_app h with g | ⟨m, rfl, hm⟩
      · rw [knd_cut (f := 2) (m := 3) (by omega) (by omega) (by decide) g, if_pos rfl]
        exact ck_20 _ _ _
      · rw [show clP true = (opn 3).data.toList from rfl, knd_app (f := 2) (m := 3) (by omega) (by omega) (by decide), if_neg (by simp), if_pos rfl]
        exact rep4_cut _ hm
    | false =>
      rcases cut_app (show Cut l (crlf.data.toList ++ s) from h) with g | ⟨m, rfl, hm⟩
      · rw [knd_cut (f := 2) (m := 4) (by omega) (by omega) (by decide) g, if_pos rfl]
        exact ck_20 _ _ _
      · rw [← opn4, knd_app (f := 2) (m := 4) (by omega) (by omega) (by decide), if_neg (by simp), if_neg (by simp)]
        exact body_cut r hm
theorem siz2_cut {s l X : List UInt8} (r : Rp) (hs : s.length ≤ 65536) (hX : ∀ m, Cut m X → (rep2 s.length r m 0).2.2 = 20) (h : Cut l ((Lib.decDigits s.length ++ crlf.data.toList) ++ X)) : (sizK (!decide (s.length = 0)) r (l, 0)).2.2 = 20 := by
  unfold sizK
  rcases cut_app h with g | ⟨m, rfl, hm⟩
  · simp only [siz_cut hs g]
    exact r2_20 _ _ _
  · simp only [List.append_assoc, siz_app hs]
    exact hX m hm
theorem rep0_cut {s l X : List UInt8} (r : Rp) (hs : s.length ≤ 65536) (hX : ∀ m, Cut m X → (rep2 s.length r m 0).2.2 = 20) (h : Cut l (tyP s ++ (lnP s.length ++ X))) : (rep0 false r l 0).2.2 = 20 := by
  unfold rep0
  rw [if_pos rfl]
  cases hse : s.isEmpty with
  | false =>
    have hne : ¬ s.length = 0 := fun q => by rw [List.eq_nil_of_length_eq_zero q] at hse; cases hse
    have e1 : tyP s = (opn 0).data.toList := by unfold tyP; rw [hse]; rfl
    have e2 : (!decide (s.length = 0)) = true := by simp; exact fun q => hne (by rw [q]; rfl)
    rw [e1] at h
    rcases cut_app h with g | ⟨m, rfl, hm⟩
    · rw [knd_cut (f := 0) (m := 0) (by omega) (by omega) (by decide) g, if_pos rfl]
      exact r1_20 _ _ _
    · rw [knd_app (f := 0) (m := 0) (by omega) (by omega) (by decide), if_pos rfl]
      unfold rep1
      rw [if_pos rfl]
      unfold lnP at hm
      rw [List.append_assoc] at hm
      rcases cut_app hm with g | ⟨m2, rfl, hm2⟩
      · simp only [knd_cut (f := 1) (m := 1) (by omega) (by omega) (by decide) g]
        exact sk_20 _ _ _
      · simp only [knd_app (f := 1) (m := 1) (by omega) (by omega) (by decide)]
        have := siz2_cut r hs hX hm2
        rw [e2] at this
        exact this
  | true =>
    obtain rfl : s = [] := List.isEmpty_iff.1 hse
    rw [show tyP [] = [] from rfl, List.nil_append] at h
    unfold lnP at h
    rw [List.append_assoc] at h
    rcases cut_app h with g | ⟨m, rfl, hm⟩
    · rw [knd_cut (f := 0) (m := 1) (by omega) (by omega) (by decide) g, if_pos rfl]
      exact r1_20 _ _ _
    · rw [knd_app (f := 0) (m := 1) (by omega) (by omega) (by decide), if_neg (by simp)]
      have := siz2_cut (s := []) r hs hX hm
      exact this
theorem par_cut {r : Rp} (h : okR r = true) {l : List UInt8} (hc : Cut l (wrL r)) : parR l = (rpl0 0, 0, 20) := by
  obtain ⟨o1, o2, o3, o4, o5⟩ := ok_parts h
  have hw := wr_parts h []
  rw [List.append_nil, List.append_nil] at hw
  rw [hw] at hc
  have key : (repR l).2.2 = 20 := by
    unfold repR
    rcases cut_app hc with g | ⟨m, rfl, hm⟩
    · have h1 : lnS r.status (wordsR r.status) ∈ stL := List.mem_map.2 ⟨_, ok_sts o1, rfl⟩
      have e : staR l 0 = (200, l, 20) := by
        unfold staR
        rw [chs_cut stL_each h1 g]
        rfl
      rw [e]
      show (repK 0 0 false _ l 20).2.2 = 20
      rw [repK_stop 0 0 false _ l (by decide)]
    · rw [sta_app (ok_sts o1)]
      show (repK (if r.status = 204 then 2 else 0) 0 false (rpl0 r.status) m 0).2.2 = 20
      by_cases hz : r.status = 204
      · rw [if_pos hz]
        have hb : r.body = [] := List.isEmpty_iff.1 (o3 hz)
        rw [show hdP r = [] by unfold hdP; rw [if_pos hz], List.nil_append] at hm
        have := rep2_cut (s := r.body) r.close (rpl0 r.status) o5 o4 hm
        rw [hb] at this
        exact this
      · rw [if_neg hz]
        rw [show hdP r = tyP r.body ++ lnP r.body.length by unfold hdP; rw [if_neg hz], List.append_assoc] at hm
        exact rep0_cut (s := r.body) _ o2 (fun q hq => rep2_cut (s := r.body) r.close _ o5 o4 hq) hm
  unfold parR
  rw [key, if_neg (by decide)]
end Go.Proofs.YtdkbgbhcnbmlfaaDoor
