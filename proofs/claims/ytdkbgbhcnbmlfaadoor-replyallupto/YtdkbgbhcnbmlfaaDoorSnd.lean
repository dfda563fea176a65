/-
  What a text is read as is what is written so, and what is too short is a piece of it: the pure side.
-/
import Derived.Test.YtdkbgbhcnbmlfaaDoorPfx
namespace Go.Proofs.YtdkbgbhcnbmlfaaDoor
open Go.RowKit
theorem pre_split {l t : List UInt8} (h : Lib.hasPrefix l t = true) : l = t ++ Lib.trimPrefix l t := by
  unfold Lib.hasPrefix at h
  obtain ⟨q, rfl⟩ := List.isPrefixOf_iff_prefix.1 h
  rw [trim_app]
theorem cut_of {l t : List UInt8} (h : Lib.hasPrefix t l = true) (hn : ¬ Lib.hasPrefix l t = true) : Cut l t := by
  unfold Lib.hasPrefix at h hn
  have h1 := List.isPrefixOf_iff_prefix.1 h
  refine ⟨h1, ?_⟩
  rcases Nat.lt_or_ge l.length t.length with g | g
  · exact g
  · have : l = t := h1.eq_of_length (by have := h1.length_le; omega)
    subst this
    exact absurd (List.isPrefixOf_iff_prefix.2 (List.prefix_refl l)) hn
theorem cut_more {l A : List UInt8} (h : Cut l A) (B : List UInt8) : Cut l (A ++ B) :=
  ⟨h.1.trans (List.prefix_append _ _), by rw [List.length_append]; have := h.2; omega⟩
theorem cut_on {l B : List UInt8} (A : List UInt8) (h : Cut l B) : Cut (A ++ l) (A ++ B) :=
  ⟨(List.prefix_append_right_inj A).2 h.1, by rw [List.length_append, List.length_append]; have := h.2; omega⟩
theorem chsG_e (l : List UInt8) {e : Int} (he : ¬ e = 0) : ∀ (L : List ByteArray) (k : Nat) (x : Int), (chsG l e L k x).2.2 = e
  | [], k, x => by show failR e x = e; rw [failR, if_neg he]
  | u :: us, k, x => by
    rw [chsG]
    split
    · rfl
    · exact chsG_e l he us _ _
inductive Chs (L : List ByteArray) (l : List UInt8) (R : Nat × List UInt8 × Int) : Prop
  | hit (t : ByteArray) (h : L[R.1]? = some t) (q : l = t.data.toList ++ R.2.1) (e : R.2.2 = 0)
  | cut (t : ByteArray) (h : t ∈ L) (c : Cut l t.data.toList) (e : R.2.2 = 20)
  | bad (e : R.2.2 = 180)
theorem chsG_inv (L0 : List ByteArray) (l : List UInt8) : ∀ (L : List ByteArray) (k : Nat) (x : Int), (∀ j, L[j]? = L0[k + j]?) → (x = 180 ∨ x = 20 ∧ ∃ t ∈ L0, Cut l t.data.toList) → Chs L0 l (chsG l 0 L k x)
  | [], k, x, _, hx => by
    rcases hx with rfl | ⟨rfl, t, ht, hc⟩
    · exact .bad rfl
    · exact .cut t ht hc rfl
  | u :: us, k, x, hL, hx => by
    have h0 : L0[k]? = some u := by have := hL 0; simpa using this.symm
    rw [chsG]
    by_cases hp : Lib.hasPrefix l u.data.toList = true
    · rw [if_pos hp]
      exact .hit u h0 (pre_split hp) rfl
    · rw [if_neg hp]
      refine chsG_inv L0 l us (k + 1) _ (fun j => ?_) ?_
      · have := hL (j + 1)
        rw [List.getElem?_cons_succ] at this
        rw [this]
        congr 1
        omega
      · by_cases hq : Lib.hasPrefix u.data.toList l = true
        · rw [if_pos hq]
          exact Or.inr ⟨rfl, u, List.mem_of_getElem? h0, cut_of hq hp⟩
        · rw [if_neg hq]
          exact hx
theorem chs_inv (L : List ByteArray) (l : List UInt8) : Chs L l (chs L l 0) := chsG_inv L l L 0 180 (fun j => by rw [Nat.zero_add]) (Or.inl rfl)
theorem chs_e (L : List ByteArray) (l : List UInt8) {e : Int} (he : ¬ e = 0) : (chs L l e).2.2 = e := chsG_e l he L 0 180
theorem line_e (n : Nat) (l : List UInt8) {e : Int} (he : ¬ e = 0) : (lineR n l e).2 = e := by
  unfold lineR lineE
  split
  · rw [failR, if_neg he]; exact chs_e _ _ he
  · exact chs_e _ _ he
/-- A line's end, behind n bytes. -/
inductive Lin (n : Nat) (l : List UInt8) (R : List UInt8 × Int) : Prop
  | hit (h : 0 < n ∨ l = []) (q : l.drop n = crlf.data.toList ++ R.1) (e : R.2 = 0)
  | cut (h : 0 < n ∨ l = []) (c : Cut (l.drop n) crlf.data.toList) (e : R.2 = 20)
  | bad (e : R.2 = 180)
theorem line_inv (n : Nat) (l : List UInt8) : Lin n l (lineR n l 0) := by
  unfold lineR lineE
  by_cases hn : n = 0 ∧ l ≠ []
  · rw [if_pos hn]
    exact .bad (chs_e _ _ (by decide))
  · rw [if_neg hn]
    have ho : 0 < n ∨ l = [] := by
      rcases Nat.eq_zero_or_pos n with g | g
      · right
        exact Classical.byContradiction fun c => hn ⟨g, c⟩
      · exact Or.inl g
    cases chs_inv [crlf] (l.drop n) with
    | hit t h q e =>
      have ht : t = crlf := by
        have := List.mem_of_getElem? h
        simpa using this
      subst ht
      exact .hit ho q e
    | cut t h c e =>
      have ht : t = crlf := by simpa using h
      subst ht
      exact .cut ho c e
    | bad e => exact .bad e
theorem inC_self : ∀ l : List UInt8, inC (l.take (inC l)) = inC l
  | [] => rfl
  | c :: cs => by
    rw [inC]
    by_cases h : prB c.toNat = true
    · rw [if_pos h, List.take_succ_cons, inC, if_pos h, inC_self cs]
    · rw [if_neg h]; rfl
inductive Cok (l : List UInt8) (R : List UInt8 × List UInt8 × Int) : Prop
  | hit (n : R.1 ≠ []) (h : inC R.1 = R.1.length) (hl : R.1.length ≤ 256) (q : l = R.1 ++ (crlf.data.toList ++ R.2.1)) (e : R.2.2 = 0)
  | cut (k : List UInt8) (n : k ≠ []) (h : inC k = k.length) (hl : k.length ≤ 256) (c : Cut l (k ++ crlf.data.toList)) (e : R.2.2 = 20)
  | bad (e : R.2.2 = 180)
theorem cook_inv (l : List UInt8) : Cok l (cookR l 0) := by
  unfold cookR
  obtain ⟨n, hn⟩ : ∃ n, inC (l.take 256) = n := ⟨_, rfl⟩
  have h1 : n ≤ (l.take 256).length := by rw [← hn]; exact inC_le _
  rw [List.length_take] at h1
  have hs : inC (l.take n) = n := by
    have := inC_self (l.take 256)
    rw [hn, List.take_take, Nat.min_eq_left (by omega)] at this
    exact this
  have hlen : (l.take n).length = n := by rw [List.length_take]; omega
  rw [hn]
  cases line_inv n l with
  | hit h q e =>
    rcases h with h | h
    · refine .hit (fun c => ?_) (by show inC (l.take n) = (l.take n).length; rw [hs, hlen]) (by show (l.take n).length ≤ 256; omega) ?_ e
      · have h2 : (l.take n).length = 0 := by rw [show l.take n = [] from c]; rfl
        omega
      · show l = l.take n ++ (crlf.data.toList ++ (lineR n l 0).1)
        rw [← q, List.take_append_drop]
    · subst h
      have := congrArg List.length q
      simp [crlf] at this
  | cut h c e =>
    rcases h with h | h
    · refine .cut (l.take n) (fun c => ?_) (by rw [hs, hlen]) (by omega) ?_ e
      · have h2 : (l.take n).length = 0 := by rw [c]; rfl
        omega
      · have := cut_on (l.take n) c
        rw [List.take_append_drop] at this
        exact this
    · subst h
      exact .cut [65] (by simp) (by decide) (by decide) ⟨List.nil_prefix, by decide⟩ e
  | bad e => exact .bad e
theorem dec_more {n d : Nat} (hn : 1 ≤ n) (hd : d < 10) : Lib.decDigits (10 * n + d) = Lib.decDigits n ++ [UInt8.ofNat (48 + d)] := by
  rw [Lib.decDigits, dif_neg (by omega), show (10 * n + d) / 10 = n by omega, show (10 * n + d) % 10 = d by omega]
inductive Siz (ty : Bool) (l : List UInt8) (R : Nat × List UInt8 × Int) : Prop
  | hit (h : R.1 ≤ 65536) (ht : ty = !decide (R.1 = 0)) (q : l = Lib.decDigits R.1 ++ (crlf.data.toList ++ R.2.1)) (e : R.2.2 = 0)
  | cut (u : Nat) (h : u ≤ 65536) (ht : ty = !decide (u = 0)) (c : Cut l (Lib.decDigits u ++ crlf.data.toList)) (e : R.2.2 = 20)
  | bad (e : R.2.2 = 180)
theorem siz_none {ty : Bool} {l : List UInt8} (n : Nat) : Siz ty l (n, lineR 0 l 0) := by
  cases line_inv 0 l with
  | hit h q e =>
    rcases h with h | h
    · omega
    · subst h
      have := congrArg List.length q
      simp [crlf] at this
  | cut h c e =>
    rcases h with h | h
    · omega
    · subst h
      cases ty with
      | true => exact .cut 1 (by decide) rfl ⟨List.nil_prefix, by simp [crlf]⟩ e
      | false => exact .cut 0 (by decide) rfl ⟨List.nil_prefix, by simp [crlf]⟩ e
  | bad e => exact .bad e
theorem siz_some {ty : Bool} {l cs : List UInt8} {n : Nat} (h1 : l = Lib.decDigits n ++ cs) (h2 : n ≤ 65536) (h3 : ty = !decide (n = 0)) : Siz ty l (n, lineR (Lib.decDigits n).length l 0) := by
  have hd : l.drop (Lib.decDigits n).length = cs := by rw [h1, List.drop_left]
  cases line_inv (Lib.decDigits n).length l with
  | hit h q e =>
    rw [hd] at q
    exact .hit h2 h3 (by rw [← q]; exact h1) e
  | cut h c e =>
    rw [hd] at c
    exact .cut n h2 h3 (by rw [h1]; exact cut_on _ c) e
  | bad e => exact .bad e
theorem sizG_inv (ty : Bool) (l : List UInt8) : ∀ (cs : List UInt8) (i n : Nat), (i = 0 ∧ n = 0 ∧ l = cs) ∨ (i = (Lib.decDigits n).length ∧ l = Lib.decDigits n ++ cs ∧ n ≤ 65536 ∧ ty = !decide (n = 0)) → Siz ty l (sizG ty l 0 cs i n)
  | [], i, n, h => by
    rw [sizG]
    rcases h with ⟨rfl, rfl, rfl⟩ | ⟨rfl, h1, h2, h3⟩
    · exact siz_none 0
    · exact siz_some h1 h2 h3
  | c :: cs, i, n, h => by
    rw [sizG]
    by_cases hc : 48 ≤ c.toNat ∧ c.toNat ≤ 57
    · rw [if_pos hc]
      obtain ⟨d, hd⟩ : ∃ d, c.toNat - 48 = d := ⟨_, rfl⟩
      have hce : c = UInt8.ofNat (48 + d) := by
        rw [show 48 + d = c.toNat by omega]
        exact UInt8.ofNat_toNat.symm
      rw [hd]
      by_cases hb : 65536 < 10 * n + d ∨ (ty = decide (10 * n + d = 0)) ∨ (ty = false ∧ 0 < i)
      · rw [if_pos hb]; exact .bad rfl
      · rw [if_neg hb]
        have b1 : ¬ 65536 < 10 * n + d := fun q => hb (Or.inl q)
        have b2 : ty = !decide (10 * n + d = 0) := by
          have : ¬ ty = decide (10 * n + d = 0) := fun q => hb (Or.inr (Or.inl q))
          cases ty <;> cases hx : decide (10 * n + d = 0) <;> simp_all
        have b3 : ¬ (ty = false ∧ 0 < i) := fun q => hb (Or.inr (Or.inr q))
        refine sizG_inv ty l cs (i + 1) (10 * n + d) (Or.inr ?_)
        rcases h with ⟨rfl, rfl, rfl⟩ | ⟨rfl, h1, h2, h3⟩
        · simp only [Nat.mul_zero, Nat.zero_add] at b1 b2 ⊢
          have e1 : Lib.decDigits d = [UInt8.ofNat (48 + d)] := Lib.decDigits_one (by omega)
          exact ⟨by rw [e1]; rfl, by rw [e1, hce]; rfl, by omega, b2⟩
        · have hl := List.length_pos_iff.2 (dec_ne n)
          have hn : 1 ≤ n := by
            rcases Nat.eq_zero_or_pos n with g | g
            · subst g
              exact absurd ⟨h3, hl⟩ b3
            · exact g
          have e1 := dec_more hn (d := d) (by omega)
          refine ⟨by rw [e1, List.length_append]; rfl, ?_, by omega, b2⟩
          rw [e1, h1, hce, List.append_assoc]
          rfl
    · rw [if_neg hc]
      rcases h with ⟨rfl, rfl, rfl⟩ | ⟨rfl, h1, h2, h3⟩
      · exact siz_none 0
      · exact siz_some h1 h2 h3
theorem siz_inv (ty : Bool) (l : List UInt8) : Siz ty l (sizR ty l 0) := sizG_inv ty l l 0 0 (Or.inl ⟨rfl, rfl, rfl⟩)
/-! ### The stages: what is read is what is written so -/
def St (P : Rp → List UInt8 → Prop) (l : List UInt8) (R : RS) : Prop := (R.2.2 = 0 ∧ ∃ b, P R.1 b ∧ l = b ++ R.2.1) ∨ (R.2.2 = 20 ∧ ∃ r b, P r b ∧ Cut l b) ∨ R.2.2 = 180
theorem St.pre {P P' : Rp → List UInt8 → Prop} {m : List UInt8} {R : RS} (h : St P m R) (A : List UInt8) (f : ∀ r b, P r b → P' r (A ++ b)) : St P' (A ++ m) R := by
  rcases h with ⟨e, b, hb, q⟩ | ⟨e, r, b, hb, c⟩ | e
  · exact Or.inl ⟨e, A ++ b, f _ _ hb, by rw [List.append_assoc, ← q]⟩
  · exact Or.inr (Or.inl ⟨e, r, A ++ b, f _ _ hb, cut_on A c⟩)
  · exact Or.inr (Or.inr e)
theorem byt_e (n : Nat) (l : List UInt8) {e : Int} (he : ¬ e = 0) : (bytesR n l e).2.2 = e := by
  unfold bytesR
  split
  · show failR e 20 = e
    rw [failR, if_neg he]
  · rfl
theorem bod_inv (sz : Nat) (r : Rp) (m : List UInt8) : St (fun r' b => b.length = sz ∧ r' = { r with body := b }) m (bodK sz r (m, 0)) := by
  unfold bodK bytesR
  by_cases h : m.length < sz
  · simp only [if_pos h]
    refine Or.inr (Or.inl ⟨rfl, { r with body := m ++ List.replicate (sz - m.length) 0 }, m ++ List.replicate (sz - m.length) 0, ⟨by simp; omega, rfl⟩, List.prefix_append _ _, by simp; omega⟩)
  · simp only [if_neg h]
    exact Or.inl ⟨rfl, m.take sz, ⟨by rw [List.length_take]; omega, rfl⟩, (List.take_append_drop _ _).symm⟩
inductive KndI (f : Nat) (l : List UInt8) (R : Nat × List UInt8 × Int) : Prop
  | hit (h : f ≤ R.1) (hm : R.1 ≤ kTo f) (q : l = (opn R.1).data.toList ++ R.2.1) (e : R.2.2 = 0)
  | cut (m : Nat) (h : f ≤ m) (hm : m ≤ kTo f) (c : Cut l (opn m).data.toList) (e : R.2.2 = 20)
  | bad (e : R.2.2 = 180)
theorem knd_inv {f : Nat} (hf : f ≤ 4) (l : List UInt8) : KndI f l (kndR f l 0) := by
  have hk : f ≤ kTo f := by unfold kTo; split <;> omega
  unfold kndR
  cases chs_inv (kTx f) l with
  | hit t h q e =>
    have hl := (List.getElem?_eq_some_iff.1 h).1
    have hl2 := kTx_len f
    have ht : t = opn (f + (chs (kTx f) l 0).1) := by
      obtain ⟨i, hi⟩ : ∃ i, (chs (kTx f) l 0).1 = i := ⟨_, rfl⟩
      rw [hi] at h hl ⊢
      rw [kTx, List.getElem?_map, List.getElem?_range (by omega)] at h
      simpa using h.symm
    exact .hit (by show f ≤ f + _; omega) (by show f + (chs (kTx f) l 0).1 ≤ _; omega) (by rw [← ht]; exact q) e
  | cut t h c e =>
    unfold kTx at h
    obtain ⟨j, hj, rfl⟩ := List.mem_map.1 h
    have := List.mem_range.1 hj
    exact .cut (f + j) (by omega) (by omega) c e
  | bad e => exact .bad e
def P4 (sz : Nat) (r r' : Rp) (b : List UInt8) : Prop := ∃ s : List UInt8, s.length = sz ∧ r' = { r with body := s } ∧ b = crlf.data.toList ++ s
theorem rep4_inv (sz : Nat) (r : Rp) (l : List UInt8) : St (P4 sz r) l (rep4 sz r l 0) := by
  unfold rep4
  rw [if_pos rfl]
  cases knd_inv (f := 4) (by omega) l with
  | hit h hm q e =>
    have h4 : (kndR 4 l 0).1 = 4 := knd_4 l 0
    rw [h4, opn4] at q
    obtain ⟨⟨m, e'⟩, hR⟩ : ∃ R, (kndR 4 l 0).2 = R := ⟨_, rfl⟩
    rw [hR] at q e ⊢
    simp only at q e
    subst e
    rw [q]
    exact (bod_inv sz r m).pre _ (fun r' b hb => ⟨b, hb.1, hb.2, rfl⟩)
  | cut m h hm c e =>
    have h4 : m = 4 := by have : kTo 4 = 4 := rfl; omega
    subst h4
    rw [opn4] at c
    refine Or.inr (Or.inl ⟨?_, _, _, ⟨List.replicate sz 0, by simp, rfl, rfl⟩, cut_more c _⟩)
    show (bytesR sz (kndR 4 l 0).2.1 (kndR 4 l 0).2.2).2.2 = 20
    rw [e]
    exact byt_e _ _ (by decide)
  | bad e =>
    refine Or.inr (Or.inr ?_)
    show (bytesR sz (kndR 4 l 0).2.1 (kndR 4 l 0).2.2).2.2 = 180
    rw [e]
    exact byt_e _ _ (by decide)
theorem rep4_e (sz : Nat) (r : Rp) (l : List UInt8) {e : Int} (he : ¬ e = 0) : (rep4 sz r l e).2.2 = e := by unfold rep4; rw [if_neg he]
theorem rep3_e (sz : Nat) (r : Rp) (l : List UInt8) {e : Int} (he : ¬ e = 0) : (rep3 sz r l e).2.2 = e := by unfold rep3; rw [if_neg he]
theorem rep2_e (sz : Nat) (r : Rp) (l : List UInt8) {e : Int} (he : ¬ e = 0) : (rep2 sz r l e).2.2 = e := by unfold rep2; rw [if_neg he]
theorem cok_e (sz : Nat) (r : Rp) (l : List UInt8) {e : Int} (he : ¬ e = 0) : (cokK sz r (l, e)).2.2 = e := by
  unfold cokK
  have : (cookR l e).2.2 = e := line_e _ l he
  rw [this]
  exact rep3_e _ _ _ he
def P3 (sz : Nat) (r r' : Rp) (b : List UInt8) : Prop := ∃ (s : List UInt8) (c : Bool), s.length = sz ∧ r' = { r with body := s, close := c } ∧ b = clP c ++ (crlf.data.toList ++ s)
theorem rep3_inv (sz : Nat) (r : Rp) (hr : r.close = false) (l : List UInt8) : St (P3 sz r) l (rep3 sz r l 0) := by
  unfold rep3
  rw [if_pos rfl]
  obtain ⟨⟨k, m, e'⟩, hR⟩ : ∃ R, kndR 3 l 0 = R := ⟨_, rfl⟩
  have hI := knd_inv (f := 3) (by omega) l
  rw [hR] at hI ⊢
  have err : ¬ e' = 0 → ((if k = 3 then rep4 sz { r with close := true } m e' else bodK sz r (m, e')) : RS).2.2 = e' := fun he => by
    split
    · exact rep4_e _ _ _ he
    · exact byt_e _ _ he
  simp only
  cases hI with
  | hit h hm q e =>
    simp only at h hm q e
    subst e
    by_cases hk : k = 3
    · subst hk
      rw [if_pos rfl, q]
      refine (rep4_inv sz { r with close := true } m).pre _ (fun r' b hb => ?_)
      obtain ⟨s, h1, rfl, rfl⟩ := hb
      exact ⟨s, true, h1, rfl, rfl⟩
    · have h4 : k = 4 := by have : kTo 3 = 4 := rfl; omega
      subst h4
      rw [if_neg hk, q, opn4]
      refine (bod_inv sz r m).pre _ (fun r' b hb => ⟨b, false, hb.1, ?_, rfl⟩)
      rw [hb.2, ← hr]
  | cut j h hm c e =>
    simp only at e
    subst e
    refine Or.inr (Or.inl ⟨err (by decide), ?_⟩)
    have : j = 3 ∨ j = 4 := by have : kTo 3 = 4 := rfl; omega
    rcases this with rfl | rfl
    · exact ⟨_, _, ⟨List.replicate sz 0, true, by simp, rfl, rfl⟩, cut_more c _⟩
    · refine ⟨_, _, ⟨List.replicate sz 0, false, by simp, rfl, rfl⟩, ?_⟩
      rw [opn4] at c
      exact cut_more c (List.replicate sz 0)
  | bad e =>
    simp only at e
    subst e
    exact Or.inr (Or.inr (err (by decide)))
def P2 (sz : Nat) (r r' : Rp) (b : List UInt8) : Prop := ∃ (s : List UInt8) (c : Bool) (k : List UInt8), s.length = sz ∧ inC k = k.length ∧ k.length ≤ 256 ∧ r' = { r with body := s, close := c, cookie := k } ∧ b = ckP k ++ (clP c ++ (crlf.data.toList ++ s))
theorem P2.any (sz : Nat) (r : Rp) (c : Bool) (k : List UInt8) (h1 : inC k = k.length) (h2 : k.length ≤ 256) : P2 sz r { r with body := List.replicate sz 0, close := c, cookie := k } (ckP k ++ (clP c ++ (crlf.data.toList ++ List.replicate sz 0))) := ⟨_, c, k, by simp, h1, h2, rfl, rfl⟩
theorem ckP_ne {k : List UInt8} (h : k ≠ []) : ckP k = (opn 2).data.toList ++ (k ++ crlf.data.toList) := by
  unfold ckP
  rw [if_neg (fun q => h (List.isEmpty_iff.1 q))]
theorem cok_inv (sz : Nat) (r : Rp) (hr : r.close = false) (m : List UInt8) : St (P2 sz r) ((opn 2).data.toList ++ m) (cokK sz r (m, 0)) := by
  unfold cokK
  simp only
  cases cook_inv m with
  | hit n h hl q e =>
    obtain ⟨⟨k, m', e'⟩, hR⟩ : ∃ R, cookR m 0 = R := ⟨_, rfl⟩
    rw [hR] at n h hl q e ⊢
    simp only at n h hl q e ⊢
    subst e
    rw [q, ← List.append_assoc k, ← List.append_assoc, ← ckP_ne n]
    refine (rep3_inv sz { r with cookie := k } hr m').pre _ (fun r' b hb => ?_)
    obtain ⟨s, c, h1, rfl, rfl⟩ := hb
    exact ⟨s, c, k, h1, h, hl, rfl, rfl⟩
  | cut k n h hl c e =>
    refine Or.inr (Or.inl ⟨?_, _, _, P2.any sz r false k h hl, ?_⟩)
    · rw [e]; exact rep3_e _ _ _ (by decide)
    · rw [ckP_ne n]
      exact cut_more (cut_on _ c) _
  | bad e =>
    refine Or.inr (Or.inr ?_)
    rw [e]; exact rep3_e _ _ _ (by decide)
theorem rep2_inv (sz : Nat) (r : Rp) (hr : r.close = false) (hk0 : r.cookie = []) (l : List UInt8) : St (P2 sz r) l (rep2 sz r l 0) := by
  unfold rep2
  rw [if_pos rfl]
  obtain ⟨⟨k, m, e'⟩, hR⟩ : ∃ R, kndR 2 l 0 = R := ⟨_, rfl⟩
  have hI := knd_inv (f := 2) (by omega) l
  rw [hR] at hI ⊢
  have err : ¬ e' = 0 → ((if k = 2 then cokK sz r (m, e') else if k = 3 then rep4 sz { r with close := true } m e' else bodK sz r (m, e')) : RS).2.2 = e' := fun he => by
    split
    · exact cok_e _ _ _ he
    · split
      · exact rep4_e _ _ _ he
      · exact byt_e _ _ he
  simp only
  cases hI with
  | hit h hm q e =>
    simp only at h hm q e
    subst e
    by_cases hk : k = 2
    · subst hk
      rw [if_pos rfl, q]
      exact cok_inv sz r hr m
    · rw [if_neg hk]
      by_cases hk3 : k = 3
      · subst hk3
        rw [if_pos rfl, q]
        refine (rep4_inv sz { r with close := true } m).pre _ (fun r' b hb => ?_)
        obtain ⟨s, h1, rfl, rfl⟩ := hb
        exact ⟨s, true, [], h1, rfl, by simp, by rw [hk0], rfl⟩
      · have h4 : k = 4 := by have : kTo 2 = 4 := rfl; omega
        subst h4
        rw [if_neg hk3, q, opn4]
        refine (bod_inv sz r m).pre _ (fun r' b hb => ⟨b, false, [], hb.1, rfl, by simp, ?_, rfl⟩)
        rw [hb.2, ← hr, ← hk0]
  | cut j h hm c e =>
    simp only at e
    subst e
    refine Or.inr (Or.inl ⟨err (by decide), ?_⟩)
    have : j = 2 ∨ j = 3 ∨ j = 4 := by have : kTo 2 = 4 := rfl; omega
    rcases this with rfl | rfl | rfl
    · refine ⟨_, _, P2.any sz r false [65] (by decide) (by decide), ?_⟩
      rw [ckP_ne (by simp)]
      exact cut_more (cut_more c _) _
    · exact ⟨_, _, P2.any sz r true [] rfl (by simp), cut_more c _⟩
    · refine ⟨_, _, P2.any sz r false [] rfl (by simp), ?_⟩
      rw [opn4] at c
      exact cut_more c (List.replicate sz 0)
  | bad e =>
    simp only at e
    subst e
    exact Or.inr (Or.inr (err (by decide)))
theorem siz_e (ty : Bool) (l : List UInt8) {e : Int} (he : ¬ e = 0) : ∀ (q : List UInt8) (i n : Nat), (sizG ty l e q i n).2.2 = e
  | [], i, n => line_e i l he
  | c :: cs, i, n => by
    rw [sizG]
    split
    · split
      · show failR e 180 = e
        rw [failR, if_neg he]
      · exact siz_e ty l he cs _ _
    · exact line_e i l he
theorem sk_e (ty : Bool) (r : Rp) (l : List UInt8) {e : Int} (he : ¬ e = 0) : (sizK ty r (l, e)).2.2 = e := by
  unfold sizK
  have : (sizR ty l e).2.2 = e := siz_e ty l he l 0 0
  rw [this]
  exact rep2_e _ _ _ he
def PS (ty : Bool) (r r' : Rp) (b : List UInt8) : Prop := ∃ (sz : Nat) (X : List UInt8), sz ≤ 65536 ∧ ty = !decide (sz = 0) ∧ P2 sz r r' X ∧ b = lnP sz ++ X
theorem sk_inv (ty : Bool) (r : Rp) (hr : r.close = false) (hk0 : r.cookie = []) (m : List UInt8) : St (PS ty r) ((opn 1).data.toList ++ m) (sizK ty r (m, 0)) := by
  unfold sizK
  simp only
  cases siz_inv ty m with
  | hit h ht q e =>
    obtain ⟨⟨k, m', e'⟩, hR⟩ : ∃ R, sizR ty m 0 = R := ⟨_, rfl⟩
    rw [hR] at h ht q e ⊢
    simp only at h ht q e ⊢
    subst e
    rw [q, ← List.append_assoc (Lib.decDigits k), ← List.append_assoc]
    exact (rep2_inv k r hr hk0 m').pre _ (fun r' b hb => ⟨k, b, h, ht, hb, rfl⟩)
  | cut u h ht c e =>
    refine Or.inr (Or.inl ⟨?_, _, _, ⟨u, _, h, ht, P2.any u r false [] rfl (by simp), rfl⟩, ?_⟩)
    · rw [e]; exact rep2_e _ _ _ (by decide)
    · unfold lnP
      exact cut_more (cut_on _ c) _
  | bad e =>
    refine Or.inr (Or.inr ?_)
    rw [e]; exact rep2_e _ _ _ (by decide)
theorem PS.any (ty : Bool) (r : Rp) : ∃ r' X, PS ty r r' ((opn 1).data.toList ++ X) := by
  cases ty with
  | true => exact ⟨_, _, 1, _, by decide, rfl, P2.any 1 r false [] rfl (by simp), by unfold lnP; rw [List.append_assoc]⟩
  | false => exact ⟨_, _, 0, _, by decide, rfl, P2.any 0 r false [] rfl (by simp), by unfold lnP; rw [List.append_assoc]⟩
theorem rep1_inv (r : Rp) (hr : r.close = false) (hk0 : r.cookie = []) (l : List UInt8) : St (PS true r) l (rep1 true r l 0) := by
  unfold rep1
  rw [if_pos rfl]
  obtain ⟨⟨k, m, e'⟩, hR⟩ : ∃ R, kndR 1 l 0 = R := ⟨_, rfl⟩
  have hI := knd_inv (f := 1) (by omega) l
  rw [hR] at hI ⊢
  simp only
  cases hI with
  | hit h hm q e =>
    simp only at h hm q e
    subst e
    have h1 : k = 1 := by have : kTo 1 = 1 := rfl; omega
    subst h1
    rw [q]
    exact sk_inv true r hr hk0 m
  | cut j h hm c e =>
    simp only at e
    subst e
    have h1 : j = 1 := by have : kTo 1 = 1 := rfl; omega
    subst h1
    obtain ⟨r', X, hX⟩ := PS.any true r
    exact Or.inr (Or.inl ⟨sk_e _ _ _ (by decide), r', _, hX, cut_more c _⟩)
  | bad e =>
    simp only at e
    subst e
    exact Or.inr (Or.inr (sk_e _ _ _ (by decide)))
def P0 (r r' : Rp) (b : List UInt8) : Prop := ∃ (s : List UInt8) (c : Bool) (k : List UInt8), s.length ≤ 65536 ∧ inC k = k.length ∧ k.length ≤ 256 ∧ r' = { r with body := s, close := c, cookie := k } ∧ b = tyP s ++ (lnP s.length ++ (ckP k ++ (clP c ++ (crlf.data.toList ++ s))))
theorem P0.of_true {r r' : Rp} {b : List UInt8} (h : PS true r r' b) : P0 r r' ((opn 0).data.toList ++ b) := by
  obtain ⟨sz, X, h1, h2, ⟨s, c, k, rfl, q1, q2, rfl, rfl⟩, rfl⟩ := h
  have hs : s.isEmpty = false := by
    cases s with
    | nil => simp at h2
    | cons => rfl
  exact ⟨s, c, k, h1, q1, q2, rfl, by unfold tyP; rw [hs]; rfl⟩
theorem P0.of_false {r r' : Rp} {b : List UInt8} (h : PS false r r' b) : P0 r r' b := by
  obtain ⟨sz, X, h1, h2, ⟨s, c, k, rfl, q1, q2, rfl, rfl⟩, rfl⟩ := h
  have hs : s = [] := by
    have : s.length = 0 := by simpa using h2
    exact List.eq_nil_of_length_eq_zero this
  subst hs
  exact ⟨[], c, k, h1, q1, q2, rfl, rfl⟩
theorem rep0_inv (r : Rp) (hr : r.close = false) (hk0 : r.cookie = []) (l : List UInt8) : St (P0 r) l (rep0 false r l 0) := by
  unfold rep0
  rw [if_pos rfl]
  obtain ⟨⟨k, m, e'⟩, hR⟩ : ∃ R, kndR 0 l 0 = R := ⟨_, rfl⟩
  have hI := knd_inv (f := 0) (by omega) l
  rw [hR] at hI ⊢
  have err : ¬ e' = 0 → ((if k = 0 then rep1 true r m e' else sizK false r (m, e')) : RS).2.2 = e' := fun he => by
    split
    · unfold rep1; rw [if_neg he]
    · exact sk_e _ _ _ he
  simp only
  cases hI with
  | hit h hm q e =>
    simp only at h hm q e
    subst e
    by_cases hk : k = 0
    · subst hk
      rw [if_pos rfl, q]
      exact (rep1_inv r hr hk0 m).pre _ (fun r' b hb => P0.of_true hb)
    · have h1 : k = 1 := by have : kTo 0 = 1 := rfl; omega
      subst h1
      rw [if_neg hk, q]
      have := (sk_inv false r hr hk0 m).pre (P' := P0 r) [] (fun r' b hb => P0.of_false hb)
      exact this
  | cut j h hm c e =>
    simp only at e
    subst e
    refine Or.inr (Or.inl ⟨err (by decide), ?_⟩)
    have : j = 0 ∨ j = 1 := by have : kTo 0 = 1 := rfl; omega
    rcases this with rfl | rfl
    · obtain ⟨r', X, hX⟩ := PS.any true r
      exact ⟨r', _, P0.of_true hX, cut_more c _⟩
    · obtain ⟨r', X, hX⟩ := PS.any false r
      exact ⟨r', _, P0.of_false hX, cut_more c _⟩
  | bad e =>
    simp only at e
    subst e
    exact Or.inr (Or.inr (err (by decide)))
theorem sts_some : ∀ z ∈ sts, (phF phL z).isSome = true := by decide +kernel
theorem ok_of {r : Rp} (h1 : r.status ∈ sts) (h2 : r.body.length ≤ 65536) (h3 : r.status = 204 → r.body = []) (h4 : r.cookie.length ≤ 256) (h5 : inC r.cookie = r.cookie.length) : okR r = true := by
  unfold okR
  rw [sts_some _ h1]
  simp only [Bool.true_and, Bool.and_eq_true, decide_eq_true_eq, Bool.not_eq_true']
  refine ⟨⟨⟨h2, ?_⟩, h4⟩, h5⟩
  by_cases g : r.status = 204
  · rw [h3 g]; simp
  · simp [g]
theorem wr_eq {r : Rp} (h : okR r = true) : wrL r = (lnS r.status (wordsR r.status)).data.toList ++ (hdP r ++ (ckP r.cookie ++ (clP r.close ++ (crlf.data.toList ++ r.body)))) := by
  have := wr_parts h []
  rw [List.append_nil, List.append_nil] at this
  exact this
def PW (r : Rp) (b : List UInt8) : Prop := okR r = true ∧ b = wrL r
theorem PW.of2 {r : Rp} {b : List UInt8} (h : P2 0 (rpl0 204) r b) : PW r ((lnS 204 (wordsR 204)).data.toList ++ b) := by
  obtain ⟨s, c, k, h0, q1, q2, rfl, rfl⟩ := h
  have hs : s = [] := List.eq_nil_of_length_eq_zero h0
  subst hs
  have hok : okR { rpl0 204 with body := [], close := c, cookie := k } = true := ok_of (by show (204 : Int) ∈ sts; decide) (by simp) (fun _ => rfl) q2 q1
  refine ⟨hok, ?_⟩
  rw [wr_eq hok]
  rfl
theorem PW.of0 {z : Int} (hz : z ∈ sts) (hn : ¬ z = 204) {r : Rp} {b : List UInt8} (h : P0 (rpl0 z) r b) : PW r ((lnS z (wordsR z)).data.toList ++ b) := by
  obtain ⟨s, c, k, h0, q1, q2, rfl, rfl⟩ := h
  have hok : okR { rpl0 z with body := s, close := c, cookie := k } = true := ok_of hz h0 (fun q => absurd q hn) q2 q1
  refine ⟨hok, ?_⟩
  rw [wr_eq hok]
  show _ = (lnS z (wordsR z)).data.toList ++ ((if z = 204 then [] else tyP s ++ lnP s.length) ++ (ckP k ++ (clP c ++ (crlf.data.toList ++ s))))
  rw [if_neg hn, List.append_assoc (tyP s)]
theorem PW.any {z : Int} (hz : z ∈ sts) : ∃ r X, PW r ((lnS z (wordsR z)).data.toList ++ X) := by
  by_cases hn : z = 204
  · subst hn
    exact ⟨_, _, PW.of2 (P2.any 0 (rpl0 204) false [] rfl (by simp))⟩
  · exact ⟨_, _, PW.of0 hz hn ⟨[], false, [], by simp, rfl, by simp, rfl, rfl⟩⟩
theorem rep_inv (l : List UInt8) : St PW l (repR l) := by
  unfold repR staR
  obtain ⟨⟨i, m, e'⟩, hR⟩ : ∃ R, chs stL l 0 = R := ⟨_, rfl⟩
  have hI := chs_inv stL l
  rw [hR] at hI ⊢
  simp only
  cases hI with
  | hit t h q e =>
    simp only at h q e
    subst e
    unfold stL at h
    rw [List.getElem?_map] at h
    obtain ⟨z, hz, rfl⟩ := Option.map_eq_some_iff.1 h
    have hm := List.mem_of_getElem? hz
    have hg : sts.getD i 0 = z := by rw [List.getD_eq_getElem?_getD, hz]; rfl
    rw [hg, q]
    by_cases hn : z = 204
    · subst hn
      rw [if_pos rfl]
      exact (rep2_inv 0 (rpl0 204) rfl rfl m).pre _ (fun r b hb => PW.of2 hb)
    · rw [if_neg hn]
      exact (rep0_inv (rpl0 z) rfl rfl m).pre _ (fun r b hb => PW.of0 hm hn hb)
  | cut t h c e =>
    simp only at e
    subst e
    obtain ⟨z, hz, rfl⟩ := List.mem_map.1 h
    obtain ⟨r, X, hX⟩ := PW.any hz
    refine Or.inr (Or.inl ⟨?_, r, _, hX, cut_more c _⟩)
    rw [repK_stop _ _ _ _ _ (by decide)]
  | bad e =>
    simp only at e
    subst e
    refine Or.inr (Or.inr ?_)
    rw [repK_stop _ _ _ _ _ (by decide)]
/-- What a text is, as a reply: a reply's bytes, and what stands behind; or a piece of a reply's bytes; or neither. -/
theorem par_inv (l : List UInt8) : (∃ r q, okR r = true ∧ l = wrL r ++ q ∧ parR l = (r, (wrL r).length, 0)) ∨ (∃ r, okR r = true ∧ Cut l (wrL r) ∧ parR l = (rpl0 0, 0, 20)) ∨ parR l = (rpl0 0, 0, 180) := by
  rcases rep_inv l with ⟨e, b, ⟨h1, rfl⟩, q⟩ | ⟨e, r, b, ⟨h1, rfl⟩, c⟩ | e
  · refine Or.inl ⟨_, _, h1, q, ?_⟩
    conv => lhs; rw [q]
    exact par_wr h1 _
  · exact Or.inr (Or.inl ⟨r, h1, c, par_cut h1 c⟩)
  · refine Or.inr (Or.inr ?_)
    unfold parR
    rw [if_neg (by rw [e]; decide), e]
/-- Whatever tells the same three apart is this. -/
theorem par_of {l : List UInt8} {R : Rp × Nat × Int} (h0 : R.2.2 = 0 → okR R.1 = true ∧ (∃ q, l = wrL R.1 ++ q) ∧ R.2.1 = (wrL R.1).length) (h1 : ¬ R.2.2 = 0 → R.1 = rpl0 0 ∧ R.2.1 = 0 ∧ (R.2.2 = 20 ∨ R.2.2 = 180)) (h2 : ∀ r q, okR r = true → l = wrL r ++ q → R.2.2 = 0) (h3 : (∃ r, okR r = true ∧ Cut l (wrL r)) ↔ R.2.2 = 20) : R = parR l := by
  by_cases e : R.2.2 = 0
  · obtain ⟨a, ⟨q, b⟩, c⟩ := h0 e
    conv => rhs; rw [b]
    rw [par_wr a q, ← c, ← e]
  · obtain ⟨a, b, c⟩ := h1 e
    have hR : R = (rpl0 0, 0, R.2.2) := by rw [← a, ← b]
    rcases par_inv l with ⟨r, q, g1, g2, _⟩ | ⟨r, g1, g2, g3⟩ | g3
    · exact absurd (h2 r q g1 g2) e
    · rw [g3, hR, h3.1 ⟨r, g1, g2⟩]
    · rcases c with c | c
      · obtain ⟨r, g1, g2⟩ := h3.2 c
        rw [par_cut g1 g2, hR, c]
      · rw [g3, hR, c]
end Go.Proofs.YtdkbgbhcnbmlfaaDoor
