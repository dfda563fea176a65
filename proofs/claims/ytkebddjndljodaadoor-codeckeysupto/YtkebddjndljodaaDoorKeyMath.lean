/-
  Keys as bytes: the order of parts is the order of their bytes, and what begins with some parts stands in their range.
-/
import Derived.Test.YtkebddjndljodaaDoorBackMath
import Derived.Lib.Replace
namespace Go.Proofs.YtkebddjndljodaaDoor
open Go.RowKit
/-- A part of a key. -/
structure Prt where
  text : ByteArray
  num : Nat
  isNum : Bool
deriving DecidableEq
/-- A part may be: a number has no text, a text no number. -/
def Prt.ok (p : Prt) : Prop := p.num < 18446744073709551616 ∧ (p.isNum = true → p.text.data.toList = []) ∧ (p.isNum = false → p.num = 0)
/-- A text, each 0 with a byte behind it. -/
def esc : List UInt8 → List UInt8
  | [] => []
  | c :: l => if c = 0 then 0 :: 255 :: esc l else c :: esc l
/-- A part's bytes. -/
def enc (p : Prt) : List UInt8 := if p.isNum then 1 :: be8 p.num else 2 :: (esc p.text.data.toList ++ [0])
/-- A key's bytes. -/
def keyOf (l : List Prt) : List UInt8 := l.flatMap enc
theorem keyOf_cons (p : Prt) (l : List Prt) : keyOf (p :: l) = enc p ++ keyOf l := by simp [keyOf]
theorem keyOf_snoc (p : Prt) (l : List Prt) : keyOf (l ++ [p]) = keyOf l ++ enc p := by simp [keyOf]
/-- Bytes below others. -/
abbrev Lt (a b : List UInt8) : Prop := Op.bytesLess a b = true
theorem lt_common (c x y : List UInt8) : Op.bytesLess (c ++ x) (c ++ y) = Op.bytesLess x y := by
  induction c with
  | nil => rfl
  | cons a c ih => simp [Op.bytesLess, ih, UInt8.lt_irrefl]
theorem lt_irr (a : List UInt8) : ¬ Lt a a := by
  induction a with
  | nil => simp [Lt, Op.bytesLess]
  | cons c a ih => simpa [Lt, Op.bytesLess, UInt8.lt_irrefl] using ih
theorem u8_asymm {a b : UInt8} (h : a < b) : ¬ b < a := by
  rw [UInt8.lt_iff_toNat_lt] at *; omega
theorem lt_asymm : ∀ (a b : List UInt8), Lt a b → ¬ Lt b a
  | a, [] => fun h => by simp [Lt, Op.bytesLess] at h
  | [], b :: y => fun _ => by simp [Lt, Op.bytesLess]
  | a :: x, b :: y => fun h k => by
    simp only [Lt, Op.bytesLess, Bool.or_eq_true, decide_eq_true_eq, Bool.and_eq_true, beq_iff_eq] at h k
    rcases h with h | ⟨rfl, h⟩
    · rcases k with k | ⟨rfl, k⟩
      · exact u8_asymm h k
      · exact absurd h (UInt8.lt_irrefl _)
    · rcases k with k | ⟨_, k⟩
      · exact absurd k (UInt8.lt_irrefl _)
      · exact lt_asymm x y h k
theorem lt_tri : ∀ (a b : List UInt8), a = b ∨ Lt a b ∨ Lt b a
  | [], [] => Or.inl rfl
  | [], b :: y => Or.inr (Or.inl (by simp [Lt, Op.bytesLess]))
  | a :: x, [] => Or.inr (Or.inr (by simp [Lt, Op.bytesLess]))
  | a :: x, b :: y => by
    have h3 : a < b ∨ a = b ∨ b < a := by
      rw [UInt8.lt_iff_toNat_lt, UInt8.lt_iff_toNat_lt, ← UInt8.toNat_inj]; omega
    simp only [Lt, Op.bytesLess, Bool.or_eq_true, decide_eq_true_eq, Bool.and_eq_true, beq_iff_eq]
    rcases h3 with h | rfl | h
    · exact Or.inr (Or.inl (Or.inl h))
    · rcases lt_tri x y with h | h | h
      · exact Or.inl (by rw [h])
      · exact Or.inr (Or.inl (Or.inr ⟨rfl, h⟩))
      · exact Or.inr (Or.inr (Or.inr ⟨rfl, h⟩))
    · exact Or.inr (Or.inr (Or.inl h))
/-- Numbers of as many bytes are in order as their bytes are. -/
theorem foldl_be (l : List UInt8) (x : Nat) : l.foldl (fun a c => a * 256 + c.toNat) x = x * 256 ^ l.length + l.foldl (fun a c => a * 256 + c.toNat) 0 := by
  induction l generalizing x with
  | nil => simp
  | cons c l ih =>
    simp only [List.foldl_cons, List.length_cons]
    rw [ih, ih (0 * 256 + c.toNat), Nat.pow_succ, Nat.add_mul, Nat.zero_mul, Nat.zero_add, Nat.add_assoc, Nat.mul_assoc, Nat.mul_comm 256]
theorem beLt (l : List UInt8) : l.foldl (fun a c => a * 256 + c.toNat) 0 < 256 ^ l.length := by
  induction l with
  | nil => simp
  | cons c l ih =>
    rw [List.foldl_cons, foldl_be, List.length_cons, Nat.pow_succ]
    have hc := c.toNat_lt
    have : (0 * 256 + c.toNat) * 256 ^ l.length ≤ 255 * 256 ^ l.length := Nat.mul_le_mul_right _ (by omega)
    omega
theorem lt_of_be : ∀ (a b R S : List UInt8), a.length = b.length → a.foldl (fun a c => a * 256 + c.toNat) 0 < b.foldl (fun a c => a * 256 + c.toNat) 0 → Lt (a ++ R) (b ++ S)
  | [], [], _, _, _, h => by simp at h
  | [], _ :: _, _, _, hl, _ => by simp at hl
  | _ :: _, [], _, _, hl, _ => by simp at hl
  | c :: a, d :: b, R, S, hl, h => by
    have hl' : a.length = b.length := by simpa using hl
    rw [List.foldl_cons, List.foldl_cons, foldl_be a, foldl_be b, ← hl'] at h
    simp only [Nat.zero_mul, Nat.zero_add] at h
    have ha := beLt a
    have hb := beLt b
    rw [← hl'] at hb
    simp only [Lt, List.cons_append, Op.bytesLess, Bool.or_eq_true, decide_eq_true_eq, Bool.and_eq_true, beq_iff_eq]
    rcases Nat.lt_trichotomy c.toNat d.toNat with h1 | h1 | h1
    · exact Or.inl (UInt8.lt_iff_toNat_lt.2 h1)
    · refine Or.inr ⟨UInt8.toNat_inj.1 h1, lt_of_be a b R S hl' ?_⟩
      rw [h1] at h; omega
    · have := Nat.mul_le_mul_right (256 ^ a.length) (show d.toNat + 1 ≤ c.toNat by omega)
      rw [Nat.add_mul, Nat.one_mul] at this
      omega
theorem be8_len (n : Nat) : (be8 n).length = 8 := rfl
theorem be8_lt {n m : Nat} (hn : n < 18446744073709551616) (hm : m < 18446744073709551616) (h : n < m) (R S : List UInt8) : Lt (be8 n ++ R) (be8 m ++ S) := by
  refine lt_of_be _ _ R S rfl ?_
  have h1 := beNat8 hn
  have h2 := beNat8 hm
  unfold beNat at h1 h2
  rw [h1, h2]; exact h
/-- What may stand behind a part: nothing, FF alone, or a lower byte first. -/
def Tame (R : List UInt8) : Prop := R = [] ∨ R = [255] ∨ ∃ c R', R = c :: R' ∧ c < 255
theorem esc_lt : ∀ (x y : List UInt8), Lt x y → ∀ R S, Tame R → Lt (esc x ++ 0 :: R) (esc y ++ 0 :: S)
  | _, [], h, _, _, _ => by simp [Lt, Op.bytesLess] at h
  | [], c :: t, _, R, S, hR => by
    by_cases hc : c = 0
    · subst hc
      simp only [esc, if_pos, List.nil_append, List.cons_append, Lt, Op.bytesLess, Bool.or_eq_true, decide_eq_true_eq, Bool.and_eq_true, beq_iff_eq]
      refine Or.inr ⟨trivial, ?_⟩
      rcases hR with rfl | rfl | ⟨r, R', rfl, hr⟩
      · simp [Op.bytesLess]
      · cases h : esc t with
        | nil => simp [Op.bytesLess]
        | cons a l => simp [Op.bytesLess]
      · simp [Op.bytesLess, hr]
    · simp only [esc, if_neg hc, List.nil_append, List.cons_append, Lt, Op.bytesLess, Bool.or_eq_true, decide_eq_true_eq, Bool.and_eq_true, beq_iff_eq]
      refine Or.inl (UInt8.lt_iff_toNat_lt.2 ?_)
      have : c.toNat ≠ 0 := fun h => hc (UInt8.toNat_inj.1 (by simpa using h))
      simp; omega
  | a :: x, b :: y, h, R, S, hR => by
    simp only [Lt, Op.bytesLess, Bool.or_eq_true, decide_eq_true_eq, Bool.and_eq_true, beq_iff_eq] at h
    rcases h with h | ⟨rfl, h⟩
    · have hb : b ≠ 0 := by rintro rfl; rw [UInt8.lt_iff_toNat_lt] at h; simp at h
      by_cases ha : a = 0
      · subst ha
        simp [Lt, esc, hb, Op.bytesLess, h]
      · simp [Lt, esc, ha, hb, Op.bytesLess, h]
    · have ih := esc_lt x y h R S hR
      by_cases ha : a = 0
      · subst ha
        simpa [Lt, esc, Op.bytesLess] using ih
      · simpa [Lt, esc, ha, Op.bytesLess] using ih
/-- A part below another, as the words have it. -/
def below1 (x y : Prt) : Bool := if x.isNum != y.isNum then x.isNum else if x.isNum then decide (x.num < y.num) else Op.bytesLess x.text.data.toList y.text.data.toList
theorem enc_lt {x y : Prt} (hx : x.ok) (hy : y.ok) (h : below1 x y = true) (R S : List UInt8) (hR : Tame R) : Lt (enc x ++ R) (enc y ++ S) := by
  obtain ⟨xt, xn, xi⟩ := x
  obtain ⟨yt, yn, yi⟩ := y
  unfold below1 at h
  cases xi <;> cases yi <;> simp [enc] at h ⊢
  · rw [Lt, show Op.bytesLess (2 :: (esc xt.data.toList ++ 0 :: R)) (2 :: (esc yt.data.toList ++ 0 :: S)) = Op.bytesLess (esc xt.data.toList ++ 0 :: R) (esc yt.data.toList ++ 0 :: S) by simp [Op.bytesLess]]
    exact esc_lt _ _ h R S hR
  · simp [Lt, Op.bytesLess]
  · rw [Lt, show Op.bytesLess (1 :: (be8 xn ++ R)) (1 :: (be8 yn ++ S)) = Op.bytesLess (be8 xn ++ R) (be8 yn ++ S) by simp [Op.bytesLess]]
    exact be8_lt hx.1 hy.1 h R S
theorem below1_tri {x y : Prt} (hx : x.ok) (hy : y.ok) : x = y ∨ below1 x y = true ∨ below1 y x = true := by
  obtain ⟨xt, xn, xi⟩ := x
  obtain ⟨yt, yn, yi⟩ := y
  obtain ⟨_, hx1, hx2⟩ := hx
  obtain ⟨_, hy1, hy2⟩ := hy
  unfold below1
  cases xi <;> cases yi <;> simp at hx1 hx2 hy1 hy2 ⊢
  · subst hx2 hy2
    rcases lt_tri xt.data.toList yt.data.toList with h | h | h
    · exact Or.inl ⟨bytes_ext' h, rfl⟩
    · exact Or.inr (Or.inl h)
    · exact Or.inr (Or.inr h)
  · have : xt = yt := bytes_ext' (by rw [hx1, hy1])
    subst this
    simp; omega
theorem below1_asymm {x y : Prt} (h : below1 x y = true) : below1 y x = false := by
  obtain ⟨xt, xn, xi⟩ := x
  obtain ⟨yt, yn, yi⟩ := y
  unfold below1 at *
  cases xi <;> cases yi <;> simp at h ⊢
  · have := lt_asymm _ _ h
    simpa [Lt] using this
  · omega
/-- Parts below others. -/
def below : List Prt → List Prt → Bool
  | [], [] => false
  | [], _ :: _ => true
  | _ :: _, [] => false
  | x :: a, y :: b => if x = y then below a b else below1 x y
theorem enc_cons (p : Prt) : ∃ c l, enc p = c :: l ∧ c < 255 := by
  unfold enc
  split
  · exact ⟨1, _, rfl, by decide⟩
  · exact ⟨2, _, rfl, by decide⟩
theorem keyOf_tame (l : List Prt) : Tame (keyOf l) := by
  cases l with
  | nil => exact Or.inl rfl
  | cons p l =>
    obtain ⟨c, t, h, hc⟩ := enc_cons p
    exact Or.inr (Or.inr ⟨c, t ++ keyOf l, by rw [keyOf_cons, h]; rfl, hc⟩)
theorem keyOf_tame' (l : List Prt) : Tame (keyOf l ++ [255]) := by
  cases l with
  | nil => exact Or.inr (Or.inl rfl)
  | cons p l =>
    obtain ⟨c, t, h, hc⟩ := enc_cons p
    exact Or.inr (Or.inr ⟨c, t ++ keyOf l ++ [255], by rw [keyOf_cons, h]; rfl, hc⟩)
theorem key_order : ∀ (a b : List Prt), (∀ p ∈ a, p.ok) → (∀ p ∈ b, p.ok) → Op.bytesLess (keyOf a) (keyOf b) = below a b
  | [], [], _, _ => rfl
  | [], y :: b, _, _ => by
    obtain ⟨c, t, h, _⟩ := enc_cons y
    rw [keyOf_cons, h]; rfl
  | x :: a, [], _, _ => by
    obtain ⟨c, t, h, _⟩ := enc_cons x
    rw [keyOf_cons, h]; rfl
  | x :: a, y :: b, ha, hb => by
    rw [keyOf_cons, keyOf_cons, below]
    by_cases h : x = y
    · subst h
      rw [if_pos rfl, lt_common]
      exact key_order a b (fun p hp => ha p (by simp [hp])) (fun p hp => hb p (by simp [hp]))
    · rw [if_neg h]
      have hx := ha x (by simp)
      have hy := hb y (by simp)
      rcases below1_tri hx hy with e | e | e
      · exact absurd e h
      · rw [e]; exact enc_lt hx hy e _ _ (keyOf_tame a)
      · rw [below1_asymm e]
        have := lt_asymm _ _ (enc_lt hy hx e _ (keyOf a) (keyOf_tame b))
        simpa [Lt] using this
theorem below_tri : ∀ (a b : List Prt), (∀ p ∈ a, p.ok) → (∀ p ∈ b, p.ok) → a = b ∨ below a b = true ∨ below b a = true
  | [], [], _, _ => Or.inl rfl
  | [], y :: b, _, _ => Or.inr (Or.inl rfl)
  | x :: a, [], _, _ => Or.inr (Or.inr rfl)
  | x :: a, y :: b, ha, hb => by
    by_cases h : x = y
    · subst h
      rcases below_tri a b (fun p hp => ha p (by simp [hp])) (fun p hp => hb p (by simp [hp])) with e | e | e
      · exact Or.inl (by rw [e])
      · exact Or.inr (Or.inl (by rw [below, if_pos rfl]; exact e))
      · exact Or.inr (Or.inr (by rw [below, if_pos rfl]; exact e))
    · rcases below1_tri (ha x (by simp)) (hb y (by simp)) with e | e | e
      · exact absurd e h
      · exact Or.inr (Or.inl (by rw [below, if_neg h]; exact e))
      · exact Or.inr (Or.inr (by rw [below, if_neg (fun q => h q.symm)]; exact e))
theorem key_inj {a b : List Prt} (ha : ∀ p ∈ a, p.ok) (hb : ∀ p ∈ b, p.ok) (h : keyOf a = keyOf b) : a = b := by
  rcases below_tri a b ha hb with e | e | e
  · exact e
  · rw [← key_order a b ha hb, h] at e; exact absurd e (lt_irr _)
  · rw [← key_order b a hb ha, h] at e; exact absurd e (lt_irr _)
theorem key_range : ∀ (ps ks : List Prt), (∀ p ∈ ps, p.ok) → (∀ p ∈ ks, p.ok) → ((!(Op.bytesLess (keyOf ks) (keyOf ps))) && Op.bytesLess (keyOf ks) (keyOf ps ++ [255])) = decide (ps = ks.take ps.length)
  | [], ks, _, _ => by
    have h : Op.bytesLess (keyOf ks) [255] = true := by
      cases ks with
      | nil => rfl
      | cons p l =>
        obtain ⟨c, t, h, hc⟩ := enc_cons p
        rw [keyOf_cons, h]
        simp [Op.bytesLess, hc]
    have h2 : Op.bytesLess (keyOf ks) (keyOf []) = false := by
      show Op.bytesLess (keyOf ks) [] = false
      cases keyOf ks <;> rfl
    rw [h2, show keyOf [] ++ [255] = [255] from rfl, h]; simp
  | y :: ps, [], _, _ => by
    obtain ⟨c, t, h, _⟩ := enc_cons y
    rw [keyOf_cons, h]; simp [keyOf, Op.bytesLess]
  | y :: ps, x :: ks, hp, hk => by
    rw [keyOf_cons, keyOf_cons, List.append_assoc]
    by_cases h : y = x
    · subst h
      rw [lt_common, lt_common, key_range ps ks (fun p q => hp p (by simp [q])) (fun p q => hk p (by simp [q]))]
      simp
    · have hx := hk x (by simp)
      have hy := hp y (by simp)
      have hne : ¬ (y :: ps = (x :: ks).take (y :: ps).length) := by simp [h]
      rw [decide_eq_false hne]
      rcases below1_tri hx hy with e | e | e
      · exact absurd e.symm h
      · have := enc_lt hx hy e _ (keyOf ps) (keyOf_tame ks)
        rw [Lt] at this
        rw [this]; rfl
      · have := lt_asymm _ _ (enc_lt hy hx e _ (keyOf ks) (keyOf_tame' ps))
        rw [Bool.not_eq_true] at this
        rw [this, Bool.and_false]
/-! ### strings.ReplaceAll -/
theorem index_skip {b : UInt8} {l : List UInt8} {i : Nat} (hb : b ≠ 0) (h : Lib.index l [0] = i) : Lib.index (b :: l) [0] = ((i + 1 : Nat) : Int) := by
  have hne : ¬ ((i : Int) == -1) = true := fun e => by have := beq_iff_eq.1 e; omega
  have hp : ([0] : List UInt8).isPrefixOf (b :: l) = false := by
    simp only [List.isPrefixOf, Bool.and_true]
    exact beq_eq_false_iff_ne.2 (fun e => hb e.symm)
  rw [Lib.index, hp, h, if_neg (by simp), if_neg hne]
  push_cast; rfl
theorem esc_replaceK : ∀ s : List UInt8, Lib.replaceK [0] [0, 255] (Lib.count s [0]) s = esc s
  | [] => by rw [show Lib.count [] [0] = 0 from by rw [Lib.count_one]; rfl]; rfl
  | b :: l => by
    have ih := esc_replaceK l
    by_cases hb : b = 0
    · subst hb
      rw [Lib.count_cons_eq, Nat.add_comm, Lib.replaceK_hit _ _ _ _ 0 rfl]
      simp [esc, ih]
    · rw [Lib.count_cons_ne _ _ _ hb, esc, if_neg hb]
      cases hk : Lib.count l [0] with
      | zero =>
        rw [hk] at ih
        rw [Lib.replaceK] at ih ⊢
        rw [← ih]
      | succ k =>
        obtain ⟨i, hi⟩ := Lib.index_of_count (s := l) (old := [0]) (by omega)
        rw [hk, Lib.replaceK_hit _ _ _ _ i hi] at ih
        rw [Lib.replaceK_hit _ _ _ _ (i + 1) (index_skip hb hi), ← ih]
        simp
theorem esc_replaceAll (s : List UInt8) : Lib.replaceAll s [0] [0, 255] = esc s := by
  rw [Lib.replaceAll, Lib.replace, if_neg (by decide), Lib.replaceNum, if_pos (by omega)]
  exact esc_replaceK s
theorem esc_len : ∀ s : List UInt8, (esc s).length ≤ 2 * s.length
  | [] => by simp [esc]
  | c :: l => by
    have := esc_len l
    unfold esc
    split <;> simp <;> omega
theorem esc_append (a b : List UInt8) : esc (a ++ b) = esc a ++ esc b := by
  induction a with
  | nil => rfl
  | cons c a ih =>
    rw [List.cons_append, esc, esc, ih]
    split <;> rfl
end Go.Proofs.YtkebddjndljodaaDoor
