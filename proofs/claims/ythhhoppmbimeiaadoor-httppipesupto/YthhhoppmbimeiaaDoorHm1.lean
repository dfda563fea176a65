/-
  Heads as lines: where a text's first line ends, its words, its fields; the pure side.
-/
import Derived.Test.YthhhoppmbimeiaaDoorSameR
import Derived.Lib.SplitLaws
namespace Go.Proofs.YthhhoppmbimeiaaDoor
open Go.RowKit
theorem occ_nil (l : List UInt8) (j : Nat) : Lib.occAt l [] j = true := by simp [Lib.occAt]
theorem occ_cons (s : ByteArray) (c : UInt8) (cs : List UInt8) (j : Nat) :
    Lib.occAt s.data.toList (c :: cs) j = (decide (j < s.size ∧ byteAt s j = c.toNat) && Lib.occAt s.data.toList cs (j + 1)) := by
  unfold Lib.occAt
  by_cases h : j < s.size
  · rw [byteAt_drop h, List.isPrefixOf]
    congr 1
    rw [Bool.eq_iff_iff, beq_iff_eq, decide_eq_true_eq]
    have hb := byteAt_lt s j
    constructor
    · rintro rfl
      exact ⟨h, by rw [UInt8.toNat_ofNat_of_lt' hb]⟩
    · rintro ⟨_, e⟩
      rw [e, UInt8.ofNat_toNat]
  · rw [List.drop_eq_nil_of_le (by simp; omega), decide_eq_false (by omega), Bool.false_and]
    rfl
/-- A head's end stands here. -/
def end4 (s : ByteArray) (k : Nat) : Prop := k + 3 < s.size ∧ byteAt s k = 13 ∧ byteAt s (k + 1) = 10 ∧ byteAt s (k + 2) = 13 ∧ byteAt s (k + 3) = 10
instance (s : ByteArray) (k : Nat) : Decidable (end4 s k) := by unfold end4; infer_instance
theorem occ1 (s : ByteArray) (c : UInt8) (j : Nat) : Lib.occAt s.data.toList [c] j = decide (j < s.size ∧ byteAt s j = c.toNat) := by
  rw [occ_cons, occ_nil, Bool.and_true]
theorem occ2 (s : ByteArray) (j : Nat) : Lib.occAt s.data.toList [13, 10] j = decide (endAt s j) := by
  rw [occ_cons, occ_cons, occ_nil, Bool.and_true, Bool.eq_iff_iff, Bool.and_eq_true, decide_eq_true_eq, decide_eq_true_eq, decide_eq_true_eq, endAt]
  show (j < s.size ∧ byteAt s j = 13) ∧ (j + 1 < s.size ∧ byteAt s (j + 1) = 10) ↔ _
  omega
theorem occ4 (s : ByteArray) (j : Nat) : Lib.occAt s.data.toList [13, 10, 13, 10] j = decide (end4 s j) := by
  rw [occ_cons, occ_cons, occ_cons, occ_cons, occ_nil, Bool.and_true, Bool.eq_iff_iff, Bool.and_eq_true, Bool.and_eq_true, Bool.and_eq_true, decide_eq_true_eq, decide_eq_true_eq, decide_eq_true_eq, decide_eq_true_eq, decide_eq_true_eq, end4]
  show (j < s.size ∧ byteAt s j = 13) ∧ (j + 1 < s.size ∧ byteAt s (j + 1) = 10) ∧ (j + 1 + 1 < s.size ∧ byteAt s (j + 1 + 1) = 13) ∧ (j + 1 + 1 + 1 < s.size ∧ byteAt s (j + 1 + 1 + 1) = 10) ↔ _
  rw [show j + 1 + 1 = j + 2 from rfl, show j + 2 + 1 = j + 3 from rfl]
  omega
def crlf : ByteArray := ⟨#[13, 10]⟩
def hEnd : ByteArray := ⟨#[13, 10, 13, 10]⟩
def blk : ByteArray := ⟨#[32]⟩
theorem ix_two (s : ByteArray) : (Lib.indexB s crlf = -1 ∧ ixL s = none ∧ ∀ j, ¬ endAt s j) ∨ (∃ k : Nat, Lib.indexB s crlf = k ∧ ixL s = some k ∧ endAt s k ∧ ∀ j, j < k → ¬ endAt s j) := by
  rcases Lib.index_spec s.data.toList [13, 10] with ⟨h1, h2⟩ | ⟨k, h1, _, h3, h4⟩
  · have hn : ∀ j, ¬ endAt s j := fun j hj => by
      have := h2 j (by have := hj.1; simp; omega)
      rw [occ2] at this
      exact absurd hj (of_decide_eq_false this)
    exact Or.inl ⟨h1, ixL_none hn, hn⟩
  · rw [occ2] at h3
    have hn : ∀ j, j < k → ¬ endAt s j := fun j hj => by
      have := h4 j hj
      rw [occ2] at this
      exact of_decide_eq_false this
    exact Or.inr ⟨k, h1, ixL_hit (of_decide_eq_true h3) hn, of_decide_eq_true h3, hn⟩
theorem ix_one (s : ByteArray) (c : UInt8) : (Lib.indexB s ⟨#[c]⟩ = -1 ∧ ixB s c.toNat = none) ∨ (∃ k : Nat, Lib.indexB s ⟨#[c]⟩ = k ∧ ixB s c.toNat = some k ∧ k < s.size) := by
  rcases Lib.index_spec s.data.toList [c] with ⟨h1, h2⟩ | ⟨k, h1, _, h3, h4⟩
  · exact Or.inl ⟨h1, ixB_none fun j hj hb => by
      have := h2 j (by simp; omega)
      rw [occ1] at this
      exact (of_decide_eq_false this) ⟨hj, hb⟩⟩
  · rw [occ1] at h3
    have h5 := of_decide_eq_true h3
    refine Or.inr ⟨k, h1, ixB_hit h5.1 h5.2 fun j hj hb => ?_, h5.1⟩
    have := h4 j hj
    rw [occ1] at this
    exact (of_decide_eq_false this) ⟨by omega, hb⟩
theorem ix_four (s : ByteArray) : (Lib.indexB s hEnd = -1 ∧ ∀ j, ¬ end4 s j) ∨ (∃ k : Nat, Lib.indexB s hEnd = k ∧ end4 s k ∧ ∀ j, j < k → ¬ end4 s j) := by
  rcases Lib.index_spec s.data.toList [13, 10, 13, 10] with ⟨h1, h2⟩ | ⟨k, h1, _, h3, h4⟩
  · exact Or.inl ⟨h1, fun j hj => by
      have := h2 j (by have := hj.1; simp; omega)
      rw [occ4] at this
      exact absurd hj (of_decide_eq_false this)⟩
  · rw [occ4] at h3
    exact Or.inr ⟨k, h1, of_decide_eq_true h3, fun j hj => by
      have := h4 j hj
      rw [occ4] at this
      exact of_decide_eq_false this⟩
/-- A text cut at each instance of another. -/
def partsOf (sep s : ByteArray) : List ByteArray := Lib.splitB sep 0 (Lib.countB s sep) s
theorem parts_len {sep : ByteArray} (h1 : 1 ≤ sep.size) (s : ByteArray) : (partsOf sep s).length = Lib.countB s sep + 1 := Lib.splitB_all sep h1 0 _ s rfl
theorem parts_miss {sep s : ByteArray} (h : Lib.indexB s sep = -1) : partsOf sep s = [s] := Lib.splitB_miss sep 0 _ s h
theorem parts_hit {sep s : ByteArray} {k : Nat} (h1 : 1 ≤ sep.size) (h : Lib.indexB s sep = k) : partsOf sep s = s.extract 0 k :: partsOf sep (s.extract (k + sep.size) s.size) := by
  unfold partsOf
  rw [Lib.countB_hit s sep k h1 h, Nat.add_comm, Lib.splitB_hit sep 0 _ s k h]
  rfl
def linesOf (h : ByteArray) : List ByteArray := partsOf crlf h
def wordsOf (h : ByteArray) : List ByteArray := partsOf blk h
theorem lines_none {h : ByteArray} (h0 : ∀ j, ¬ endAt h j) : linesOf h = [h] := by
  rcases ix_two h with ⟨h1, _⟩ | ⟨k, _, _, h1, _⟩
  · exact parts_miss h1
  · exact absurd h1 (h0 k)
theorem lines_some {h : ByteArray} {k : Nat} (h0 : endAt h k) (h1 : ∀ j, j < k → ¬ endAt h j) : linesOf h = h.extract 0 k :: linesOf (h.extract (k + 2) h.size) := by
  rcases ix_two h with ⟨_, _, h2⟩ | ⟨j, h2, _, h3, h4⟩
  · exact absurd h0 (h2 k)
  · have : j = k := by
      rcases Nat.lt_trichotomy j k with g | g | g
      · exact absurd h3 (h1 j g)
      · exact g
      · exact absurd h0 (h4 k g)
    subst this
    exact parts_hit (by decide) h2
theorem words_none {h : ByteArray} (h0 : ixB h 32 = none) : wordsOf h = [h] := by
  rcases ix_one h 32 with ⟨h1, _⟩ | ⟨k, _, h1, _⟩
  · exact parts_miss h1
  · rw [show (32 : UInt8).toNat = 32 from rfl, h0] at h1
    cases h1
theorem words_some {h : ByteArray} {k : Nat} (h0 : ixB h 32 = some k) : wordsOf h = h.extract 0 k :: wordsOf (h.extract (k + 1) h.size) := by
  rcases ix_one h 32 with ⟨_, h1⟩ | ⟨j, h2, h1, _⟩
  · rw [show (32 : UInt8).toNat = 32 from rfl, h0] at h1
    cases h1
  · rw [show (32 : UInt8).toNat = 32 from rfl, h0] at h1
    cases h1
    exact parts_hit (by decide) h2
def ver : ByteArray := ⟨#[72, 84, 84, 80, 47, 49, 46, 49]⟩
theorem ver_none : ixB ver 32 = none := by decide +kernel
/-- A first line's method and target. -/
def firstR (l : ByteArray) : Option (ByteArray × ByteArray) := match ixB l 32 with
  | none => none
  | some k => match ixB (l.extract (k + 1) l.size) 32 with
    | none => none
    | some j => if (l.extract (k + 1) l.size).extract (j + 1) (l.extract (k + 1) l.size).size = ver then some (l.extract 0 k, (l.extract (k + 1) l.size).extract 0 j) else none
theorem first_words {l m t : ByteArray} (h : firstR l = some (m, t)) : wordsOf l = [m, t, ver] := by
  unfold firstR at h
  split at h
  · cases h
  · rename_i k hk
    split at h
    · cases h
    · rename_i j hj
      split at h
      · rename_i hv
        cases h
        rw [words_some hk, words_some hj, hv, words_none ver_none]
      · cases h
theorem first_no {l : ByteArray} (h : firstR l = none) {a b c : ByteArray} (hw : wordsOf l = [a, b, c]) : c ≠ ver := by
  rintro rfl
  unfold firstR at h
  split at h
  · rename_i hk
    rw [words_none hk] at hw
    cases hw
  · rename_i k hk
    rw [words_some hk] at hw
    split at h
    · rename_i hj
      rw [words_none hj] at hw
      cases hw
    · rename_i j hj
      rw [words_some hj] at hw
      split at h
      · cases h
      · rename_i hv
        cases hz : ixB ((l.extract (k + 1) l.size).extract (j + 1) (l.extract (k + 1) l.size).size) 32 with
        | none =>
          rw [words_none hz] at hw
          simp only [List.cons.injEq] at hw
          exact hv hw.2.2.1
        | some i =>
          rw [words_some hz] at hw
          have := congrArg List.length hw
          have h3 : 1 ≤ (wordsOf ((((l.extract (k + 1) l.size).extract (j + 1) (l.extract (k + 1) l.size).size)).extract (i + 1) (((l.extract (k + 1) l.size).extract (j + 1) (l.extract (k + 1) l.size).size)).size)).length := by
            unfold wordsOf
            rw [parts_len (by decide)]
            omega
          simp only [List.length_cons, List.length_nil] at this
          omega
/-- The field that a line is. -/
def fldL (l : ByteArray) : Option Fd := if (cutR l 58).2.2 && fldR ⟨(cutR l 58).1, trimT (cutR l 58).2.1⟩ then some ⟨(cutR l 58).1, trimT (cutR l 58).2.1⟩ else none
def takeF : List ByteArray → List Fd × Bool
  | [] => ([], true)
  | l :: ls => match fldL l with
    | some f => (f :: (takeF ls).1, (takeF ls).2)
    | none => ([], false)
/-- What the twin's loop over lines comes to. -/
inductive QF : ByteArray → List Fd → Bool → Prop
  | stop {r : ByteArray} (h : (lineR r).1.size = 0) : QF r [] true
  | bad {r : ByteArray} (h : (lineR r).1.size ≠ 0) (hb : fldL (lineR r).1 = none) : QF r [] false
  | go {r : ByteArray} {f : Fd} {fs : List Fd} {ok : Bool} (h : (lineR r).1.size ≠ 0) (hf : fldL (lineR r).1 = some f) (hl : (lineR r).2.1.size < r.size) (q : QF (lineR r).2.1 fs ok) : QF r (f :: fs) ok
/-- A head with its end, which stands there first. -/
structure EndsE (t : ByteArray) : Prop where
  sz : 4 ≤ t.size
  b0 : byteAt t (t.size - 4) = 13
  b1 : byteAt t (t.size - 3) = 10
  b2 : byteAt t (t.size - 2) = 13
  b3 : byteAt t (t.size - 1) = 10
  first : ∀ j, j + 4 < t.size → ¬ end4 t j
theorem endAt_sub {t : ByteArray} {p b j : Nat} (hb : b ≤ t.size) : endAt (t.extract p b) j ↔ p + j + 1 < b ∧ byteAt t (p + j) = 13 ∧ byteAt t (p + j + 1) = 10 := by
  unfold endAt
  rw [sub_size hb]
  constructor
  · rintro ⟨h0, h1, h2⟩
    rw [sub_byte (by omega)] at h1 h2
    exact ⟨by omega, h1, h2⟩
  · rintro ⟨h0, h1, h2⟩
    refine ⟨by omega, ?_, ?_⟩
    · rw [sub_byte (by omega)]; exact h1
    · rw [sub_byte (by omega)]; exact h2
theorem lineR_hit {s : ByteArray} {k : Nat} (h : endAt s k) (h0 : ∀ j, j < k → ¬ endAt s j) : lineR s = (s.extract 0 k, s.extract (k + 2) s.size, true) := by
  unfold lineR
  rw [ixL_hit h h0]
/-- The line that begins at p. -/
theorem line_at {t : ByteArray} (E : EndsE t) (p : Nat) (hp : p + 4 ≤ t.size) :
    ((∀ j, ¬ endAt (t.extract p (t.size - 4)) j) ∧ lineR (t.extract p t.size) = (t.extract p (t.size - 4), t.extract (t.size - 2) t.size, true)) ∨
    (∃ k, endAt (t.extract p (t.size - 4)) k ∧ (∀ j, j < k → ¬ endAt (t.extract p (t.size - 4)) j) ∧ lineR (t.extract p t.size) = (t.extract p (p + k), t.extract (p + k + 2) t.size, true) ∧ p + k + 2 + 4 < t.size ∧ ¬ (byteAt t (p + k + 2) = 13 ∧ byteAt t (p + k + 2 + 1) = 10)) := by
  rcases ix_two (t.extract p (t.size - 4)) with ⟨_, _, h⟩ | ⟨k, _, _, h, h0⟩
  · left
    refine ⟨h, ?_⟩
    have hs := E.sz
    have e1 : endAt (t.extract p t.size) (t.size - 4 - p) := by
      rw [endAt_sub (Nat.le_refl _)]
      refine ⟨by omega, ?_, ?_⟩
      · rw [show p + (t.size - 4 - p) = t.size - 4 by omega]; exact E.b0
      · rw [show p + (t.size - 4 - p) + 1 = t.size - 3 by omega]; exact E.b1
    have e2 : ∀ j, j < t.size - 4 - p → ¬ endAt (t.extract p t.size) j := by
      intro j hj hx
      rw [endAt_sub (Nat.le_refl _)] at hx
      by_cases g : p + j + 1 < t.size - 4
      · exact h j ((endAt_sub (by omega)).2 ⟨g, hx.2⟩)
      · have := hx.2.2
        rw [show p + j + 1 = t.size - 4 by omega, E.b0] at this
        omega
    rw [lineR_hit e1 e2, sub_sub _ _ _ _ _ (by omega), sub_size (Nat.le_refl _), sub_sub _ _ _ _ _ (by omega), Nat.add_zero, show p + (t.size - 4 - p) = t.size - 4 by omega, show p + (t.size - 4 - p + 2) = t.size - 2 by omega, show p + (t.size - p) = t.size by omega]
  · right
    have hs := E.sz
    have hx := (endAt_sub (t := t) (p := p) (b := t.size - 4) (j := k) (by omega)).1 h
    have e1 : endAt (t.extract p t.size) k := (endAt_sub (Nat.le_refl _)).2 ⟨by omega, hx.2⟩
    have e2 : ∀ j, j < k → ¬ endAt (t.extract p t.size) j := by
      intro j hj hy
      rw [endAt_sub (Nat.le_refl _)] at hy
      exact h0 j hj ((endAt_sub (by omega)).2 ⟨by omega, hy.2⟩)
    have hno : ¬ (byteAt t (p + k + 2) = 13 ∧ byteAt t (p + k + 2 + 1) = 10) := fun hz =>
      E.first (p + k) (by omega) ⟨by omega, hx.2.1, hx.2.2, hz.1, hz.2⟩
    refine ⟨k, h, h0, ?_, ?_, hno⟩
    · rw [lineR_hit e1 e2, sub_sub _ _ _ _ _ (by omega), sub_size (Nat.le_refl _), sub_sub _ _ _ _ _ (by omega), Nat.add_zero, ← Nat.add_assoc, show p + (t.size - p) = t.size by omega]
    · rcases Nat.lt_or_ge (p + k + 2 + 4) t.size with g | g
      · exact g
      · exfalso
        have e : p + k + 2 = t.size - 4 := by omega
        exact hno ⟨by rw [e]; exact E.b0, by rw [show p + k + 2 + 1 = t.size - 3 by omega]; exact E.b1⟩
theorem qf_last {t : ByteArray} (E : EndsE t) : QF (t.extract (t.size - 2) t.size) [] true := by
  have hs := E.sz
  refine QF.stop ?_
  have e : endAt (t.extract (t.size - 2) t.size) 0 := (endAt_sub (Nat.le_refl _)).2 ⟨by omega, E.b2, by rw [show t.size - 2 + 0 + 1 = t.size - 1 by omega]; exact E.b3⟩
  rw [lineR_hit e (fun j hj => by omega)]
  simp
theorem qf_lines {t : ByteArray} (E : EndsE t) : ∀ n p, t.size - p ≤ n → p + 4 < t.size → ¬ (byteAt t p = 13 ∧ byteAt t (p + 1) = 10) → QF (t.extract p t.size) (takeF (linesOf (t.extract p (t.size - 4)))).1 (takeF (linesOf (t.extract p (t.size - 4)))).2
  | 0, p, hn, hp, _ => by omega
  | n + 1, p, hn, hp, hne => by
    rcases line_at E p (by omega) with ⟨h, hl⟩ | ⟨k, h, h0, hl, hk, hno⟩
    · rw [lines_none h, takeF]
      have hz : (lineR (t.extract p t.size)).1.size ≠ 0 := by rw [hl]; show (t.extract p (t.size - 4)).size ≠ 0; rw [sub_size (by omega)]; omega
      cases hf : fldL (t.extract p (t.size - 4)) with
      | none => exact QF.bad hz (by rw [hl]; exact hf)
      | some f => exact QF.go hz (by rw [hl]; exact hf) (by rw [hl]; show (t.extract (t.size - 2) t.size).size < _; rw [sub_size (Nat.le_refl _), sub_size (Nat.le_refl _)]; omega) (by rw [hl]; exact qf_last E)
    · rw [lines_some h h0, takeF]
      have hx := (endAt_sub (t := t) (p := p) (b := t.size - 4) (j := k) (by omega)).1 h
      have hk0 : k ≠ 0 := by rintro rfl; exact hne hx.2
      have e1 : (t.extract p (t.size - 4)).extract 0 k = t.extract p (p + k) := by rw [sub_sub _ _ _ _ _ (by omega), Nat.add_zero]
      have e2 : (t.extract p (t.size - 4)).extract (k + 2) (t.extract p (t.size - 4)).size = t.extract (p + k + 2) (t.size - 4) := by rw [sub_size (by omega), sub_sub _ _ _ _ _ (by omega), ← Nat.add_assoc, show p + (t.size - 4 - p) = t.size - 4 by omega]
      rw [e1, e2]
      have hz : (lineR (t.extract p t.size)).1.size ≠ 0 := by rw [hl]; show (t.extract p (p + k)).size ≠ 0; rw [sub_size (by omega)]; omega
      cases hf : fldL (t.extract p (p + k)) with
      | none => exact QF.bad hz (by rw [hl]; exact hf)
      | some f => exact QF.go hz (by rw [hl]; exact hf) (by rw [hl]; show (t.extract (p + k + 2) t.size).size < _; rw [sub_size (Nat.le_refl _), sub_size (Nat.le_refl _)]; omega) (by rw [hl]; exact qf_lines E n (p + k + 2) (by omega) hk hno)
theorem sub_whole (t : ByteArray) : t.extract 0 t.size = t := by simp
/-- The twin's lines of a head are the head's lines. -/
theorem head_lines {t : ByteArray} (E : EndsE t) : ∃ l ls, linesOf (t.extract 0 (t.size - 4)) = l :: ls ∧ (lineR t).1 = l ∧ QF (lineR t).2.1 (takeF ls).1 (takeF ls).2 := by
  have hs := E.sz
  rcases line_at E 0 (by omega) with ⟨h, hl⟩ | ⟨k, h, h0, hl, hk, hno⟩
  · rw [sub_whole] at hl
    exact ⟨_, _, lines_none h, by rw [hl], by rw [hl]; exact qf_last E⟩
  · rw [sub_whole] at hl
    have hx := (endAt_sub (t := t) (p := 0) (b := t.size - 4) (j := k) (by omega)).1 h
    have e1 : (t.extract 0 (t.size - 4)).extract 0 k = t.extract 0 k := by rw [sub_sub _ _ _ _ _ (by omega), Nat.add_zero, Nat.zero_add]
    have e2 : (t.extract 0 (t.size - 4)).extract (k + 2) (t.extract 0 (t.size - 4)).size = t.extract (0 + k + 2) (t.size - 4) := by rw [sub_size (by omega), sub_sub _ _ _ _ _ (by omega), ← Nat.add_assoc, show 0 + (t.size - 4 - 0) = t.size - 4 by omega]
    refine ⟨_, _, lines_some h h0, ?_, ?_⟩
    · rw [hl, e1, Nat.zero_add]
    · rw [hl, e2]
      exact qf_lines E _ _ (Nat.le_refl _) hk hno
end Go.Proofs.YthhhoppmbimeiaaDoor
