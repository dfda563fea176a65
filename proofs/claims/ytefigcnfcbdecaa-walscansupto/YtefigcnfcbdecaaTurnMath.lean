/-
  Plain mathematics: bits of a body that are turned one by one, and what becomes of the check sum.
-/
import Derived.Test.YtefigcnfcbdecaaBurst
namespace Go.Proofs.Ytefigcnfcbdecaa.Cx
/-- The m-th bit of bytes. -/
def bit (xs : List UInt8) (m : Nat) : Bool := (xs[m / 8]?.getD 0).toNat.testBit (m % 8)
theorem range_add (a b : Nat) : List.range (a + b) = List.range a ++ (List.range b).map (a + ·) := by
  apply List.ext_getElem
  · simp
  · intro i h1 h2
    simp only [List.getElem_range, List.getElem_append, List.length_range, List.getElem_map]
    split <;> omega
theorem bit_cons (c : UInt8) (xs : List UInt8) (m : Nat) : bit (c :: xs) (8 + m) = bit xs m := by
  unfold bit
  have h1 : (8 + m) / 8 = m / 8 + 1 := by omega
  have h2 : (8 + m) % 8 = m % 8 := by omega
  rw [h1, h2]
  rfl
theorem bitsAll_eq : ∀ xs : List UInt8, bitsAll xs = (List.range (8 * xs.length)).map (bit xs)
  | [] => rfl
  | c :: xs => by
    have e : bitsAll (c :: xs) = bitsOf c ++ bitsAll xs := rfl
    rw [e, bitsAll_eq xs, List.length_cons, show 8 * (xs.length + 1) = 8 + 8 * xs.length by omega, range_add, List.map_append, List.map_map]
    congr 1
    apply List.map_congr_left
    intro m _
    exact (bit_cons c xs m).symm
/-- Is the m-th bit one that is turned, of those from P on, so many? -/
def dd (t P r m : Nat) : Bool := decide (P ≤ m ∧ m < P + r) && t.testBit (m - P)
theorem num_ne : ∀ (l : List Bool), true ∈ l → num l ≠ 0
  | [], h => by simp at h
  | b :: l, h => by
    rw [num]
    cases b
    · have := num_ne l (by simpa using h)
      simp only [Bool.toNat_false]
      omega
    · simp
theorem crc_turned (l m : List UInt8) (t P : Nat) (hlen : l.length = m.length) (hd : ∀ i, i < 8 * l.length → (bit l i ^^ bit m i) = dd t P 32 i)
    (hc : ∃ j, j < 32 ∧ t.testBit j = true ∧ P + j < 8 * l.length) : crc l ≠ crc m := by
  obtain ⟨j, hj, hjt, hjl⟩ := hc
  obtain ⟨w, q, hw, hwj, hsum, hlast⟩ : ∃ w q, w ≤ 32 ∧ j < w ∧ 8 * l.length = P + w + q ∧ (q = 0 ∨ w = 32) := by
    by_cases h : P + 32 ≤ 8 * l.length
    · exact ⟨32, 8 * l.length - P - 32, by omega, hj, by omega, Or.inr rfl⟩
    · exact ⟨8 * l.length - P, 0, by omega, by omega, by omega, Or.inl rfl⟩
  refine crc_burst l m hlen P q ((List.range w).map fun i => t.testBit i) (by simpa using hw) (num_ne _ ?_) ?_
  · simp only [List.mem_map, List.mem_range]
    exact ⟨j, hwj, hjt⟩
  · rw [bitsAll_eq, bitsAll_eq, ← hlen]
    have e1 : List.zipWith (· ^^ ·) ((List.range (8 * l.length)).map (bit l)) ((List.range (8 * l.length)).map (bit m)) = (List.range (8 * l.length)).map (dd t P 32) := by
      rw [List.zipWith_map, List.zipWith_self]
      apply List.map_congr_left
      intro i hi
      exact hd i (by simpa using hi)
    rw [e1, hsum, range_add, range_add, List.map_append, List.map_append, List.map_map, List.map_map]
    congr 1
    · congr 1
      · apply List.ext_getElem
        · simp
        · intro i h1 h2
          simp at h1
          simp [dd]
          omega
      · apply List.map_congr_left
        intro i hi
        have hi' : i < w := by simpa using hi
        simp [dd]
        omega
    · apply List.ext_getElem
      · simp
      · intro i h1 h2
        simp at h1
        have : q ≠ 0 := by omega
        have hw32 : w = 32 := by omega
        simp [dd]
        omega
/-- What r rounds make of the body B: the bytes B', and whether a bit was turned. -/
structure Inv (B B' : List UInt8) (t p r : Nat) (c : Bool) : Prop where
  len : B'.length = B.length
  bits : ∀ m, m < 8 * B.length → bit B' m = (bit B m ^^ dd t p r m)
  chg : c = true ↔ ∃ j, j < r ∧ t.testBit j = true ∧ p + j < 8 * B.length
theorem Inv.start (B : List UInt8) (t p : Nat) : Inv B B t p 0 false := by
  refine ⟨rfl, fun m _ => ?_, by simp⟩
  have : dd t p 0 m = false := by simp [dd]; omega
  rw [this]
  simp
theorem dd_succ {t p r m : Nat} (h : m ≠ p + r) : dd t p (r + 1) m = dd t p r m := by
  unfold dd
  congr 1
  rw [decide_eq_decide]
  omega
theorem Inv.skip {B B' : List UInt8} {t p r : Nat} {c : Bool} (h : Inv B B' t p r c) (hs : t.testBit r = false ∨ 8 * B.length ≤ p + r) : Inv B B' t p (r + 1) c := by
  refine ⟨h.len, fun m hm => ?_, ?_⟩
  · rw [h.bits m hm]
    congr 1
    by_cases e : m = p + r
    · rcases hs with hs | hs
      · subst e
        simp [dd, hs]
      · omega
    · exact (dd_succ e).symm
  · rw [h.chg]
    constructor
    · rintro ⟨j, a, b, d⟩
      exact ⟨j, by omega, b, d⟩
    · rintro ⟨j, a, b, d⟩
      refine ⟨j, ?_, b, d⟩
      by_cases e : j = r
      · subst e
        rcases hs with hs | hs
        · rw [hs] at b; cases b
        · omega
      · omega
theorem Inv.turn {B B' : List UInt8} {t p r K : Nat} {c : Bool} (h : Inv B B' t p r c) (hs : t.testBit r = true) (hK : K = p + r) (hl : K < 8 * B.length) {x : Nat} {y : UInt8}
    (hx : B'[K / 8]? = some y) (hy : x = y.toNat ^^^ 2 ^ (K % 8)) (hx8 : x < 256) : Inv B (B'.set (K / 8) (UInt8.ofNat x)) t p (r + 1) true := by
  have hlen := h.len
  refine ⟨by simpa using h.len, fun m hm => ?_, ?_⟩
  · by_cases e : m = K
    · have e1 : bit (B'.set (K / 8) (UInt8.ofNat x)) m = !bit B' m := by
        unfold bit
        rw [e, List.getElem?_set_self (by omega), hx]
        simp only [Option.getD_some]
        rw [show (UInt8.ofNat x).toNat = x by simp; omega, hy, Nat.testBit_xor, Nat.testBit_two_pow_self]
        simp
      have e2 : dd t p (r + 1) m = true := by
        unfold dd
        rw [e, hK, show p + r - p = r by omega, hs]
        simp
      have e3 : dd t p r m = false := by
        simp [dd]
        omega
      rw [e1, h.bits m hm, e2, e3]
      cases bit B m <;> rfl
    · have e1 : bit (B'.set (K / 8) (UInt8.ofNat x)) m = bit B' m := by
        unfold bit
        by_cases e4 : m / 8 = K / 8
        · rw [e4, List.getElem?_set_self (by omega), hx]
          simp only [Option.getD_some]
          rw [show (UInt8.ofNat x).toNat = x by simp; omega, hy, Nat.testBit_xor, Nat.testBit_two_pow_of_ne (by omega)]
          simp
        · rw [List.getElem?_set_ne (by omega)]
      rw [e1, h.bits m hm, dd_succ (by omega)]
  · constructor
    · intro _
      exact ⟨r, by omega, hs, by omega⟩
    · intro _; rfl
theorem byte_ext {a b : UInt8} (h : ∀ u, u < 8 → a.toNat.testBit u = b.toNat.testBit u) : a = b := by
  apply UInt8.toNat_inj.1
  apply Nat.eq_of_testBit_eq
  intro u
  by_cases hu : u < 8
  · exact h u hu
  · have ha := a.toNat_lt
    have hb := b.toNat_lt
    have hp : 2 ^ 8 ≤ 2 ^ u := Nat.pow_le_pow_right (by decide) (by omega)
    rw [Nat.testBit_lt_two_pow (by omega), Nat.testBit_lt_two_pow (by omega)]
theorem Inv.same {B B' : List UInt8} {t p : Nat} (h : Inv B B' t p 32 false) : B' = B := by
  have hlen := h.len
  apply List.ext_getElem hlen
  intro i h1 h2
  apply byte_ext
  intro u hu
  have hb := h.bits (8 * i + u) (by omega)
  have hdd : dd t p 32 (8 * i + u) = false := by
    cases e : dd t p 32 (8 * i + u) with
    | false => rfl
    | true =>
      simp only [dd, Bool.and_eq_true, decide_eq_true_eq] at e
      have := h.chg.2 ⟨8 * i + u - p, by omega, e.2, by omega⟩
      cases this
  rw [hdd] at hb
  unfold bit at hb
  rw [show (8 * i + u) / 8 = i by omega, show (8 * i + u) % 8 = u by omega] at hb
  simpa [h1, h2] using hb
theorem bit_behind (hd B : List UInt8) (hh : hd.length = 1) (m : Nat) (hm : 8 ≤ m) : bit (hd ++ B) m = bit B (m - 8) := by
  unfold bit
  rw [List.getElem?_append_right (by omega), hh, show m / 8 - 1 = (m - 8) / 8 by omega, show m % 8 = (m - 8) % 8 by omega]
theorem bit_ahead (hd B : List UInt8) (hh : hd.length = 1) (m : Nat) (hm : m < 8) : bit (hd ++ B) m = bit hd m := by
  unfold bit
  rw [List.getElem?_append_left (by omega)]
theorem Inv.told {B B' hd : List UInt8} {t p : Nat} (h : Inv B B' t p 32 true) (hh : hd.length = 1) : crc (hd ++ B) ≠ crc (hd ++ B') := by
  obtain ⟨j, a, b, d⟩ := h.chg.1 rfl
  refine crc_turned _ _ t (8 + p) (by simp [h.len]) (fun i hi => ?_) ⟨j, a, b, by simp; omega⟩
  simp only [List.length_append] at hi
  by_cases hm : i < 8
  · rw [bit_ahead _ _ hh i hm, bit_ahead _ _ hh i hm]
    simp [dd]
    omega
  · rw [bit_behind _ _ hh i (by omega), bit_behind _ _ hh i (by omega), h.bits _ (by omega)]
    have e : dd t (8 + p) 32 i = dd t p 32 (i - 8) := by
      unfold dd
      rw [show i - (8 + p) = i - 8 - p by omega]
      congr 1
      rw [decide_eq_decide]
      omega
    rw [e]
    cases bit B (i - 8) <;> simp
end Go.Proofs.Ytefigcnfcbdecaa.Cx
