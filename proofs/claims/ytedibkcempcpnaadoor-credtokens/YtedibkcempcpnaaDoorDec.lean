/-
  Base64 read back: what it is, and what it has to do with writing it.
-/
import Derived.Test.YtedibkcempcpnaaDoorRefB64
namespace Go.Proofs.YtedibkcempcpnaaDoor
open Go.RowKit
/-- Where a byte stands among the letters; -1: nowhere. -/
def ix (c : UInt8) : Int := Lib.indexByte lettersB.data.toList c
theorem ix_all : ∀ c : Fin 256, (ix (UInt8.ofNat c.val) = -1 ∨ (0 ≤ ix (UInt8.ofNat c.val) ∧ ix (UInt8.ofNat c.val) < 64 ∧ let64 (ix (UInt8.ofNat c.val)).toNat = UInt8.ofNat c.val)) := by decide +kernel
theorem ix_cases (c : UInt8) : ix c = -1 ∨ (0 ≤ ix c ∧ ix c < 64 ∧ let64 (ix c).toNat = c) := by
  have := ix_all ⟨c.toNat, c.toNat_lt⟩
  simpa using this
theorem ix_let' : ∀ q : Fin 64, ix (let64 q.val) = (q.val : Int) := by decide +kernel
theorem ix_let {q : Nat} (h : q < 64) : ix (let64 q) = (q : Int) := ix_let' ⟨q, h⟩
theorem let_inj {p q : Nat} (hp : p < 64) (hq : q < 64) (h : let64 p = let64 q) : p = q := by
  have e1 := ix_let hp
  rw [h, ix_let hq] at e1
  omega
def decN (n : Nat) : Nat := if n = 0 then 6 else if n = 6 then 4 else if n = 4 then 2 else 0
def decOut (n r x : Nat) : List UInt8 := if n = 0 then [] else if n = 6 then [UInt8.ofNat ((r * 64 + x) / 16)] else if n = 4 then [UInt8.ofNat ((r * 64 + x) / 4)] else [UInt8.ofNat (r * 64 + x)]
def decR (n r x : Nat) : Nat := if n = 0 then x else if n = 6 then (r * 64 + x) % 16 else if n = 4 then (r * 64 + x) % 4 else 0
def pre (o : List UInt8) (t : List UInt8 × Nat × Nat) : List UInt8 × Nat × Nat := (o ++ t.1, t.2)
def dec : Nat → Nat → List UInt8 → Option (List UInt8 × Nat × Nat)
  | n, r, [] => some ([], n, r)
  | n, r, c :: l => if ix c < 0 then none else (dec (decN n) (decR n r (ix c).toNat) l).map (pre (decOut n r (ix c).toNat))
theorem b8 {x : Nat} (h : x < 256) : (UInt8.ofNat x).toNat = x := by rw [UInt8.toNat_ofNat', Nat.mod_eq_of_lt (by omega)]
/-- What was written is read back. -/
theorem dec_enc : ∀ (l : List UInt8), (∃ n, dec 0 0 (enc 0 0 l) = some (l, n, 0) ∧ n ≠ 6) ∧
    (∀ y e, y < 64 → e < 4 → ∃ n, dec 6 y (enc 2 e l) = some (UInt8.ofNat (y * 4 + e) :: l, n, 0) ∧ n ≠ 6) ∧
    (∀ z e, z < 16 → e < 16 → ∃ n, dec 4 z (enc 4 e l) = some (UInt8.ofNat (z * 16 + e) :: l, n, 0) ∧ n ≠ 6)
  | [] => by
    refine ⟨⟨0, rfl, by decide⟩, fun y e hy he => ⟨4, ?_, by decide⟩, fun z e hz he => ⟨2, ?_, by decide⟩⟩
    · show dec 6 y [let64 (e * 16)] = _
      rw [dec, ix_let (by omega), if_neg (by omega), dec, Int.toNat_natCast]
      show some ([UInt8.ofNat ((y * 64 + e * 16) / 16)] ++ [], 4, (y * 64 + e * 16) % 16) = _
      rw [show (y * 64 + e * 16) / 16 = y * 4 + e by omega, show (y * 64 + e * 16) % 16 = 0 by omega]
      rfl
    · show dec 4 z [let64 (e * 4)] = _
      rw [dec, ix_let (by omega), if_neg (by omega), dec, Int.toNat_natCast]
      show some ([UInt8.ofNat ((z * 64 + e * 4) / 4)] ++ [], 2, (z * 64 + e * 4) % 4) = _
      rw [show (z * 64 + e * 4) / 4 = z * 16 + e by omega, show (z * 64 + e * 4) % 4 = 0 by omega]
      rfl
  | b :: l => by
    obtain ⟨⟨n0, i0, i0'⟩, i1, i2⟩ := dec_enc l
    have hb := b.toNat_lt
    have hbb : UInt8.ofNat b.toNat = b := by simp
    refine ⟨?_, fun y e hy he => ?_, fun z e hz he => ?_⟩
    · obtain ⟨n, h, h'⟩ := i1 (b.toNat / 4) (b.toNat % 4) (by omega) (by omega)
      refine ⟨n, ?_, h'⟩
      show dec 0 0 (let64 (b.toNat / 4) :: enc 2 (b.toNat % 4) l) = _
      rw [dec, ix_let (by omega), if_neg (by omega), Int.toNat_natCast]
      show (dec 6 (b.toNat / 4) (enc 2 (b.toNat % 4) l)).map (pre []) = _
      rw [h, show b.toNat / 4 * 4 + b.toNat % 4 = b.toNat by omega, hbb]
      rfl
    · obtain ⟨n, h, h'⟩ := i2 (b.toNat / 16) (b.toNat % 16) (by omega) (by omega)
      refine ⟨n, ?_, h'⟩
      show dec 6 y (let64 (e * 16 + b.toNat / 16) :: enc 4 (b.toNat % 16) l) = _
      rw [dec, ix_let (by omega), if_neg (by omega), Int.toNat_natCast]
      show (dec 4 ((y * 64 + (e * 16 + b.toNat / 16)) % 16) (enc 4 (b.toNat % 16) l)).map (pre [UInt8.ofNat ((y * 64 + (e * 16 + b.toNat / 16)) / 16)]) = _
      rw [show (y * 64 + (e * 16 + b.toNat / 16)) % 16 = b.toNat / 16 by omega, show (y * 64 + (e * 16 + b.toNat / 16)) / 16 = y * 4 + e by omega, h, show b.toNat / 16 * 16 + b.toNat % 16 = b.toNat by omega, hbb]
      rfl
    · refine ⟨n0, ?_, i0'⟩
      show dec 4 z (let64 (e * 4 + b.toNat / 64) :: let64 (b.toNat % 64) :: enc 0 0 l) = _
      rw [dec, ix_let (by omega), if_neg (by omega), Int.toNat_natCast]
      show (dec 2 ((z * 64 + (e * 4 + b.toNat / 64)) % 4) (let64 (b.toNat % 64) :: enc 0 0 l)).map (pre [UInt8.ofNat ((z * 64 + (e * 4 + b.toNat / 64)) / 4)]) = _
      rw [show (z * 64 + (e * 4 + b.toNat / 64)) % 4 = b.toNat / 64 by omega, show (z * 64 + (e * 4 + b.toNat / 64)) / 4 = z * 16 + e by omega, dec, ix_let (by omega), if_neg (by omega), Int.toNat_natCast]
      show ((dec 0 0 (enc 0 0 l)).map (pre [UInt8.ofNat (b.toNat / 64 * 64 + b.toNat % 64)])).map (pre [UInt8.ofNat (z * 16 + e)]) = _
      rw [i0, show b.toNat / 64 * 64 + b.toNat % 64 = b.toNat by omega, hbb]
      rfl
/-- What is read is written again just so, if no bits are left over. -/
theorem enc_dec : ∀ (l : List UInt8),
    (∀ out n r, dec 0 0 l = some (out, n, r) → (enc 0 0 out = l ↔ ¬ (n = 6 ∨ r ≠ 0))) ∧
    (∀ x out n r, x < 64 → dec 6 x l = some (out, n, r) → (enc 0 0 out = let64 x :: l ↔ ¬ (n = 6 ∨ r ≠ 0))) ∧
    (∀ e d out n r, e < 4 → d < 16 → dec 4 d l = some (out, n, r) → (enc 2 e out = let64 (e * 16 + d) :: l ↔ ¬ (n = 6 ∨ r ≠ 0))) ∧
    (∀ e d out n r, e < 16 → d < 4 → dec 2 d l = some (out, n, r) → (enc 4 e out = let64 (e * 4 + d) :: l ↔ ¬ (n = 6 ∨ r ≠ 0)))
  | [] => by
    refine ⟨fun out n r h => ?_, fun x out n r hx h => ?_, fun e d out n r he hd h => ?_, fun e d out n r he hd h => ?_⟩
    · simp only [dec, Option.some.injEq, Prod.mk.injEq] at h
      obtain ⟨rfl, rfl, rfl⟩ := h
      simp [enc, encEnd]
    · simp only [dec, Option.some.injEq, Prod.mk.injEq] at h
      obtain ⟨rfl, rfl, rfl⟩ := h
      simp [enc, encEnd]
    · simp only [dec, Option.some.injEq, Prod.mk.injEq] at h
      obtain ⟨rfl, rfl, rfl⟩ := h
      show [let64 (e * 16)] = [let64 (e * 16 + d)] ↔ _
      constructor
      · intro q
        have := let_inj (by omega) (by omega) (List.cons.inj q).1
        omega
      · intro q
        rw [show d = 0 by omega]
        rfl
    · simp only [dec, Option.some.injEq, Prod.mk.injEq] at h
      obtain ⟨rfl, rfl, rfl⟩ := h
      show [let64 (e * 4)] = [let64 (e * 4 + d)] ↔ _
      constructor
      · intro q
        have := let_inj (by omega) (by omega) (List.cons.inj q).1
        omega
      · intro q
        rw [show d = 0 by omega]
        rfl
  | c :: l => by
    obtain ⟨i0, i6, i4, i2⟩ := enc_dec l
    rcases ix_cases c with hc | ⟨c1, c2, c3⟩
    · refine ⟨fun out n r h => ?_, fun x out n r hx h => ?_, fun e d out n r he hd h => ?_, fun e d out n r he hd h => ?_⟩ <;> (rw [dec, if_pos (by omega)] at h; cases h)
    · obtain ⟨x, hx⟩ : ∃ x, (ix c).toNat = x := ⟨_, rfl⟩
      have hx64 : x < 64 := by omega
      rw [hx] at c3
      refine ⟨fun out n r h => ?_, fun y out n r hy h => ?_, fun e d out n r he hd h => ?_, fun e d out n r he hd h => ?_⟩ <;> (rw [dec, if_neg (by omega), hx] at h; obtain ⟨⟨o', n', r'⟩, h1, h2⟩ := Option.map_eq_some_iff.1 h; simp only [pre, Prod.mk.injEq] at h2; obtain ⟨rfl, rfl, rfl⟩ := h2)
      · rw [← i6 x o' n' r' hx64 h1, c3]
        exact Iff.rfl
      · have h1' : dec 4 ((y * 64 + x) % 16) l = some (o', n', r') := h1
        rw [← i4 (x / 16) (x % 16) o' n' r' (by omega) (by omega) (by rw [show x % 16 = (y * 64 + x) % 16 by omega]; exact h1'), show x / 16 * 16 + x % 16 = x by omega, c3]
        show enc 0 0 (UInt8.ofNat ((y * 64 + x) / 16) :: o') = _ ↔ _
        show let64 ((UInt8.ofNat ((y * 64 + x) / 16)).toNat / 4) :: enc 2 ((UInt8.ofNat ((y * 64 + x) / 16)).toNat % 4) o' = _ ↔ _
        rw [b8 (by omega), show (y * 64 + x) / 16 / 4 = y by omega, show (y * 64 + x) / 16 % 4 = x / 16 by omega, List.cons.injEq]
        simp
      · have h1' : dec 2 ((d * 64 + x) % 4) l = some (o', n', r') := h1
        rw [← i2 (x / 4) (x % 4) o' n' r' (by omega) (by omega) (by rw [show x % 4 = (d * 64 + x) % 4 by omega]; exact h1'), show x / 4 * 4 + x % 4 = x by omega, c3]
        show let64 (e * 16 + (UInt8.ofNat ((d * 64 + x) / 4)).toNat / 16) :: enc 4 ((UInt8.ofNat ((d * 64 + x) / 4)).toNat % 16) o' = _ ↔ _
        rw [b8 (by omega), show e * 16 + (d * 64 + x) / 4 / 16 = e * 16 + d by omega, show (d * 64 + x) / 4 % 16 = x / 4 by omega, List.cons.injEq]
        simp
      · have h1' : dec 0 0 l = some (o', n', r') := h1
        rw [← i0 o' n' r' h1']
        show let64 (e * 4 + (UInt8.ofNat (d * 64 + x)).toNat / 64) :: let64 ((UInt8.ofNat (d * 64 + x)).toNat % 64) :: enc 0 0 o' = _ ↔ _
        rw [b8 (by omega), show e * 4 + (d * 64 + x) / 64 = e * 4 + d by omega, show (d * 64 + x) % 64 = x by omega, c3, List.cons.injEq, List.cons.injEq]
        simp
theorem enc_len : ∀ (l : List UInt8), (∀ r, (enc 0 r l).length = (8 * l.length + 5) / 6) ∧ (∀ r, (enc 2 r l).length = (8 * l.length + 7) / 6) ∧ (∀ r, (enc 4 r l).length = (8 * l.length + 9) / 6)
  | [] => ⟨fun _ => rfl, fun _ => rfl, fun _ => rfl⟩
  | b :: l => by
    obtain ⟨h0, h2, h4⟩ := enc_len l
    refine ⟨fun r => ?_, fun r => ?_, fun r => ?_⟩
    · show (let64 (b.toNat / 4) :: enc 2 (b.toNat % 4) l).length = _
      rw [List.length_cons, h2, List.length_cons]; omega
    · show (let64 (r * 16 + b.toNat / 16) :: enc 4 (b.toNat % 16) l).length = _
      rw [List.length_cons, h4, List.length_cons]; omega
    · show (let64 (r * 4 + b.toNat / 64) :: let64 (b.toNat % 64) :: enc 0 0 l).length = _
      rw [List.length_cons, List.length_cons, h0, List.length_cons]; omega
/-- What both tell of a text. -/
def unbV (l : List UInt8) : Array Value := match dec 0 0 l with
  | some (o, n, r) => if n = 6 ∨ r ≠ 0 then #[.string ⟨#[]⟩, .bool false] else #[.string ⟨o.toArray⟩, .bool true]
  | none => #[.string ⟨#[]⟩, .bool false]
end Go.Proofs.YtedibkcempcpnaaDoor
