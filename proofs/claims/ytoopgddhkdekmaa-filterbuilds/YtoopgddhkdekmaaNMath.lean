/-
  A filter has each of its keys, has few ones, and does not hang on the keys' order.
-/
import Derived.Test.YtoopgddhkdekmaaFMath
namespace Go.Proofs.Ytoopgddhkdekmaa
open Go.RowKit
theorem setBit_at {bs : List UInt8} {p j : Nat} (hj : j < bs.length) : ((setBit bs p).getD j 0).toNat = if p / 8 = j then (bs.getD j 0).toNat ||| bitN p else (bs.getD j 0).toNat := by
  have hl : (bs.getD (p / 8) 0).toNat ||| bitN p < 256 := Nat.or_lt_two_pow (n := 8) (UInt8.toNat_lt _) (bitN_lt p)
  unfold setBit
  rw [List.getD_eq_getElem?_getD]
  split
  · rename_i h
    subst h
    rw [List.getElem?_set_self hj]
    simp only [Option.getD_some, UInt8.toNat_ofNat']
    exact Nat.mod_eq_of_lt hl
  · rename_i h
    rw [List.getElem?_set_ne h, List.getD_eq_getElem?_getD]
theorem setBit_comm (bs : List UInt8) (p q : Nat) : setBit (setBit bs p) q = setBit (setBit bs q) p := by
  refine ext_getD (by simp only [setBit_len]) (fun j hj => ?_)
  simp only [setBit_len] at hj
  rw [setBit_at (by rw [setBit_len]; exact hj), setBit_at hj, setBit_at (by rw [setBit_len]; exact hj), setBit_at hj]
  split <;> split <;> first | rfl | skip
  rw [Nat.or_assoc, Nat.or_assoc, Nat.or_comm (bitN p)]
section
variable {α β : Type} {f : β → α → β} (hf : ∀ b x y, f (f b x) y = f (f b y) x)
include hf
theorem fold_out (x : α) : ∀ (l : List α) (b : β), l.foldl f (f b x) = f (l.foldl f b) x
  | [], _ => rfl
  | y :: l, b => by rw [List.foldl_cons, List.foldl_cons, hf, fold_out x l]
theorem fold_rev : ∀ (l : List α) (b : β), l.reverse.foldl f b = l.foldl f b
  | [], _ => rfl
  | x :: l, b => by rw [List.reverse_cons, List.foldl_append, fold_rev l, List.foldl_cons, List.foldl_nil, List.foldl_cons, fold_out hf]
end
theorem fold_set (m : Nat) (key : ByteArray) (q : Nat) (l : List Nat) (bs : List UInt8) : l.foldl (fun b i => setBit b (placeN key m i)) (setBit bs q) = setBit (l.foldl (fun b i => setBit b (placeN key m i)) bs) q := by
  induction l generalizing bs with
  | nil => rfl
  | cons x l ih => rw [List.foldl_cons, List.foldl_cons, setBit_comm, ih]
theorem addKey_comm (m k : Nat) (bs : List UInt8) (x y : ByteArray) : addKey m k (addKey m k bs x) y = addKey m k (addKey m k bs y) x := by
  unfold addKey
  generalize List.range k = l
  suffices h : ∀ (l r : List Nat) (bs : List UInt8), r.foldl (fun b i => setBit b (placeN y m i)) (l.foldl (fun b i => setBit b (placeN x m i)) bs) = l.foldl (fun b i => setBit b (placeN x m i)) (r.foldl (fun b i => setBit b (placeN y m i)) bs) from h l l bs
  intro l
  induction l with
  | nil => intro r bs; simp only [List.foldl_nil]
  | cons i l ih => intro r bs; rw [List.foldl_cons, List.foldl_cons, ih, fold_set]
theorem buildF_rev (ks : List ByteArray) (bt : Nat) : buildF ks.reverse bt = buildF ks bt := by
  unfold buildF
  rw [List.length_reverse, fold_rev (addKey_comm _ _)]
theorem hasBit_self {bs : List UInt8} {p : Nat} (h : p / 8 < bs.length) : hasBit (setBit bs p) p = true := by
  unfold hasBit
  rw [setBit_at h, if_pos rfl, Nat.and_or_distrib_right, Nat.and_self, bne_iff_ne]
  intro e
  have := (Nat.or_eq_zero_iff.1 e).2
  have h0 : 0 < bitN p := Nat.pow_pos (by decide)
  omega
theorem hasBit_keep {bs : List UInt8} {p : Nat} (q : Nat) (h : p / 8 < bs.length) (hb : hasBit bs p = true) : hasBit (setBit bs q) p = true := by
  unfold hasBit at hb ⊢
  rw [setBit_at h]
  split
  · rw [Nat.and_or_distrib_right, bne_iff_ne]
    rw [bne_iff_ne] at hb
    exact fun e => hb (Nat.or_eq_zero_iff.1 e).1
  · exact hb
theorem addKey_keep (m : Nat) (key : ByteArray) {bs : List UInt8} {p : Nat} (h : p / 8 < bs.length) (hb : hasBit bs p = true) : ∀ k, hasBit (addKey m k bs key) p = true
  | 0 => hb
  | k + 1 => by
    have ih := addKey_keep m key h hb k
    have hl := addKey_len m k bs key
    unfold addKey at ih hl ⊢
    rw [List.range_succ, List.foldl_append]
    exact hasBit_keep _ (by rw [hl]; exact h) ih
theorem addKey_has {S : Nat} (hS : 0 < S) (key : ByteArray) {bs : List UInt8} (h : S < bs.length) : ∀ k i, i < k → hasBit (addKey (S * 8) k bs key) (placeN key (S * 8) i) = true
  | k + 1, i, hi => by
    have hp : placeN key (S * 8) i / 8 < bs.length := by
      have := Nat.mod_lt (atN (hashN key) (stepN key) i) (show 0 < S * 8 by omega)
      unfold placeN
      omega
    have hl := addKey_len (S * 8) k bs key
    by_cases e : i = k
    · subst e
      unfold addKey at hl ⊢
      rw [List.range_succ, List.foldl_append]
      exact hasBit_self (by rw [hl]; exact hp)
    · have ih := addKey_has hS key h k i (by omega)
      unfold addKey at hl ih ⊢
      rw [List.range_succ, List.foldl_append]
      exact hasBit_keep _ (by rw [hl]; exact hp) ih
theorem fold_keep (m k : Nat) {p : Nat} : ∀ (ks : List ByteArray) {bs : List UInt8}, p / 8 < bs.length → hasBit bs p = true → hasBit (ks.foldl (addKey m k) bs) p = true
  | [], _, _, hb => hb
  | key :: ks, bs, h, hb => by
    rw [List.foldl_cons]
    exact fold_keep m k ks (by rw [addKey_len]; exact h) (addKey_keep m key h hb k)
theorem fold_has {S : Nat} (hS : 0 < S) (k : Nat) {key : ByteArray} {i : Nat} (hi : i < k) : ∀ (ks : List ByteArray) {bs : List UInt8}, S < bs.length → key ∈ ks → hasBit (ks.foldl (addKey (S * 8) k) bs) (placeN key (S * 8) i) = true
  | x :: ks, bs, h, hm => by
    have hp : placeN key (S * 8) i / 8 < bs.length := by
      have := Nat.mod_lt (atN (hashN key) (stepN key) i) (show 0 < S * 8 by omega)
      unfold placeN
      omega
    rw [List.foldl_cons]
    rcases List.mem_cons.1 hm with rfl | hm
    · exact fold_keep _ _ ks (by rw [addKey_len]; exact hp) (addKey_has hS key h k i hi)
    · exact fold_has hS k hi ks (by rw [addKey_len]; exact h) hm
theorem may_own {ks : List ByteArray} (bt : Nat) {key : ByteArray} (h : key ∈ ks) : mayB (buildF ks bt) key = true := by
  have h8 := sizeOfF_ge ks.length bt
  rw [mayB, if_pos (isF_build ks bt), List.all_eq_true, buildF_lastB]
  intro i hi
  have e : bitsOf (buildF ks bt) = sizeOfF ks.length bt * 8 := by rw [bitsOf, buildF_len]; rfl
  rw [e]
  exact fold_has (by omega) _ (List.mem_range.1 hi) ks (by rw [zeroF_len]; omega) h
theorem popB_bit (p : Nat) : popB (bitN p) = 1 := by
  unfold bitN
  have h8 : p % 8 < 8 := Nat.mod_lt _ (by decide)
  generalize p % 8 = r at h8
  rcases (show r = 0 ∨ r = 1 ∨ r = 2 ∨ r = 3 ∨ r = 4 ∨ r = 5 ∨ r = 6 ∨ r = 7 by omega) with rfl | rfl | rfl | rfl | rfl | rfl | rfl | rfl <;> decide
theorem ones_set {bs : List UInt8} {p : Nat} : ∀ j, j ≤ bs.length → onesTo (setBit bs p) j ≤ onesTo bs j + (if p / 8 < j then 1 else 0)
  | 0, _ => Nat.zero_le _
  | j + 1, h => by
    have ih := ones_set (bs := bs) (p := p) j (by omega)
    have hp := (popB_or (bs.getD j 0).toNat (bitN p)).2
    rw [popB_bit] at hp
    simp only [onesTo]
    rw [setBit_at (by omega)]
    by_cases e : p / 8 = j
    · rw [if_pos e, if_pos (show p / 8 < j + 1 by omega)]
      rw [if_neg (show ¬ p / 8 < j by omega)] at ih
      omega
    · rw [if_neg e]
      by_cases e2 : p / 8 < j
      · rw [if_pos (show p / 8 < j + 1 by omega)]; rw [if_pos e2] at ih; omega
      · rw [if_neg (show ¬ p / 8 < j + 1 by omega)]; rw [if_neg e2] at ih; omega
theorem ones_key (m : Nat) (key : ByteArray) {bs : List UInt8} {j : Nat} (h : j ≤ bs.length) : ∀ k, onesTo (addKey m k bs key) j ≤ onesTo bs j + k
  | 0 => Nat.le_refl _
  | k + 1 => by
    have ih := ones_key m key h k
    have hl := addKey_len m k bs key
    have hs := ones_set (bs := addKey m k bs key) (p := placeN key m k) j (by rw [hl]; exact h)
    have e : addKey m (k + 1) bs key = setBit (addKey m k bs key) (placeN key m k) := by
      unfold addKey
      rw [List.range_succ, List.foldl_append]
      rfl
    rw [e]
    split at hs <;> omega
theorem ones_fold (m k : Nat) {j : Nat} : ∀ (ks : List ByteArray) {bs : List UInt8}, j ≤ bs.length → onesTo (ks.foldl (addKey m k) bs) j ≤ onesTo bs j + ks.length * k
  | [], _, _ => by simp
  | key :: ks, bs, h => by
    have ih := ones_fold m k ks (bs := addKey m k bs key) (by rw [addKey_len]; exact h)
    have h1 := ones_key m key h k
    rw [List.foldl_cons, List.length_cons, Nat.succ_mul]
    omega
theorem ones_zero (S k : Nat) : ∀ j, j ≤ S → onesTo (zeroF S k) j = 0
  | 0, _ => rfl
  | j + 1, h => by
    have ih := ones_zero S k j (by omega)
    have e : (zeroF S k).getD j 0 = 0 := by
      rw [zeroF, List.getD_eq_getElem?_getD, List.getElem?_append_left (by simp; omega)]
      rw [List.getElem?_replicate]
      split <;> rfl
    simp only [onesTo]
    rw [ih, e]
    rfl
theorem ones_few (ks : List ByteArray) (bt : Nat) : onesB (buildF ks bt) ≤ ks.length * kOf bt := by
  have h8 := sizeOfF_ge ks.length bt
  rw [onesB, if_pos (isF_build ks bt), buildF_len, Nat.add_sub_cancel]
  have h := ones_fold (sizeOfF ks.length bt * 8) (kOf bt) (j := sizeOfF ks.length bt) ks (bs := zeroF (sizeOfF ks.length bt) (kOf bt)) (by rw [zeroF_len]; omega)
  rw [ones_zero _ _ _ (Nat.le_refl _), Nat.zero_add] at h
  exact h
end Go.Proofs.Ytoopgddhkdekmaa
