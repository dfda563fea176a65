/-
  Filters as bytes: what is built is a filter; merging is 'or'.
-/
import Derived.Test.YtoopgddhkdekmaaMay
import Derived.Test.YtoopgddhkdekmaaMerge
import Derived.Test.YtoopgddhkdekmaaOnes
namespace Go.Proofs.Ytoopgddhkdekmaa
open Go.RowKit
theorem fold_len (m k : Nat) : ∀ (ks : List ByteArray) (bs : List UInt8), (ks.foldl (addKey m k) bs).length = bs.length
  | [], _ => rfl
  | key :: ks, bs => by rw [List.foldl_cons, fold_len m k ks, addKey_len]
theorem fold_last {S : Nat} (hS : 0 < S) (k : Nat) : ∀ (ks : List ByteArray) (bs : List UInt8), (ks.foldl (addKey (S * 8) k) bs).getD S 0 = bs.getD S 0
  | [], _ => rfl
  | key :: ks, bs => by rw [List.foldl_cons, fold_last hS k ks, addKey_last hS]
theorem sizeOfF_ge (n bt : Nat) : 8 ≤ sizeOfF n bt := by unfold sizeOfF; omega
theorem kOf_in (bt : Nat) : 1 ≤ kOf bt ∧ kOf bt ≤ 30 := by unfold kOf; omega
theorem zeroF_len (S k : Nat) : (zeroF S k).length = S + 1 := by simp [zeroF]
theorem zeroF_last (S k : Nat) : (zeroF S k).getD S 0 = UInt8.ofNat k := by simp [zeroF, List.getD_eq_getElem?_getD]
theorem buildF_len (ks : List ByteArray) (bt : Nat) : (buildF ks bt).length = sizeOfF ks.length bt + 1 := by rw [buildF, fold_len, zeroF_len]
theorem ofNat_k {k : Nat} (h : k ≤ 30) : (UInt8.ofNat k).toNat = k := by simp; omega
theorem buildF_lastB (ks : List ByteArray) (bt : Nat) : lastB (buildF ks bt) = kOf bt := by
  have h1 := sizeOfF_ge ks.length bt
  rw [lastB, buildF_len, Nat.add_sub_cancel, buildF, fold_last (by omega), zeroF_last, ofNat_k (kOf_in bt).2]
theorem isF_of {bs : List UInt8} (h1 : 9 ≤ bs.length) (h2 : 1 ≤ lastB bs) (h3 : lastB bs ≤ 30) : isF bs = true := by simp [isF, h1, h2, h3]
theorem isF_build (ks : List ByteArray) (bt : Nat) : isF (buildF ks bt) = true := by
  have h1 := sizeOfF_ge ks.length bt
  have h2 := kOf_in bt
  exact isF_of (by rw [buildF_len]; omega) (by rw [buildF_lastB]; omega) (by rw [buildF_lastB]; omega)
section
variable {A B : List UInt8}
theorem orL_at (h : A.length = B.length) {j : Nat} (hj : j < A.length) : ((orL A B).getD j 0).toNat = (A.getD j 0).toNat ||| (B.getD j 0).toNat := by
  have hl : (A.getD j 0).toNat ||| (B.getD j 0).toNat < 256 := Nat.or_lt_two_pow (n := 8) (UInt8.toNat_lt _) (UInt8.toNat_lt _)
  have e : (orL A B)[j]? = some (UInt8.ofNat ((A.getD j 0).toNat ||| (B.getD j 0).toNat)) := by
    rw [orL, List.getElem?_zipWith, getD_at hj, getD_at (by omega)]
  rw [List.getD_eq_getElem?_getD, e]
  simp
  try omega
theorem orL_len' (h : A.length = B.length) : (orL A B).length = A.length := by rw [orL_len]; omega
theorem ext_getD {X Y : List UInt8} (h : X.length = Y.length) (k : ∀ j, j < X.length → (X.getD j 0).toNat = (Y.getD j 0).toNat) : X = Y := by
  refine List.ext_getElem? fun j => ?_
  by_cases hj : j < X.length
  · rw [getD_at hj, getD_at (by omega), UInt8.toNat_inj.1 (k j hj)]
  · rw [List.getElem?_eq_none (by omega), List.getElem?_eq_none (by omega)]
theorem orL_comm (h : A.length = B.length) : orL A B = orL B A := by
  refine ext_getD (by rw [orL_len' h, orL_len' h.symm, h]) (fun j hj => ?_)
  rw [orL_len' h] at hj
  rw [orL_at h hj, orL_at h.symm (by omega), Nat.or_comm]
theorem orL_again (h : A.length = B.length) : orL (orL A B) A = orL A B := by
  refine ext_getD (by rw [orL_len' (orL_len' h)]) (fun j hj => ?_)
  rw [orL_len' (orL_len' h), orL_len' h] at hj
  rw [orL_at (orL_len' h) (by rw [orL_len' h]; exact hj), orL_at h hj]
  rw [Nat.or_comm, ← Nat.or_assoc, Nat.or_self]
theorem orL_lastB (h : A.length = B.length) (hn : 1 ≤ A.length) (hk : lastB A = lastB B) : lastB (orL A B) = lastB A := by
  have h1 : lastB (orL A B) = lastB A ||| lastB B := by
    rw [lastB, orL_len' h, orL_at h (by omega)]
    unfold lastB
    rw [h]
  rw [h1, hk, Nat.or_self]
theorem orL_hasBit (h : A.length = B.length) {p : Nat} (hp : p / 8 < A.length) : hasBit (orL A B) p = (hasBit A p || hasBit B p) := by
  unfold hasBit
  rw [orL_at h hp, Nat.and_or_distrib_right]
  generalize (A.getD (p / 8) 0).toNat &&& bitN p = x
  generalize (B.getD (p / 8) 0).toNat &&& bitN p = y
  by_cases hx : x = 0
  · rw [hx, Nat.zero_or]; rfl
  · have : x ||| y ≠ 0 := fun e => hx (Nat.or_eq_zero_iff.1 e).1
    rw [bne_iff_ne.2 this, bne_iff_ne.2 hx, Bool.true_or]
theorem orL_isF (h : A.length = B.length) (hk : lastB A = lastB B) (hF : isF A = true) : isF (orL A B) = true := by
  obtain ⟨h9, h1, h30⟩ := isF_facts hF
  exact isF_of (by rw [orL_len' h]; exact h9) (by rw [orL_lastB h (by omega) hk]; exact h1) (by rw [orL_lastB h (by omega) hk]; exact h30)
theorem may_or_left (h : A.length = B.length) (hk : lastB A = lastB B) (hF : isF A = true) {key : ByteArray} (hm : mayB A key = true) : mayB (orL A B) key = true := by
  obtain ⟨h9, h1, h30⟩ := isF_facts hF
  rw [mayB, if_pos hF, List.all_eq_true] at hm
  rw [mayB, if_pos (orL_isF h hk hF), List.all_eq_true, orL_lastB h (by omega) hk]
  intro i hi
  have hb := hm i hi
  have he : bitsOf (orL A B) = bitsOf A := by rw [bitsOf, orL_len' h]; rfl
  have hlt : placeN key (bitsOf A) i < bitsOf A := Nat.mod_lt _ (by unfold bitsOf; omega)
  rw [he, orL_hasBit h (by unfold bitsOf at hlt ⊢; omega), hb, Bool.true_or]
theorem ones_or (h : A.length = B.length) : ∀ j, j ≤ A.length → onesTo A j ≤ onesTo (orL A B) j ∧ onesTo (orL A B) j ≤ onesTo A j + onesTo B j
  | 0, _ => ⟨Nat.le_refl _, Nat.zero_le _⟩
  | j + 1, hj => by
    have ih := ones_or h j (by omega)
    have hp := popB_or (A.getD j 0).toNat (B.getD j 0).toNat
    simp only [onesTo]
    rw [orL_at h (by omega)]
    omega
end
/-- Two filters of as many keys. -/
theorem alike_build {ks ms : List ByteArray} (h : ks.length = ms.length) (bt : Nat) : (buildF ks bt).length = (buildF ms bt).length ∧ lastB (buildF ks bt) = lastB (buildF ms bt) :=
  ⟨by rw [buildF_len, buildF_len, h], by rw [buildF_lastB, buildF_lastB]⟩
theorem merge_of {A B : List UInt8} (h : A.length = B.length) (hk : lastB A = lastB B) (hF : isF A = true) : mergeErr A B = true := by
  have hFB : isF B = true := by
    obtain ⟨h9, h1, h30⟩ := isF_facts hF
    exact isF_of (by omega) (by omega) (by omega)
  simp [mergeErr, hF, hFB, alikeB, h, hk]
end Go.Proofs.Ytoopgddhkdekmaa
