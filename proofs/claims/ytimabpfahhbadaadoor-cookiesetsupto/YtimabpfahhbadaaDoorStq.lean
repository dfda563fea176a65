/-
  Set-Cookie, the pure side: what is told is read back, by both readers.
-/
import Derived.Test.YtimabpfahhbadaaDoorStw0
import Derived.Test.YtimabpfahhbadaaDoorDigits
namespace Go.Proofs.YtimabpfahhbadaaDoor
open Go.RowKit
theorem dec_byte (u : Nat) : (UInt8.ofNat (48 + u % 10)).toNat = 48 + u % 10 := by
  rw [UInt8.toNat_ofNat_of_lt' (by show 48 + u % 10 < 256; omega)]
theorem digN_congr {s t : ByteArray} : ∀ k, (∀ j, j < k → byteAt s j = byteAt t j) → digN s k = digN t k
  | 0, _ => rfl
  | k + 1, h => by rw [digN, digN, digN_congr k (fun j hj => h j (by omega)), h k (by omega)]
theorem dec_dig : ∀ (n u : Nat), u ≤ n → digN (bOf (Lib.decDigits u)) (Lib.decDigits u).length = some u
  | n, u, hn => by
    by_cases h : u < 10
    · rw [Lib.decDigits_one h]
      have hb : byteAt (bOf [UInt8.ofNat (48 + u)]) 0 = 48 + u := by
        rw [bOf_byte]
        show (UInt8.ofNat (48 + u)).toNat = _
        rw [UInt8.toNat_ofNat_of_lt' (by show 48 + u < 256; omega)]
      show digN _ (0 + 1) = _
      rw [digN_step (n := 0) rfl, hb, if_pos (by simp [isDig]; omega)]
      simp
    · match n, hn with
      | 0, hn => omega
      | n + 1, hn =>
        have ih := dec_dig n (u / 10) (by omega)
        have e : Lib.decDigits u = Lib.decDigits (u / 10) ++ [UInt8.ofNat (48 + u % 10)] := by rw [Lib.decDigits, dif_neg h]
        rw [e, List.length_append, List.length_singleton]
        have hp : digN (bOf (Lib.decDigits (u / 10) ++ [UInt8.ofNat (48 + u % 10)])) (Lib.decDigits (u / 10)).length = some (u / 10) := by
          rw [← ih]
          refine digN_congr _ fun j hj => ?_
          rw [bOf_byte, bOf_byte, getD_left hj]
        have hb : byteAt (bOf (Lib.decDigits (u / 10) ++ [UInt8.ofNat (48 + u % 10)])) (Lib.decDigits (u / 10)).length = 48 + u % 10 := by
          rw [bOf_byte, getD_right (Nat.le_refl _), Nat.sub_self]
          exact dec_byte u
        rw [digN_step hp, hb, if_pos (by simp [isDig]; omega)]
        congr 1
        omega
theorem dec_first : ∀ (n u : Nat), u ≤ n → 1 ≤ u → ((Lib.decDigits u).getD 0 0).toNat ≠ 48
  | n, u, hn, h1 => by
    by_cases h : u < 10
    · rw [Lib.decDigits_one h]
      show (UInt8.ofNat (48 + u)).toNat ≠ 48
      rw [UInt8.toNat_ofNat_of_lt' (by show 48 + u < 256; omega)]
      omega
    · match n, hn with
      | 0, hn => omega
      | n + 1, hn =>
        have e : Lib.decDigits u = Lib.decDigits (u / 10) ++ [UInt8.ofNat (48 + u % 10)] := by rw [Lib.decDigits, dif_neg h]
        have hl : 0 < (Lib.decDigits (u / 10)).length := by rw [Lib.decDigits_length]; exact Lib.nDigits_pos _
        rw [e, getD_left hl]
        exact dec_first n (u / 10) (by omega) (by omega)
theorem itB_bOf {n : Int} (h0 : 0 ≤ n) : itB n = bOf (Lib.decDigits n.toNat) := ext_list (itB_list h0)
theorem dig_itB {n : Int} (h0 : 0 ≤ n) (h1 : n ≤ 2147483647) : digR (itB n) 2147483647 = (n, 0) := by
  have hz := itB_ten h0 h1
  have hd := dec_dig n.toNat n.toNat (Nat.le_refl _)
  have hs : (itB n).size = (Lib.decDigits n.toNat).length := by rw [itB_bOf h0, bOf_size]
  have hp : 1 ≤ (itB n).size := by rw [hs, Lib.decDigits_length]; exact Lib.nDigits_pos _
  have hb : digBad (itB n) = false := by
    unfold digBad
    rw [decide_eq_false]
    rintro (h | h | ⟨h2, h3⟩)
    · omega
    · omega
    · rw [itB_bOf h0, bOf_byte] at h3
      refine dec_first n.toNat n.toNat (Nat.le_refl _) ?_ h3
      rcases Nat.eq_zero_or_pos n.toNat with q | q
      · rw [hs, q, Lib.decDigits_one (by omega)] at h2
        simp at h2
      · exact q
  rw [digR_good hb, hs, itB_bOf h0, hd]
  simp only
  rw [if_neg (by omega)]
  congr 1
  omega
/-! ### reading -/
def preW (t w : ByteArray) : Bool := Lib.hasPrefix t.data.toList w.data.toList
def cutW (t w : ByteArray) : ByteArray := ⟨(t.data.toList.drop w.data.toList.length).toArray⟩
def takeK (c : Ck) (x : ByteArray) : Nat → Ck
  | 0 => { c with path := x }
  | 1 => { c with age := (digR x 2147483647).1, has := true }
  | 2 => { c with http := true }
  | 3 => { c with sec := true }
  | _ => { c with same := x }
def stepS (k : Nat) (c : Ck) (r : List ByteArray) : Ck × List ByteArray := match r with
  | [] => (c, [])
  | t :: q => if preW t (wordK k) = true then (takeK c (cutW t (wordK k)) k, q) else (c, t :: q)
def rdS : Nat → Ck → List ByteArray → Ck × List ByteArray
  | 0, c, r => (c, r)
  | k + 1, c, r => stepS k (rdS k c r).1 (rdS k c r).2
def ck0 (n v : ByteArray) : Ck := ⟨n, v, ⟨#[]⟩, 0, false, false, false, ⟨#[]⟩⟩
def rsR (ts : List ByteArray) : Ck := match ts with
  | [] => ck0 ⟨#[]⟩ ⟨#[]⟩
  | t :: r => (rdS 5 (ck0 (rdP t).name (rdP t).val) r).1
theorem pre_word (w x : ByteArray) : preW (w ++ x) w = true := by
  unfold preW Lib.hasPrefix
  rw [app_list]
  exact List.isPrefixOf_iff_prefix.2 ⟨_, rfl⟩
theorem cut_word (w x : ByteArray) : cutW (w ++ x) w = x := by
  unfold cutW
  rw [app_list, List.drop_left]
theorem cut_self (w : ByteArray) : cutW w w = ⟨#[]⟩ := by
  unfold cutW
  rw [List.drop_length]
theorem pre_self (w : ByteArray) : preW w w = true := by
  unfold preW Lib.hasPrefix
  exact List.isPrefixOf_iff_prefix.2 ⟨[], by simp⟩
theorem pre_app (a x w : ByteArray) (h : Lib.hasPrefix (a.data.toList ++ x.data.toList) w.data.toList = false) : preW (a ++ x) w = false := by
  unfold preW
  rw [app_list]
  exact h
/-- What stands behind the first k parts. -/
def restK (c : Ck) : Nat → List ByteArray
  | 0 => txs c 0 ++ (txs c 1 ++ (txs c 2 ++ (txs c 3 ++ txs c 4)))
  | 1 => txs c 1 ++ (txs c 2 ++ (txs c 3 ++ txs c 4))
  | 2 => txs c 2 ++ (txs c 3 ++ txs c 4)
  | 3 => txs c 3 ++ txs c 4
  | 4 => txs c 4
  | _ => []
theorem txK_rest (c : Ck) : txK c 5 = prt ⟨c.name, c.value⟩ :: restK c 0 := by
  simp [txK, restK, List.append_assoc]
theorem rest_step (c : Ck) {k : Nat} (hk : k < 5) : restK c k = txs c k ++ restK c (k + 1) := by
  rcases (by omega : k = 0 ∨ k = 1 ∨ k = 2 ∨ k = 3 ∨ k = 4) with rfl | rfl | rfl | rfl | rfl
  · rfl
  · rfl
  · rfl
  · rfl
  · exact (List.append_nil _).symm
theorem word_first {k j : Nat} (hk : k < 5) (hj : j < 5) (hkj : k < j) (x : ByteArray) : preW (wordK j ++ x) (wordK k) = false := by
  apply pre_app
  rcases (by omega : (k = 0 ∧ (j = 1 ∨ j = 2 ∨ j = 3 ∨ j = 4)) ∨ (k = 1 ∧ (j = 2 ∨ j = 3 ∨ j = 4)) ∨ (k = 2 ∧ (j = 3 ∨ j = 4)) ∨ (k = 3 ∧ j = 4)) with ⟨rfl, rfl | rfl | rfl | rfl⟩ | ⟨rfl, rfl | rfl | rfl⟩ | ⟨rfl, rfl | rfl⟩ | ⟨rfl, rfl⟩ <;> rfl
theorem rest_head (c : Ck) : ∀ (m k : Nat), k + m = 5 → ∀ t q, restK c k = t :: q → ∃ j, k ≤ j ∧ j < 5 ∧ t = wordK j ++ sayK c j
  | 0, k, hk, t, q, h => by
    obtain rfl : k = 5 := by omega
    cases h
  | m + 1, k, hk, t, q, h => by
    rw [rest_step c (by omega)] at h
    cases hh : hasK c k with
    | true =>
      rw [txs_has hh, List.cons_append, List.cons.injEq] at h
      exact ⟨k, Nat.le_refl _, by omega, h.1.symm⟩
    | false =>
      rw [txs_not hh, List.nil_append] at h
      obtain ⟨j, h1, h2, h3⟩ := rest_head c m (k + 1) (by omega) t q h
      exact ⟨j, by omega, h2, h3⟩
/-- The cookie as it has been read behind k parts. -/
def ckK (c : Ck) : Nat → Ck
  | 0 => ck0 c.name c.value
  | k + 1 => if hasK c k = true then takeK (ckK c k) (sayK c k) k else ckK c k
theorem rdS_rest (c : Ck) : ∀ k, k ≤ 5 → rdS k (ck0 c.name c.value) (restK c 0) = (ckK c k, restK c k)
  | 0, _ => rfl
  | k + 1, hk => by
    rw [rdS, rdS_rest c k (by omega), ckK]
    simp only
    rw [rest_step c (by omega : k < 5)]
    cases hh : hasK c k with
    | true =>
      rw [txs_has hh, List.cons_append, List.nil_append, stepS]
      simp only
      rw [if_pos (pre_word _ _), cut_word]
      simp
    | false =>
      rw [txs_not hh, List.nil_append, if_neg (by decide)]
      cases hr : restK c (k + 1) with
      | nil => rfl
      | cons t q =>
        obtain ⟨j, h1, h2, h3⟩ := rest_head c (5 - (k + 1)) (k + 1) (by omega) t q hr
        rw [stepS, h3, if_neg]
        rw [word_first (by omega) h2 (by omega)]
        decide
theorem ckK_all {c : Ck} (h : mayR c = true) : ckK c 5 = c := by
  have ha : 0 ≤ c.age ∧ c.age ≤ 2147483647 ∧ (c.age = 0 ∨ c.has = true) := by
    unfold mayR ageR at h
    simp only [Bool.and_eq_true, decide_eq_true_eq] at h
    exact h.1.2
  have hd := dig_itB ha.1 ha.2.1
  obtain ⟨nm, vl, pa, ag, hs, hh, sc, sm⟩ := c
  simp only at ha hd
  have e0 : ∀ s : ByteArray, ((!decide (s.size = 0)) = true) = ¬ s.size = 0 := fun s => by simp
  simp only [ckK, hasK, sayK, takeK, ck0, e0]
  have hpa : pa.size = 0 → pa = ⟨#[]⟩ := size_nil
  have hsm : sm.size = 0 → sm = ⟨#[]⟩ := size_nil
  by_cases h1 : pa.size = 0 <;> by_cases h5 : sm.size = 0 <;> cases hs <;> cases hh <;> cases sc
  all_goals
    simp only [h1, h5, not_true_eq_false, not_false_eq_true, if_true, if_false, Bool.false_eq_true, hd, Ck.mk.injEq, true_and, and_true]
  all_goals
    first
      | (simp_all; done)
      | (have := hpa h1; have := hsm h5; simp_all; done)
end Go.Proofs.YtimabpfahhbadaaDoor
