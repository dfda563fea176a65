/-
  Plain facts on varints: a varint is read back, however it is followed, but not if it is cut; a lower number's is not longer.
-/
import Derived.Test.YtkebddjndljodaaDoorCut
namespace Go.Proofs.YtkebddjndljodaaDoor
open Go.RowKit
theorem pow_room {m k : Nat} (h : m * 128 ^ k < 18446744073709551616) (hm : 128 ≤ m) (hk : k ≤ 9) : k ≤ 8 := by
  rcases Nat.lt_or_ge k 9 with q | q
  · omega
  · have : k = 9 := by omega
    subst this
    have e : (128 : Nat) ^ 9 = 9223372036854775808 := by decide
    omega
theorem pow_last {m : Nat} (h : m * 128 ^ 9 < 18446744073709551616) : m ≤ 1 := by
  have e : (128 : Nat) ^ 9 = 9223372036854775808 := by decide
  omega
theorem gr_varint (l : List UInt8) (m : Nat) : ∀ k n, m * 128 ^ k < 18446744073709551616 → k ≤ 9 → (0 < k → 0 < m) → gr (varint m ++ l) k n = (n + m * 128 ^ k, k + (varint m).length, 0) := by
  induction m using Nat.strongRecOn with
  | _ m ih =>
    intro k n h hk h0
    by_cases hm : m < 128
    · rw [varint_small hm]
      have e := ofNat_toNat (x := m) (by omega)
      have h9 : k = 9 → m ≤ 1 := fun q => by subst q; exact pow_last h
      rw [List.singleton_append, gr_end (by rw [e]; omega) (by rw [e]; exact hm), e, Nat.mod_eq_of_lt hm]
      rfl
    · have hk8 := pow_room h (by omega) hk
      have e := ofNat_toNat (x := m % 128 + 128) (by omega)
      rw [varint_big hm, List.cons_append, gr_on (by rw [e]; omega) (by rw [e]; omega), e, ih (m / 128) (by omega) (k + 1) _ ?_ (by omega) (by omega)]
      · have e2 : (m % 128 + 128) % 128 = m % 128 := by omega
        have e3 : m % 128 * 128 ^ k + m / 128 * 128 ^ (k + 1) = m * 128 ^ k := by
          rw [Nat.pow_succ, Nat.mul_comm (128 ^ k) 128, ← Nat.mul_assoc, ← Nat.add_mul]
          congr 1
          omega
        rw [e2, List.length_cons, Nat.add_assoc n, e3, Nat.add_assoc k 1, Nat.add_comm 1]
      · have e4 : m / 128 * 128 ^ (k + 1) ≤ m * 128 ^ k := by
          rw [Nat.pow_succ, Nat.mul_comm (128 ^ k) 128, ← Nat.mul_assoc]
          exact Nat.mul_le_mul_right _ (by omega)
        omega
theorem gr_cut (m : Nat) : ∀ k n, m * 128 ^ k < 18446744073709551616 → k ≤ 9 → gr (varint m).dropLast k n = (0, 0, 20) := by
  induction m using Nat.strongRecOn with
  | _ m ih =>
    intro k n h hk
    by_cases hm : m < 128
    · rw [varint_small hm]; rfl
    · have hk8 := pow_room h (by omega) hk
      have e := ofNat_toNat (x := m % 128 + 128) (by omega)
      have hne : varint (m / 128) ≠ [] := fun q => by have := varint_pos (m / 128); rw [q] at this; simp at this
      rw [varint_big hm, List.dropLast_cons_of_ne_nil hne, gr_on (by rw [e]; omega) (by rw [e]; omega)]
      refine ih (m / 128) (by omega) (k + 1) _ ?_ (by omega)
      have e4 : m / 128 * 128 ^ (k + 1) ≤ m * 128 ^ k := by
        rw [Nat.pow_succ, Nat.mul_comm (128 ^ k) 128, ← Nat.mul_assoc]
        exact Nat.mul_le_mul_right _ (by omega)
      omega
theorem varint_mono (b : Nat) : ∀ a, a ≤ b → (varint a).length ≤ (varint b).length := by
  induction b using Nat.strongRecOn with
  | _ b ih =>
    intro a h
    by_cases ha : a < 128
    · rw [varint_small ha]
      exact varint_pos b
    · rw [varint_big ha, varint_big (show ¬ b < 128 by omega)]
      have := ih (b / 128) (by omega) (a / 128) (by omega)
      simpa using this
theorem rVar_back (b : Nat) (h : b < 18446744073709551616) (t : ByteArray) : rVar (⟨(varint b).toArray⟩ ++ t) 0 = (b, t, 0) := by
  have hg : gr ((⟨(varint b).toArray⟩ : ByteArray) ++ t).data.toList 0 0 = (b, (varint b).length, 0) := by
    rw [ByteArray.data_append, Array.toList_append]
    have := gr_varint t.data.toList b 0 0 (by omega) (by decide) (by omega)
    simpa using this
  rw [rVar_ok hg]
  congr 2
  rw [ByteArray.extract_append]
  have e1 : (⟨(varint b).toArray⟩ : ByteArray).size = (varint b).length := by simp [ByteArray.size]
  rw [e1, ByteArray.size_append, e1]
  have e2 : (⟨(varint b).toArray⟩ : ByteArray).extract (varint b).length ((varint b).length + t.size) = ByteArray.empty := by
    apply ByteArray.ext
    rw [ByteArray.data_extract]
    simp
  rw [e2, Nat.sub_self, Nat.add_sub_cancel_left, ext_all]
  simp
theorem rVar_cut (b : Nat) (h : b < 18446744073709551616) {n : Nat} (hn : n = (varint b).length - 1) : rVar ((⟨(varint b).toArray⟩ : ByteArray).extract 0 n) 0 = (0, ByteArray.empty, 20) := by
  have hg : gr ((⟨(varint b).toArray⟩ : ByteArray).extract 0 n).data.toList 0 0 = (0, 0, 20) := by
    have := gr_cut b 0 0 (by omega) (by decide)
    rw [ByteArray.data_extract]
    simpa [hn, List.dropLast_eq_take] using this
  exact rVar_bad hg (by decide)
end Go.Proofs.YtkebddjndljodaaDoor
