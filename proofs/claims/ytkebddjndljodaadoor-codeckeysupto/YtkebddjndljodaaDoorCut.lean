/-
  Cuts of a text, and what a reader that stands within a text gives.
-/
import Derived.Test.YtkebddjndljodaaDoorAwake
namespace Go.Proofs.YtkebddjndljodaaDoor
open Go.RowKit
theorem ext2 {s : ByteArray} {a k l : Nat} (h : a + l ≤ s.size) : (s.extract a s.size).extract k l = s.extract (a + k) (a + l) := by
  rw [ByteArray.extract_extract, Nat.min_eq_left h]
theorem ext_rest {s : ByteArray} {a k : Nat} (h : a ≤ s.size) : (s.extract a s.size).extract k (s.extract a s.size).size = s.extract (a + k) s.size := by
  rw [ByteArray.extract_extract, ByteArray.size_extract, Nat.min_self, Nat.min_eq_right (by omega)]
theorem ext_size {s : ByteArray} {a b : Nat} (h : b ≤ s.size) : (s.extract a b).size = b - a := by
  rw [ByteArray.size_extract, Nat.min_eq_left h]
theorem ext_all (s : ByteArray) : s.extract 0 s.size = s := ByteArray.extract_zero_size
theorem rTake_from {s : ByteArray} {a n : Nat} (h : a + n ≤ s.size) : rTake (s.extract a s.size) 0 n = (s.extract a (a + n), s.extract (a + n) s.size, 0) := by
  rw [rTake_ok (by rw [ext_size (Nat.le_refl _)]; omega), ext2 h, ext_rest (by omega)]
  rfl
theorem rTake_short_from {s : ByteArray} {a n : Nat} (h : s.size < a + n) (ha : a ≤ s.size) : rTake (s.extract a s.size) 0 n = (ByteArray.empty, ByteArray.empty, 20) := by
  rw [rTake_short (by rw [ext_size (Nat.le_refl _)]; omega)]
theorem ext_le (s : ByteArray) (a b : Nat) : (s.extract a b).size ≤ s.size := by rw [ByteArray.size_extract]; omega
theorem ext_one {s : ByteArray} {a : Nat} (h : a < s.size) : (s.extract a (a + 1)).data.toList = [s[a]] := by
  rw [ByteArray.data_extract]
  apply List.ext_getElem
  · simp; have : s.data.size = s.size := rfl; omega
  · intro i h1 h2
    simp at h2
    subst h2
    simp
    rfl
theorem beNat_one (c : UInt8) : beNat [c] = c.toNat := by simp [beNat]
theorem beNat4_lt {s : ByteArray} {a b : Nat} (h : b ≤ s.size) (hb : b = a + 4) : beNat (s.extract a b).data.toList < 4294967296 := by
  have := beNat_lt (s.extract a b).data.toList
  have e : (s.extract a b).data.toList.length = 4 := by
    have := ext_size (a := a) h
    rw [size_list] at this
    omega
  rw [e] at this
  exact this
end Go.Proofs.YtkebddjndljodaaDoor
