/-
  A text's first rune, and how many runes it has: the contracts of Decode and Count.
-/
import Derived.Test.YtbhlpiilklgnkaaDoorRunes
namespace Go.Proofs.YtbhlpiilklgnkaaDoor
open Go.RowKit
theorem get_byte (s : ByteArray) (i : Nat) : s.get! i = s.data.toList.getD i 0 := by
  by_cases h : i < s.size
  · rw [List.getD_eq_getElem?_getD, List.getElem?_eq_getElem (by simpa using h)]
    simp [ByteArray.get!, getElem!_pos, h]
  · rw [List.getD_eq_getElem?_getD, List.getElem?_eq_none (by simpa using h)]
    simp [ByteArray.get!, h]
    rfl
theorem tail_list (s : ByteArray) (k : Nat) : (s.extract k s.size).data.toList = s.data.toList.drop k := by
  rw [ByteArray.data_extract, Array.toList_extract]
  simp [List.take_of_length_le]
theorem tail_size (s : ByteArray) (k : Nat) : (s.extract k s.size).size = s.size - k := by simp
theorem tail_get (s : ByteArray) (k j : Nat) : (s.extract k s.size).get! j = s.get! (k + j) := by
  rw [get_byte, get_byte, tail_list]
  simp [List.getD_eq_getElem?_getD]
theorem decode_tail (s : ByteArray) (k : Nat) : Utf8.decode (s.extract k s.size) 0 = Utf8.decode s k := by
  have c : ∀ j, (j < s.size - k) = (k + j < s.size) := fun j => propext (by omega)
  simp only [Utf8.decode, tail_get, tail_size, c, Nat.zero_add]
theorem decode_width (s : ByteArray) (k : Nat) (h : k < s.size) : k + (Utf8.decode s k).2 ≤ s.size ∧ (Utf8.decode s k).2 ≤ 4 := by
  simp only [Utf8.decode]
  repeat' split
  all_goals simp_all
  all_goals omega
end Go.Proofs.YtbhlpiilklgnkaaDoor
