/-
  Plain facts: what a write puts is read back.
-/
import Derived.Test.YtkebddjndljodaaDoorPut
import Derived.Test.YtkebddjndljodaaDoorVarint
namespace Go.Proofs.YtkebddjndljodaaDoor
open Go.RowKit
theorem bt_nat (x : Nat) : (bt x).toNat = x % 256 := by simp [bt]
theorem bt_eq {x y : Nat} (h : x % 256 = y % 256) : bt x = bt y := by
  apply UInt8.toNat_inj.1
  rw [bt_nat, bt_nat, h]
theorem be1_mod (n : Nat) : be1 (n % 256) = be1 n := by unfold be1; rw [bt_eq (show n % 256 % 256 = n % 256 by omega)]
theorem be2_mod (n : Nat) : be2 (n % 65536) = be2 n := by
  unfold be2
  rw [bt_eq (show n % 65536 / 256 % 256 = n / 256 % 256 by omega), bt_eq (show n % 65536 % 256 = n % 256 by omega)]
theorem be4_mod (n : Nat) : be4 (n % 4294967296) = be4 n := by
  unfold be4
  rw [bt_eq (show n % 4294967296 / 16777216 % 256 = n / 16777216 % 256 by omega), bt_eq (show n % 4294967296 / 65536 % 256 = n / 65536 % 256 by omega),
    bt_eq (show n % 4294967296 / 256 % 256 = n / 256 % 256 by omega), bt_eq (show n % 4294967296 % 256 = n % 256 by omega)]
theorem beNat1 (n : Nat) : beNat (be1 n) = n % 256 := by simp only [beNat, be1, List.foldl, bt_nat]; omega
theorem beNat2 (n : Nat) : beNat (be2 n) = n % 65536 := by simp only [beNat, be2, List.foldl, bt_nat]; omega
theorem beNat4 (n : Nat) : beNat (be4 n) = n % 4294967296 := by simp only [beNat, be4, List.foldl, bt_nat]; omega
theorem beNat8 {n : Nat} (h : n < 18446744073709551616) : beNat (be8 n) = n := by simp only [beNat, be8, List.foldl, bt_nat]; omega
theorem ext_list' (s : ByteArray) (a b : Nat) : (s.extract a b).data.toList = (s.data.toList.drop a).take (b - a) := by
  rw [ByteArray.data_extract, Array.toList_extract]
theorem bytes_ext' {a b : ByteArray} (h : a.data.toList = b.data.toList) : a = b := by
  apply ByteArray.ext
  exact Array.toList_inj.1 h
theorem size_mk (l : List UInt8) : (⟨l.toArray⟩ : ByteArray).size = l.length := by simp [ByteArray.size]
theorem rTake_list {l R : List UInt8} {m : Nat} (h : l.length = m) : rTake ⟨(l ++ R).toArray⟩ 0 m = (⟨l.toArray⟩, ⟨R.toArray⟩, 0) := by
  have hsz : (⟨(l ++ R).toArray⟩ : ByteArray).size = m + R.length := by rw [size_mk, List.length_append, h]
  rw [rTake_ok (by omega)]
  have e1 : (⟨(l ++ R).toArray⟩ : ByteArray).extract 0 m = ⟨l.toArray⟩ := by
    apply bytes_ext'
    rw [ext_list']
    simp [← h]
  have e2 : (⟨(l ++ R).toArray⟩ : ByteArray).extract m (⟨(l ++ R).toArray⟩ : ByteArray).size = ⟨R.toArray⟩ := by
    apply bytes_ext'
    rw [ext_list', hsz]
    simp [← h]
  rw [e1, e2]
theorem rVar_list {n : Nat} (h : n < 18446744073709551616) (R : List UInt8) : rVar ⟨(varint n ++ R).toArray⟩ 0 = (n, ⟨R.toArray⟩, 0) := by
  have := rVar_back n h ⟨R.toArray⟩
  have e : (⟨(varint n).toArray⟩ : ByteArray) ++ ⟨R.toArray⟩ = ⟨(varint n ++ R).toArray⟩ := by
    apply bytes_ext'
    rw [ByteArray.data_append, Array.toList_append]
  rw [e] at this
  exact this
theorem rText_list {s : ByteArray} (h : s.size < 18446744073709551616) (R : List UInt8) : rText ⟨(textBytes s ++ R).toArray⟩ 0 = (s, ⟨R.toArray⟩, 0) := by
  unfold rText
  rw [show textBytes s ++ R = varint s.size ++ (s.data.toList ++ R) by simp [textBytes], rVar_list h, rTake_list (size_list s).symm]
/-- What a write puts. -/
def opBytes (kd : Int) (n : Nat) (s : ByteArray) : List UInt8 :=
  if kd = 0 then be1 n else if kd = 1 then be2 n else if kd = 2 then be4 n else if kd = 3 then be8 n else if kd = 4 then varint n else if kd = 5 then textBytes s else if kd = 6 then s.data.toList else []
theorem opBytes_len (kd : Int) (n : Nat) (s : ByteArray) (hn : n < 18446744073709551616) (hs : s.size < 18446744073709551616) : (opBytes kd n s).length ≤ s.size + 10 := by
  have h1 := varint_le n hn
  have h2 := varint_le s.size hs
  have h3 := size_list s
  unfold opBytes
  repeat' split
  · show 1 ≤ _; omega
  · show 2 ≤ _; omega
  · show 4 ≤ _; omega
  · show 8 ≤ _; omega
  · omega
  · rw [textBytes, List.length_append, ← h3]; omega
  · omega
  · exact Nat.zero_le _
/-- The bytes of m writes from the k-th on. -/
def restFrom (B : Nat → List UInt8) : Nat → Nat → List UInt8
  | 0, _ => []
  | m + 1, k => B k ++ restFrom B m (k + 1)
theorem restFrom_snoc (B : Nat → List UInt8) : ∀ m k, restFrom B (m + 1) k = restFrom B m k ++ B (k + m)
  | 0, k => by simp [restFrom]
  | m + 1, k => by
    rw [restFrom, restFrom_snoc B m (k + 1), restFrom, List.append_assoc]
    congr 3
    omega
end Go.Proofs.YtkebddjndljodaaDoor
