/-
  Plain facts on frames: what Unframe answers of bytes that are laid as a frame is.
-/
import Derived.Test.YtkhmmcakgfneiaaFrame
import Derived.Test.YtkhmmcakgfneiaaUnframe
namespace Go.Proofs.Ytkhmmcakgfneiaa
open Go.RowKit
theorem bt_toNat (x : Nat) : (bt x).toNat = x % 256 := by simp [bt]
theorem ext_list (s : ByteArray) (a b : Nat) : (s.extract a b).data.toList = (s.data.toList.drop a).take (b - a) := by
  rw [ByteArray.data_extract, Array.toList_extract]
theorem beNat_be4 {n : Nat} (h : n < 4294967296) : beNat (be4 n) = n := by
  simp only [beNat, be4, List.foldl, bt_toNat]
  omega
theorem bytes_ext {a b : ByteArray} (h : a.data.toList = b.data.toList) : a = b := by
  apply ByteArray.ext
  exact Array.toList_inj.1 h
/-- Bytes that are laid as a frame is: a head, a body of n bytes, a number, whatever behind. -/
structure Laid (s : ByteArray) (k n c : Nat) (B rest : List UInt8) : Prop where
  list : s.data.toList = 68 :: 70 :: bt k :: bt 0 :: (be4 n ++ (B ++ (be4 c ++ rest)))
  len : B.length = n
  kind : k < 256
  size : n < 4294967296
  sum : c < 4294967296
section
variable {s : ByteArray} {k n c : Nat} {B rest : List UInt8}
theorem Laid.total (h : Laid s k n c B rest) : s.size = 12 + n + rest.length := by
  have := congrArg List.length h.list
  have hl := h.len
  rw [← size_list] at this
  simp only [List.length_cons, List.length_append, be4_len] at this
  omega
theorem Laid.mark (h : Laid s k n c B rest) : (s.extract 0 2).toList = [68, 70] := by
  rw [ByteArray.toList_eq, ext_list, h.list]
  rfl
theorem Laid.fk (h : Laid s k n c B rest) : fk s = k := by
  have hk := h.kind
  unfold Ytkhmmcakgfneiaa.fk
  rw [ext_list, h.list]
  show beNat [bt k] = k
  rw [beNat_one, bt_toNat]
  omega
theorem Laid.fz (h : Laid s k n c B rest) : fz s = 0 := by
  unfold Ytkhmmcakgfneiaa.fz
  rw [ext_list, h.list]
  rfl
theorem Laid.fn (h : Laid s k n c B rest) : fn s = n := by
  unfold Ytkhmmcakgfneiaa.fn
  rw [ext_list, h.list]
  show beNat ((be4 n ++ (B ++ (be4 c ++ rest))).take 4) = n
  rw [List.take_left' (be4_len n), beNat_be4 h.size]
theorem Laid.split (h : Laid s k n c B rest) : s.data.toList = (68 :: 70 :: bt k :: bt 0 :: (be4 n ++ B)) ++ (be4 c ++ rest) := by
  rw [h.list]
  simp
theorem Laid.headLen (h : Laid s k n c B rest) : (68 :: 70 :: bt k :: bt 0 :: (be4 n ++ B)).length = 8 + n := by
  have hl := h.len
  simp only [List.length_cons, List.length_append, be4_len]
  omega
theorem Laid.fsum (h : Laid s k n c B rest) : fsum s = c := by
  unfold Ytkhmmcakgfneiaa.fsum
  rw [h.fn, ext_list, h.split, List.drop_left' h.headLen, show 12 + n - (8 + n) = 4 by omega, List.take_left' (be4_len c), beNat_be4 h.sum]
theorem Laid.fcrc (h : Laid s k n c B rest) : fcrc s = Cx.crc (68 :: 70 :: bt k :: bt 0 :: (be4 n ++ B)) := by
  unfold Ytkhmmcakgfneiaa.fcrc
  rw [h.fn, ext_list, List.drop_zero, Nat.sub_zero, h.split, List.take_left' h.headLen]
theorem Laid.body (h : Laid s k n c B rest) : s.extract 8 (8 + n) = ⟨B.toArray⟩ := by
  apply bytes_ext
  rw [ext_list, h.list, show 8 + n - 8 = n by omega]
  show ((be4 n ++ (B ++ (be4 c ++ rest))).drop 4).take n = _
  rw [List.drop_left' (be4_len n), List.take_left' h.len]
theorem Laid.unf_good (h : Laid s k n c B rest) (hn : n ≤ 1048576) (hc : c = Cx.crc (68 :: 70 :: bt k :: bt 0 :: (be4 n ++ B))) : unf s = (k, ⟨B.toArray⟩, 12 + n, 0) := by
  have ht := h.total
  have e := unf_ok (s := s) (by omega) (by rw [h.fn, h.fz]; simp [h.mark]; omega) (by rw [h.fn]; omega) (by rw [h.fsum, h.fcrc]; exact hc)
  rw [e, h.fk, h.fn, h.body]
theorem Laid.unf_bad (h : Laid s k n c B rest) (hn : n ≤ 1048576) (hc : c ≠ Cx.crc (68 :: 70 :: bt k :: bt 0 :: (be4 n ++ B))) : unf s = (0, ByteArray.empty, 0, 23) := by
  have ht := h.total
  exact unf_sum (s := s) (by omega) (by rw [h.fn, h.fz]; simp [h.mark]; omega) (by rw [h.fn]; omega) (by rw [h.fsum, h.fcrc]; exact hc)
end
theorem frHead_eq (k : Nat) (body : ByteArray) : frHead k body = 68 :: 70 :: bt k :: bt 0 :: (be4 body.size ++ body.data.toList) := by
  simp [frHead, be1]
theorem laid_frame (k : Nat) (body rest : ByteArray) (hk : k < 256) (hl : body.size ≤ 1048576) : Laid (⟨(frBytes k body).toArray⟩ ++ rest) k body.size (Cx.crc (frHead k body)) body.data.toList rest.data.toList := by
  refine ⟨?_, (size_list body).symm, hk, by omega, Cx.crc_lt _⟩
  rw [ByteArray.data_append, Array.toList_append]
  show frBytes k body ++ rest.data.toList = _
  rw [frBytes, frHead_eq]
  simp
theorem unf_frame (k : Nat) (body rest : ByteArray) (hk : k < 256) (hl : body.size ≤ 1048576) : unf (⟨(frBytes k body).toArray⟩ ++ rest) = (k, body, 12 + body.size, 0) := by
  rw [(laid_frame k body rest hk hl).unf_good hl (by rw [frHead_eq])]
end Go.Proofs.Ytkhmmcakgfneiaa
