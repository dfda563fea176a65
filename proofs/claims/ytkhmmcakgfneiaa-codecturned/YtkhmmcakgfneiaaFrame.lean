/-
  The contract of codec.Frame: a body of up to 2^20 bytes has the bytes that chapter 2 says; a longer one is told.
-/
import Derived.Test.YtkhmmcakgfneiaaPut
namespace Go.Proofs.Ytkhmmcakgfneiaa
open Go.RowKit
/-- A frame's bytes ahead of its check sum. -/
def frHead (k : Nat) (body : ByteArray) : List UInt8 := [68, 70] ++ be1 k ++ be1 0 ++ be4 body.size ++ body.data.toList
/-- A frame's bytes. -/
def frBytes (k : Nat) (body : ByteArray) : List UInt8 := frHead k body ++ be4 (Cx.crc (frHead k body))
theorem be1_len (n : Nat) : (be1 n).length = 1 := rfl
theorem be4_len (n : Nat) : (be4 n).length = 4 := rfl
theorem frHead_len (k : Nat) (body : ByteArray) : (frHead k body).length = 8 + body.size := by
  simp only [frHead, List.length_append, be1_len, be4_len, ← size_list]
  simp
theorem frBytes_len (k : Nat) (body : ByteArray) : (frBytes k body).length = 12 + body.size := by
  rw [frBytes, List.length_append, frHead_len, be4_len]; omega
theorem frame_long (k : Int) (body : ByteArray) (w : World) (hl : 1048576 < body.size) (hs : body.size ≤ maxLen) :
    Calls Try.prog 30 #[.int .u8 k, .string body] w fun r w' => r = .returned (.tuple #[.string ByteArray.empty, .int .i64 3]) ∧ w' = w := by
  unfold maxLen at hs
  go_enter Try.func30, Try.ntmps30
  go_wp2
  go_ret2
  exact ⟨rfl, rfl⟩
set_option maxHeartbeats 2000000 in
theorem frame_any (k : Nat) (body : ByteArray) (w : World) (hk : k < 256) (hl : body.size ≤ 1048576) :
    Calls Try.prog 30 #[.int .u8 k, .string body] w fun r w' => r = .returned (.tuple #[.string ⟨(frBytes k body).toArray⟩, .int .i64 0]) ∧ Below w.heap.size w w' := by
  go_enter Try.func30, Try.ntmps30
  go_wp2_with fail
  refine (newWriter_any _ _).mono ?_
  rintro e w1 ⟨rfl, h1, k1⟩
  have M : max (8 + (body.size : Int) + 4) 0 = 12 + (body.size : Int) := by omega
  rw [M] at h1
  clear M
  replace h1 := h1.none w.heap.size
  have B1 : Below w.heap.size w w1 := k1.below (Nat.le_refl _) (fun _ f => f.elim)
  go_wp2_with fail
  refine (wraw_ok _ h1 B1.size (by omega) (by omega) (by decide) ?r2).mono ?_
  case r2 => rw [show (⟨#[68, 70]⟩ : ByteArray).size = 2 from rfl]; simp; omega
  rintro e w2 ⟨rfl, ⟨v2, h2⟩, k2⟩
  have B2 : Below w.heap.size w w2 := B1.trans (k2.below B1.size (by rintro i (rfl | q); exact Nat.le_refl _; exact q))
  rw [show ([] ++ (⟨#[68, 70]⟩ : ByteArray).data.toList : List UInt8) = [68, 70] from rfl] at h2
  go_wp2_with fail
  refine (wu8_ok k h2 B2.size hk (by omega) (by omega) (by decide) (by simp; omega)).mono ?_
  rintro e w3 ⟨rfl, ⟨v3, h3⟩, k3⟩
  have B3 : Below w.heap.size w w3 := B2.trans (k3.below B2.size (by rintro i (rfl | q); exact Nat.le_refl _; exact q))
  go_wp2_with fail
  refine (wu8_ok 0 h3 B3.size (by decide) (by omega) (by omega) (by simp [be1_len]) (by simp [be1_len]; omega)).mono ?_
  rintro e w4 ⟨rfl, ⟨v4, h4⟩, k4⟩
  have B4 : Below w.heap.size w w4 := B3.trans (k4.below B3.size (by rintro i (rfl | q); exact Nat.le_refl _; exact q))
  go_wp2_with fail
  refine (wu32_ok body.size h4 B4.size (by omega) (by omega) (by omega) (by simp [be1_len]) (by simp [be1_len]; omega)).mono ?_
  rintro e w5 ⟨rfl, ⟨v5, h5⟩, k5⟩
  have B5 : Below w.heap.size w w5 := B4.trans (k5.below B4.size (by rintro i (rfl | q); exact Nat.le_refl _; exact q))
  go_wp2_with fail
  refine (wraw_ok body h5 B5.size (by omega) (by omega) (by simp [be1_len, be4_len]; omega) (by simp [be1_len, be4_len]; omega)).mono ?_
  rintro e w6 ⟨rfl, ⟨v6, h6⟩, k6⟩
  have B6 : Below w.heap.size w w6 := B5.trans (k6.below B5.size (by rintro i (rfl | q); exact Nat.le_refl _; exact q))
  rw [show [68, 70] ++ be1 k ++ be1 0 ++ be4 body.size ++ body.data.toList = frHead k body from rfl] at h6
  have L := frHead_len k body
  have HC : Hid (Cx.crc (frHead k body) < 4294967296) := Cx.crc_lt _
  have HF : Hid (frBytes k body = frHead k body ++ be4 (Cx.crc (frHead k body))) := rfl
  clear h1 h2 h3 h4 h5 k1 k2 k3 k4 k5 k6
  generalize frHead k body = hd at *
  go_wp2_with fail
  refine (wdone_ok h6).mono ?_
  rintro e w7 ⟨rfl, rfl⟩
  go_wp2_with fail
  refine (crc_any _ _ (by unfold maxLen; rw [show (⟨hd.toArray⟩ : ByteArray).size = hd.length by simp [ByteArray.size]]; omega)).mono ?_
  rintro e w8 ⟨rfl, rfl⟩
  rw [show ((⟨hd.toArray⟩ : ByteArray).data.toList) = hd by simp]
  have HC' := HC.out
  generalize Cx.crc hd = c at *
  go_wp2_with fail
  refine (wu32_ok c h6 B6.size HC' (by omega) (by omega) (by omega) (by omega)).mono ?_
  rintro e w9 ⟨rfl, ⟨v9, h9⟩, k9⟩
  have B9 : Below w.heap.size w w9 := B6.trans (k9.below B6.size (by rintro i (rfl | q); exact Nat.le_refl _; exact q))
  go_wp2_with fail
  refine (wdone_ok h9).mono ?_
  rintro e w10 ⟨rfl, rfl⟩
  rw [← HF.out]
  go_wp2_with fail
  go_ret2
  exact ⟨rfl, B9⟩
end Go.Proofs.Ytkhmmcakgfneiaa
