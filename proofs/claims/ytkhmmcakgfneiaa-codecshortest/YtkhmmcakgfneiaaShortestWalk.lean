/-
  The walk of CodecShortest: whatever the two numbers and the text behind, the call returns true, and turns nothing that was there.
-/
import Derived.Test.YtkhmmcakgfneiaaVarint
namespace Go.Proofs.Ytkhmmcakgfneiaa
open Go.RowKit
theorem len_toArray (l : List UInt8) : (⟨l.toArray⟩ : ByteArray).size = l.length := by simp [ByteArray.size]

set_option maxRecDepth 100000 in
set_option maxHeartbeats 4000000 in
theorem shortest_le (a b : Nat) (t : ByteArray) (w : World) (ha : a < 18446744073709551616) (hb : b < 18446744073709551616) (ht : t.size ≤ 140737488351232) (hab : a ≤ b) :
    Calls Try.prog 5 #[.int .u64 a, .int .u64 b, .string t] w fun r w' => r = .returned (.bool true) ∧ Below w.heap.size w w' := by
  have m1 := varint_pos a
  have m2 := varint_mono b a (by omega)
  have m3 := varint_le b (by omega)
  go_enter Try.func5, Try.ntmps5
  go_wp2_with fail
  refine (awake_any _).mono ?_
  rintro e w1 ⟨rfl, B1⟩
  go_wp2_with fail
  refine (newWriter_any 20 _).mono ?_
  rintro e w2 ⟨rfl, h2, k2⟩
  go_wp2_with fail
  refine (newWriter_any 20 _).mono ?_
  rintro e w3 ⟨rfl, h3, k3⟩
  rw [show max (20 : Int) 0 = 20 from rfl] at h2 h3
  have z2 := h2.lt
  have z3 := h3.lt
  have h2' := (h2.kept k3 (fun f => f) (fun _ _ f => f)).none w3.heap.size
  replace h3 := h3.none w3.heap.size
  have B3 : Below w.heap.size w w3 := B1.trans ((k2.below B1.size (fun _ f => f.elim)).trans (k3.below (Nat.le_trans B1.size k2.size) (fun _ f => f.elim)))
  have s1 := B1.size
  clear h2 k2 k3
  go_wp2_with fail
  refine (wvarint_ok a h2' (Nat.le_refl _) (by omega) (by decide) (by decide) (by decide) (by simp; omega)).mono ?_
  rintro e w4 ⟨rfl, ⟨v4, h4⟩, k4⟩
  have z4 := k4.size
  have h3' := (h3.kept k4 (by rintro (q | q); omega; omega) (fun _ q => by simp [Value.ownBlock] at q)).none w4.heap.size
  have B4 : Below w.heap.size w w4 := B3.trans (k4.below B3.size (by rintro k (rfl | q); omega; omega))
  clear h3 h2' k4
  go_wp2_with fail
  refine (wvarint_ok b h3' (Nat.le_refl _) (by omega) (by decide) (by decide) (by decide) (by simp; omega)).mono ?_
  rintro e w5 ⟨rfl, ⟨v5, h5⟩, k5⟩
  have z5 := k5.size
  have h4' := h4.beside k5 (by omega) (Nat.le_refl _) (fun q => by have := (h4.rowLt _ q).1; omega)
  have B5 : Below w.heap.size w w5 := B4.trans (k5.below B4.size (by rintro k (rfl | q); omega; omega))
  clear h4 h3' k5
  rw [List.nil_append] at h4' h5
  go_wp2_with fail
  refine (wdone_ok h4').mono ?_
  rintro e w6 ⟨rfl, rfl⟩
  go_wp2_with fail
  refine (wdone_ok h5).mono ?_
  rintro e w6 ⟨rfl, rfl⟩
  clear h4' h5
  have l1 := len_toArray (varint a)
  have l2 := len_toArray (varint b)
  have HB : Hid _ := rVar_back b (by omega) t
  have HC : Hid (∀ n, n = (varint b).length - 1 → _) := fun n hn => rVar_cut b (by omega) (n := n) hn
  obtain ⟨S, hS⟩ : ∃ S : ByteArray, S = ⟨(varint a).toArray⟩ := ⟨_, rfl⟩
  obtain ⟨T, hT⟩ : ∃ T : ByteArray, T = ⟨(varint b).toArray⟩ := ⟨_, rfl⟩
  rw [← hS] at l1 ⊢
  rw [← hT] at l2 HB HC ⊢
  clear hS hT
  generalize (varint a).length = na at *
  generalize (varint b).length = nb at *
  go_wp2_with fail
  refine (newReader_any _ _).mono ?_
  rintro e w7 ⟨rfl, h7, k7⟩
  have z7 := h7.lt
  have B7 : Below w.heap.size w w7 := B5.trans (k7.below B5.size (fun _ f => f.elim))
  go_wp2_with fail
  refine (newReader_any _ _).mono ?_
  rintro e w8 ⟨rfl, h8, k8⟩
  have z8 := h8.lt
  have h7' := h7.kept k8 (fun f => f)
  have B8 : Below w.heap.size w w8 := B7.trans (k8.below B7.size (fun _ f => f.elim))
  have ls : (T ++ t).size ≤ maxLen := by rw [ByteArray.size_append]; unfold maxLen; omega
  clear h7 k7 k8
  go_wp2_with fail
  refine (varint_any _ _ _ _ h7' ls).mono ?_
  rintro e w9 ⟨rfl, h9, k9⟩
  rw [HB.out] at h9 ⊢
  have h8' := h8.kept k9 (by omega)
  have B9 : Below w.heap.size w w9 := B8.trans (k9.below B8.size (by rintro k rfl; omega))
  clear h7' h8 ls
  go_wp2_with fail
  refine (left_any _ _ _ _ h9).mono ?_
  rintro e w10 ⟨rfl, rfl⟩
  go_wp2_with fail
  refine (varint_any _ _ _ _ h8' (Nat.le_trans (ext_le _ _ _) (by unfold maxLen; omega))).mono ?_
  rintro e w11 ⟨rfl, h11, k11⟩
  rw [HC.out _ (by omega)] at h11 ⊢
  have B11 : Below w.heap.size w w11 := B9.trans (k11.below B9.size (by rintro k rfl; omega))
  go_wp2_with fail
  refine (err_any _ _ _ _ h11).mono ?_
  rintro e w12 ⟨rfl, rfl⟩
  go_wp2_with fail
  go_ret
  exact ⟨rfl, B11⟩

set_option maxRecDepth 100000 in
set_option maxHeartbeats 4000000 in
theorem shortest_gt (a b : Nat) (t : ByteArray) (w : World) (ha : a < 18446744073709551616) (hb : b < 18446744073709551616) (ht : t.size ≤ 140737488351232) (hab : b < a) :
    Calls Try.prog 5 #[.int .u64 a, .int .u64 b, .string t] w fun r w' => r = .returned (.bool true) ∧ Below w.heap.size w w' := by
  have m1 := varint_pos b
  have m2 := varint_mono a b (by omega)
  have m3 := varint_le a (by omega)
  go_enter Try.func5, Try.ntmps5
  go_wp2_with fail
  refine (awake_any _).mono ?_
  rintro e w1 ⟨rfl, B1⟩
  go_wp2_with fail
  refine (newWriter_any 20 _).mono ?_
  rintro e w2 ⟨rfl, h2, k2⟩
  go_wp2_with fail
  refine (newWriter_any 20 _).mono ?_
  rintro e w3 ⟨rfl, h3, k3⟩
  rw [show max (20 : Int) 0 = 20 from rfl] at h2 h3
  have z2 := h2.lt
  have z3 := h3.lt
  have h2' := (h2.kept k3 (fun f => f) (fun _ _ f => f)).none w3.heap.size
  replace h3 := h3.none w3.heap.size
  have B3 : Below w.heap.size w w3 := B1.trans ((k2.below B1.size (fun _ f => f.elim)).trans (k3.below (Nat.le_trans B1.size k2.size) (fun _ f => f.elim)))
  have s1 := B1.size
  clear h2 k2 k3
  go_wp2_with fail
  refine (wvarint_ok b h2' (Nat.le_refl _) (by omega) (by decide) (by decide) (by decide) (by simp; omega)).mono ?_
  rintro e w4 ⟨rfl, ⟨v4, h4⟩, k4⟩
  have z4 := k4.size
  have h3' := (h3.kept k4 (by rintro (q | q); omega; omega) (fun _ q => by simp [Value.ownBlock] at q)).none w4.heap.size
  have B4 : Below w.heap.size w w4 := B3.trans (k4.below B3.size (by rintro k (rfl | q); omega; omega))
  clear h3 h2' k4
  go_wp2_with fail
  refine (wvarint_ok a h3' (Nat.le_refl _) (by omega) (by decide) (by decide) (by decide) (by simp; omega)).mono ?_
  rintro e w5 ⟨rfl, ⟨v5, h5⟩, k5⟩
  have z5 := k5.size
  have h4' := h4.beside k5 (by omega) (Nat.le_refl _) (fun q => by have := (h4.rowLt _ q).1; omega)
  have B5 : Below w.heap.size w w5 := B4.trans (k5.below B4.size (by rintro k (rfl | q); omega; omega))
  clear h4 h3' k5
  rw [List.nil_append] at h4' h5
  go_wp2_with fail
  refine (wdone_ok h4').mono ?_
  rintro e w6 ⟨rfl, rfl⟩
  go_wp2_with fail
  refine (wdone_ok h5).mono ?_
  rintro e w6 ⟨rfl, rfl⟩
  clear h4' h5
  have l1 := len_toArray (varint b)
  have l2 := len_toArray (varint a)
  have HB : Hid _ := rVar_back a (by omega) t
  have HC : Hid (∀ n, n = (varint a).length - 1 → _) := fun n hn => rVar_cut a (by omega) (n := n) hn
  obtain ⟨S, hS⟩ : ∃ S : ByteArray, S = ⟨(varint b).toArray⟩ := ⟨_, rfl⟩
  obtain ⟨T, hT⟩ : ∃ T : ByteArray, T = ⟨(varint a).toArray⟩ := ⟨_, rfl⟩
  rw [← hS] at l1 ⊢
  rw [← hT] at l2 HB HC ⊢
  clear hS hT
  generalize (varint b).length = na at *
  generalize (varint a).length = nb at *
  go_wp2_with fail
  refine (newReader_any _ _).mono ?_
  rintro e w7 ⟨rfl, h7, k7⟩
  have z7 := h7.lt
  have B7 : Below w.heap.size w w7 := B5.trans (k7.below B5.size (fun _ f => f.elim))
  go_wp2_with fail
  refine (newReader_any _ _).mono ?_
  rintro e w8 ⟨rfl, h8, k8⟩
  have z8 := h8.lt
  have h7' := h7.kept k8 (fun f => f)
  have B8 : Below w.heap.size w w8 := B7.trans (k8.below B7.size (fun _ f => f.elim))
  have ls : (T ++ t).size ≤ maxLen := by rw [ByteArray.size_append]; unfold maxLen; omega
  clear h7 k7 k8
  go_wp2_with fail
  refine (varint_any _ _ _ _ h7' ls).mono ?_
  rintro e w9 ⟨rfl, h9, k9⟩
  rw [HB.out] at h9 ⊢
  have h8' := h8.kept k9 (by omega)
  have B9 : Below w.heap.size w w9 := B8.trans (k9.below B8.size (by rintro k rfl; omega))
  clear h7' h8 ls
  go_wp2_with fail
  refine (left_any _ _ _ _ h9).mono ?_
  rintro e w10 ⟨rfl, rfl⟩
  go_wp2_with fail
  refine (varint_any _ _ _ _ h8' (Nat.le_trans (ext_le _ _ _) (by unfold maxLen; omega))).mono ?_
  rintro e w11 ⟨rfl, h11, k11⟩
  rw [HC.out _ (by omega)] at h11 ⊢
  have B11 : Below w.heap.size w w11 := B9.trans (k11.below B9.size (by rintro k rfl; omega))
  go_wp2_with fail
  refine (err_any _ _ _ _ h11).mono ?_
  rintro e w12 ⟨rfl, rfl⟩
  go_wp2_with fail
  go_ret
  exact ⟨rfl, B11⟩
end Go.Proofs.Ytkhmmcakgfneiaa
