/-
  The contract of awake: it returns true, and turns nothing that was there.
-/
import Derived.Test.YtkebddjndljodaaDoorWcalls
namespace Go.Proofs.YtkebddjndljodaaDoor
open Go.RowKit
theorem varint300 : varint 300 = [172, 2] := by rw [varint_big (by decide), varint_small (by decide)]; rfl
theorem textAb : textBytes ⟨#[97, 98]⟩ = [2, 97, 98] := by
  unfold textBytes
  rw [show (⟨#[97, 98]⟩ : ByteArray).size = 2 from rfl, varint_small (by decide)]
  rfl
theorem crcDigits : Cx.crc [49, 50, 51, 52, 53, 54, 55, 56, 57] = 3808858755 := by decide +kernel
theorem rVar5 : rVar ⟨#[172, 2, 2, 97, 98]⟩ 0 = (300, ⟨#[2, 97, 98]⟩, 0) := by decide +kernel
theorem rText3 : rText ⟨#[2, 97, 98]⟩ 0 = (⟨#[97, 98]⟩, ⟨#[]⟩, 0) := by decide +kernel
theorem rDone0 : rDone ⟨#[]⟩ 0 = 0 := by decide +kernel
set_option maxHeartbeats 1000000 in
theorem awake_any (w : World) : Calls Tryd.prog 6 #[] w fun r w' => r = .returned (.bool true) ∧ Below w.heap.size w w' := by
  go_enter Tryd.func6, Tryd.ntmps6
  go_wp2_with fail
  refine (newWriter_any 100 _).mono ?_
  rintro e w1 ⟨rfl, h1, k1⟩
  rw [show max (100 : Int) 0 = 100 from rfl] at h1
  replace h1 := h1.none (w.heap.size)
  go_wp2_with fail
  refine (crc_any _ _ (by decide)).mono ?_
  rintro e w2 ⟨rfl, rfl⟩
  rw [show (Cx.crc ((⟨#[49, 50, 51, 52, 53, 54, 55, 56, 57]⟩ : ByteArray).data.toList) : Int) = 3808858755 from by rw [crcDigits]; rfl]
  go_wp2_with fail
  refine (wvarint_ok 300 h1 k1.size (by decide) (by decide) (by decide) (by decide) (by rw [varint300]; decide)).mono ?_
  rintro e w2 ⟨rfl, ⟨v2, h2⟩, k2⟩
  rw [varint300] at h2
  go_wp2_with fail
  refine (wtext_ok _ h2 (Nat.le_trans k1.size k2.size) (by decide) (by decide) (by decide) ?hr).mono ?_
  case hr => rw [show (⟨#[97, 98]⟩ : ByteArray).size = 2 from rfl, varint_small (by decide)]; decide
  rintro e w3 ⟨rfl, ⟨v3, h3⟩, k3⟩
  rw [textAb] at h3
  go_wp2_with fail
  refine (wdone_ok h3).mono ?_
  rintro e w4 ⟨rfl, rfl⟩
  go_wp2_with fail
  refine (newReader_any _ _).mono ?_
  rintro e w5 ⟨rfl, h5, k5⟩
  go_wp2_with fail
  refine (varint_any _ _ _ _ h5 (by decide)).mono ?_
  rintro e w6 ⟨rfl, h6, k6⟩
  rw [rVar5] at h6 ⊢
  go_wp2_with fail
  refine (text_any _ _ _ _ h6 (by decide)).mono ?_
  rintro e w7 ⟨rfl, h7, k7⟩
  rw [rText3] at h7 ⊢
  go_wp2_with fail
  refine (rdone_any _ _ _ _ h7).mono ?_
  rintro e w8 ⟨rfl, rfl⟩
  rw [rDone0]
  go_wp2_with fail
  go_ret
  have z1 := k1.size; have z2 := k2.size; have z3 := k3.size; have z5 := k5.size
  refine ⟨rfl, ((((k1.below (Nat.le_refl _) (fun _ f => f.elim)).trans (k2.below z1 ?_)).trans (k3.below (by omega) ?_)).trans (k5.below (by omega) (fun _ f => f.elim))).trans ((k6.below (by omega) ?_).trans (k7.below (by have := k6.size; omega) ?_))⟩
  · rintro k (rfl | hk) <;> omega
  · rintro k (rfl | hk) <;> omega
  · rintro k rfl; omega
  · rintro k rfl; omega
end Go.Proofs.YtkebddjndljodaaDoor
