/-
  The contract of awake: the chapter's examples.
-/
import Derived.Test.YtcpbofjpfapegaaDoorTwo
namespace Go.Proofs.YtcpbofjpfapegaaDoor
open Go.RowKit
theorem sha_abc : hexOf (sha ⟨#[97, 98, 99]⟩) = [98, 97, 55, 56, 49, 54, 98, 102, 56, 102, 48, 49, 99, 102, 101, 97, 52, 49, 52, 49, 52, 48, 100, 101, 53, 100, 97, 101, 50, 50, 50, 51, 98, 48, 48, 51, 54, 49, 97, 51, 57, 54, 49, 55, 55, 97, 57, 99, 98, 52, 49, 48, 102, 102, 54, 49, 102, 50, 48, 48, 49, 53, 97, 100] := by decide +kernel
theorem sha_len (s : ByteArray) : (sha s).length = 32 := by rw [sha, sumOf, outOf_len]
theorem two_writes : absorbAll (absorbAll fresh (bys ⟨#[97, 98]⟩)) (bys ⟨#[99]⟩) = absorbAll fresh (bys ⟨#[97, 98, 99]⟩) := rfl
set_option maxRecDepth 20000 in
set_option maxHeartbeats 2000000 in
theorem awake_any (w : World) (hK : GK w) : Calls Tryd.prog 9 #[] w fun e w' => e = .returned (.bool true) ∧ Below w.heap.size w w' := by
  have HK : Hid (GK w) := hK
  clear hK
  have hpos := HK.out.1
  go_enter Tryd.func9, Tryd.ntmps9
  go_wp2_with fail
  refine (new_any w).mono ?_
  rintro e1 w1 ⟨rfl, q1, k1⟩
  have HK1 : Hid (GK w1) := HK.out.kept k1 (fun f => f)
  have z1 := k1.size
  go_wp2_with fail
  refine (write_any _ fresh w.heap.size w1 q1 (by omega) HK1.out (by decide)).mono ?_
  rintro e2 w2 ⟨rfl, q2, k2⟩
  have HK2 : Hid (GK w2) := HK1.out.kept k2 (by omega)
  have z2 := k2.size
  go_wp2_with fail
  refine (write_any _ _ w.heap.size w2 q2 (by omega) HK2.out (by decide)).mono ?_
  rintro e3 w3 ⟨rfl, q3, k3⟩
  rw [two_writes] at q3
  have HK3 : Hid (GK w3) := HK2.out.kept k3 (by omega)
  have z3 := k3.size
  have B3 : Below w.heap.size w w3 := ((k1.below (Nat.le_refl _) (fun _ f => f.elim)).trans (k2.below (by omega) (fun i hi => by rw [hi]; exact Nat.le_refl _))).trans (k3.below (by omega) (fun i hi => by rw [hi]; exact Nat.le_refl _))
  clear q1 q2 k1 k2 k3
  go_wp2_with fail
  refine (sum_any _ w3 HK3.out (by decide)).mono ?_
  rintro e4 w4 ⟨rfl, B4⟩
  have q4 := below_his' q3 B4 q3.lt
  have HK4 : Hid (GK w4) := HK3.out.below B4
  have z4 := B4.size
  go_wp2_with fail
  refine (hex_any _ w4 (by rw [show (⟨(sha ⟨#[97, 98, 99]⟩).toArray⟩ : ByteArray).size = (sha ⟨#[97, 98, 99]⟩).length from by simp [ByteArray.size], sha_len]; decide)).mono ?_
  rintro e5 w5 ⟨rfl, B5⟩
  rw [show (⟨(sha ⟨#[97, 98, 99]⟩).toArray⟩ : ByteArray).data.toList = sha ⟨#[97, 98, 99]⟩ from rfl, sha_abc]
  have q5 := below_his' q4 B5 q4.lt
  have HK5 : Hid (GK w5) := HK4.out.below B5
  have z5 := B5.size
  go_wp2_with fail
  refine (hsum_any w.heap.size _ w5 q5 HK5.out (by decide)).mono ?_
  rintro e6 w6 ⟨rfl, B6⟩
  rw [show sumOf (absorbAll fresh (bys ⟨#[97, 98, 99]⟩)) = sha ⟨#[97, 98, 99]⟩ from rfl]
  have HK6 : Hid (GK w6) := HK5.out.below B6
  have z6 := B6.size
  go_wp2_with fail
  refine (sum_any _ w6 HK6.out (by decide)).mono ?_
  rintro e7 w7 ⟨rfl, B7⟩
  have z7 := B7.size
  go_wp2_with fail
  refine (two_any w7).mono ?_
  rintro e8 w8 ⟨rfl, B8⟩
  have HB : Hid (Below w.heap.size w w8) := ((((B3.trans (B4.mono (by omega))).trans (B5.mono (by omega))).trans (B6.mono (by omega))).trans (B7.mono (by omega))).trans (B8.mono (by omega))
  go_wp2_with fail
  go_ret
  exact ⟨rfl, HB.out⟩
end Go.Proofs.YtcpbofjpfapegaaDoor
