/-
  The contract of Mac, of a long key.
-/
import Derived.Test.YtedibkcempcpnaaDoorMac
namespace Go.Proofs.YtedibkcempcpnaaDoor
open Go.RowKit
set_option maxRecDepth 20000 in
set_option maxHeartbeats 2000000 in
theorem mac_long (key text : ByteArray) (w : World) (hK : GK w) (hk : 64 < key.size) (hks : key.size ≤ 140737488355328) (ht : text.size ≤ 140737488355328) :
    Calls Tryd.prog 25 #[.string key, .string text] w fun e w' => e = .returned (.string ⟨(macB (sha key) text).toArray⟩) ∧ Below w.heap.size w w' := by
  have HK : Hid (GK w) := hK
  clear hK
  have hpos := HK.out.1
  go_enter Tryd.func25, Tryd.ntmps25
  go_wp2_with fail
  refine (sum_any key w HK.out hks).mono ?_
  rintro e0 v ⟨rfl, B0⟩
  have HK0 : Hid (GK v) := HK.out.below B0
  have z0 := B0.size
  have hk' : (⟨(sha key).toArray⟩ : ByteArray).size ≤ 64 := by rw [mk_size, sha_len]; decide
  go_wp2_with fail
  refine (new_any v).mono ?_
  rintro e1 w1 ⟨rfl, q1, k1⟩
  have HK1 : Hid (GK w1) := HK0.out.kept k1 (fun f => f)
  have z1 := k1.size
  go_wp2_with fail
  refine (masked_any ⟨(sha key).toArray⟩ 54 (by decide) hk' w1).mono ?_
  rintro e2 w2 ⟨rfl, B2⟩
  have q2 := below_his' q1 B2 q1.lt
  have HK2 : Hid (GK w2) := HK1.out.below B2
  have z2 := B2.size
  go_wp2_with fail
  refine (write_any _ fresh v.heap.size w2 q2 (by omega) HK2.out (by rw [mk_size, maskB_len]; decide)).mono ?_
  rintro e3 w3 ⟨rfl, q3, k3⟩
  have HK3 : Hid (GK w3) := HK2.out.kept k3 (by omega)
  have z3 := k3.size
  go_wp2_with fail
  refine (write_any text _ v.heap.size w3 q3 (by omega) HK3.out (by rw [absorbAll_z, bys_length, mk_size, maskB_len]; show 0 + 64 + text.size ≤ _; omega)).mono ?_
  rintro e4 w4 ⟨rfl, q4, k4⟩
  have HK4 : Hid (GK w4) := HK3.out.kept k4 (by omega)
  have z4 := k4.size
  have B4 : Below v.heap.size v w4 := (((k1.below (Nat.le_refl _) (fun _ f => f.elim)).trans (B2.mono (by omega))).trans (k3.below (by omega) (fun i hi => by rw [hi]; exact Nat.le_refl _))).trans (k4.below (by omega) (fun i hi => by rw [hi]; exact Nat.le_refl _))
  clear q1 q2 q3 k1 k3 k4 B2
  go_wp2_with fail
  refine (masked_any ⟨(sha key).toArray⟩ 92 (by decide) hk' w4).mono ?_
  rintro e5 w5 ⟨rfl, B5⟩
  have q5 := below_his' q4 B5 q4.lt
  have HK5 : Hid (GK w5) := HK4.out.below B5
  have z5 := B5.size
  go_wp2_with fail
  refine (hsum_any v.heap.size _ w5 q5 HK5.out (by rw [absorbAll_z, absorbAll_z, bys_length, bys_length, mk_size, maskB_len]; show 0 + 64 + text.size + 200 ≤ _; omega)).mono ?_
  rintro e6 w6 ⟨rfl, B6⟩
  have HK6 : Hid (GK w6) := HK5.out.below B6
  have z6 := B6.size
  have hl1 := maskB_len 92 (sha key)
  have hl2 := sumOf_len (absorbAll (absorbAll fresh (bys ⟨(maskB 54 (sha key)).toArray⟩)) (bys text))
  go_wp2_with fail
  refine (sum_any _ w6 HK6.out (by rw [ByteArray.size_append, mk_size, mk_size, hl1, hl2]; decide)).mono ?_
  rintro e7 w7 ⟨rfl, B7⟩
  have HB : Hid (Below w.heap.size w w7) := B0.trans (Below.mono (((B4.trans (B5.mono (by omega))).trans (B6.mono (by omega))).trans (B7.mono (by omega))) (by omega))
  go_wp2_with fail
  go_ret
  exact ⟨rfl, HB.out⟩
end Go.Proofs.YtedibkcempcpnaaDoor
