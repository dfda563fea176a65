/-
  The walk of MacProofs: proofs and chains are the twin's; Equal tells whether two texts are one.
-/
import Derived.Test.YtcpbofjpfapegaaDoorRefMac
import Derived.Test.YtcpbofjpfapegaaDoorAwake
import Derived.Laws.StructEq
namespace Go.Proofs.YtcpbofjpfapegaaDoor
open Go.RowKit
/-- HMAC's key: short ones as they are, long ones by their sum. -/
def macK (key text : ByteArray) : List UInt8 := if key.size ≤ 64 then macB key.data.toList text else macB (sha key) text
theorem mac_any (key text : ByteArray) (w : World) (hK : GK w) (hk : key.size ≤ 1048576) (ht : text.size ≤ 1048576) :
    Calls Tryd.prog 12 #[.string key, .string text] w fun e w' => e = .returned (.string ⟨(macK key text).toArray⟩) ∧ Below w.heap.size w w' := by
  by_cases h : key.size ≤ 64
  · rw [macK, if_pos h]; exact mac_short key text w hK h (by omega)
  · rw [macK, if_neg h]; exact mac_long key text w hK (by omega) (by omega) (by omega)
theorem refMac_any (key text : ByteArray) (w : World) (hk : key.size ≤ 1048576) (ht : text.size ≤ 1048576) :
    Calls Tryd.prog 13 #[.string key, .string text] w fun e w' => e = .returned (.string ⟨(macK key text).toArray⟩) ∧ Below w.heap.size w w' := by
  by_cases h : key.size ≤ 64
  · rw [macK, if_pos h]; exact refMac_short key text w h (by omega)
  · rw [macK, if_neg h]; exact refMac_long key text w (by omega) (by omega) (by omega)
set_option maxRecDepth 20000 in
set_option maxHeartbeats 1000000 in
theorem proofs_walk (key text other : ByteArray) (w : World) (hK : GK w) (hk : key.size ≤ 1048576) (ht : text.size ≤ 1048576) (ho : other.size ≤ 1048576) :
    Calls Tryd.prog 4 #[.string key, .string text, .string other] w fun e w' => e = .returned (.bool true) ∧ Below w.heap.size w w' := by
  have HK : Hid (GK w) := hK
  clear hK
  have hte : text ++ ⟨#[]⟩ = text := by
    apply bytes_ext'
    simp [ByteArray.data_append]
  have HTE : Hid _ := hte
  clear hte
  have hbe : (text.toList == other.toList) = decide (text = other) := by
    rw [ByteArray.toList_eq, ByteArray.toList_eq, Bool.eq_iff_iff, decide_eq_true_iff, beq_iff_eq]
    exact ⟨bytes_ext', fun h => by rw [h]⟩
  go_enter Tryd.func4, Tryd.ntmps4
  go_wp2_with fail
  refine (awake_any w HK.out).mono ?_
  rintro e1 w1 ⟨rfl, B1⟩
  have HK1 : Hid (GK w1) := HK.out.below B1
  have z1 := B1.size
  go_wp2_with fail
  refine (mac_any key text w1 HK1.out hk ht).mono ?_
  rintro e2 w2 ⟨rfl, B2⟩
  have HK2 : Hid (GK w2) := HK1.out.below B2
  have z2 := B2.size
  go_wp2_with fail
  refine (refMac_any key text w2 hk ht).mono ?_
  rintro e3 w3 ⟨rfl, B3⟩
  have HK3 : Hid (GK w3) := HK2.out.below B3
  have z3 := B3.size
  go_wp2_with fail
  refine (chain_any key text w3 HK3.out hk ht).mono ?_
  rintro e4 w4 ⟨rfl, B4⟩
  have z4 := B4.size
  go_wp2_with fail
  refine (refChain_any key text w4 hk ht).mono ?_
  rintro e5 w5 ⟨rfl, B5⟩
  have z5 := B5.size
  go_wp2_with fail
  refine (equal_any text other w5 (by omega) (by omega)).mono ?_
  rintro e6 w6 ⟨rfl, B6⟩
  have z6 := B6.size
  go_wp2_with fail
  rw [HTE.out]
  refine (equal_any text text w6 (by omega) (by omega)).mono ?_
  rintro e7 w7 ⟨rfl, B7⟩
  rw [show decide (text = text) = true from decide_eq_true rfl]
  have HB : Hid (Below w.heap.size w w7) := (((((B1.trans (B2.mono (by omega))).trans (B3.mono (by omega))).trans (B4.mono (by omega))).trans (B5.mono (by omega))).trans (B6.mono (by omega))).trans (B7.mono (by omega))
  go_wp2_with fail
  go_ret
  exact ⟨rfl, HB.out⟩
end Go.Proofs.YtcpbofjpfapegaaDoor
