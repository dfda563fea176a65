/-
  The contract of the twin's digits, and of its Target.
-/
import Derived.Test.YtbpfggpljfpfcaaDoorTgt
namespace Go.Proofs.YtbpfggpljfpfcaaDoor
open Go.RowKit
theorem dec_step {u : Nat} (h : ¬ u < 10) (Z : List UInt8) : Lib.decDigits (u / 10) ++ (UInt8.ofNat (48 + u % 10) :: Z) = Lib.decDigits u ++ Z := by
  have e : Lib.decDigits u = Lib.decDigits (u / 10) ++ [UInt8.ofNat (48 + u % 10)] := by rw [Lib.decDigits, dif_neg h]
  rw [e, List.append_assoc]
  rfl
theorem one_byte' (W : World) (c : UInt8) : (convert 72 9 (.slice (some ⟨W.heap.size, 0, none⟩) 1 1)).run Tryd.prog (W.alloc (.cells #[.int .u8 (c.toNat : Int)] 5)) = .ok (.string ⟨#[c]⟩) (W.alloc (.cells #[.int .u8 (c.toNat : Int)] 5)) := conv_new W [c] 5 1 rfl 1
theorem digit_nat {d : Nat} (h : d < 10) : (UInt8.ofNat (48 + d)).toNat = 48 + d := by rw [UInt8.toNat_ofNat_of_lt' (by show 48 + d < 256; omega)]
set_option maxRecDepth 20000 in
set_option maxHeartbeats 8000000 in
theorem qdigits_any (n : Nat) (hn : n ≤ 1000000000) (w : World) : Calls Tryd.prog 39 #[.int .i64 (n : Nat)] w fun e w' => e = .returned (.string (bOf (Lib.decDigits n))) ∧ Below w.heap.size w w' := by
  obtain ⟨T, hT⟩ : ∃ T, Lib.decDigits n = T := ⟨_, rfl⟩
  have HT : Hid (Lib.decDigits n ++ [] = T) := by rw [Hid, List.append_nil]; exact hT
  rw [hT]
  clear hT
  go_enter Tryd.func39, Tryd.ntmps39
  go_wp2_with fail
  go_loopw [0, 3] (fun u s wr => ∃ (m : Nat) (Z : List UInt8), m ≤ 1000000000 ∧ Z.length ≤ 1000000000 - m ∧ u = .int .i64 (m : Nat) ∧ s = .string (bOf Z) ∧ Hid (Lib.decDigits m ++ Z = T) ∧ Hid (Below w.heap.size w wr)) (fun u _ _ => (intOf u).toNat)
  case atStart => exact ⟨n, [], hn, by simp, rfl, rfl, HT.out, Below.refl _ _⟩
  case round =>
    obtain ⟨m, Z, hm, hZ, rfl, rfl, HM, HB⟩ := hrel
    have hzs := bOf_size Z
    have hsz := HB.out.size
    by_cases hlt : 9 < m
    · have hlz : (9 : Int) < (m : Int) := by omega
      obtain ⟨d, hd0⟩ : ∃ d, m % 10 = d := ⟨_, rfl⟩
      obtain ⟨q, hq0⟩ : ∃ q, m / 10 = q := ⟨_, rfl⟩
      have q1 : (m : Int).tmod 10 = (d : Int) := by rw [Int.tmod_eq_emod_of_nonneg (by omega)]; omega
      have q2 : (m : Int).tdiv 10 = (q : Int) := by rw [Int.tdiv_eq_ediv_of_nonneg (by omega)]; omega
      have hd9 : d ≤ 9 := by omega
      have hqm : q < m := by omega
      have hd : (UInt8.ofNat (48 + d)).toNat = 48 + d := digit_nat (by omega)
      have HQ : Hid (Lib.decDigits q ++ (UInt8.ofNat (48 + d) :: Z) = T) := by rw [Hid, ← HM.out, ← hd0, ← hq0]; exact dec_step (by omega) Z
      have hcv := one_byte' wr (UInt8.ofNat (48 + d))
      rw [hd, show ((48 + d : Nat) : Int) = 48 + (d : Int) by omega] at hcv
      have HMK : Hid ((⟨#[UInt8.ofNat (48 + d)]⟩ : ByteArray) ++ bOf Z = bOf (UInt8.ofNat (48 + d) :: Z)) := by
        rw [Hid]
        apply ext_list
        simp [bOf]
      have HZ2 : Hid ((UInt8.ofNat (48 + d) :: Z).length ≤ 1000000000 - q) := by rw [Hid, List.length_cons]; omega
      obtain ⟨c, hc⟩ : ∃ c, UInt8.ofNat (48 + d) = c := ⟨_, rfl⟩
      rw [hc] at hcv HMK HQ HZ2
      have hs1 : ¬ 9223372036854775807 < 1 + (bOf Z).size := by omega
      have hs2 : ¬ 9223372036854775807 < 1 + Z.length := by omega
      have HQM : Hid (q < m ∧ m ≤ 1000000000) := ⟨hqm, hm⟩
      have hqb : q ≤ 1000000000 := by omega
      clear hd0 hq0 hc hd hqm
      go_wp2_with fail
      go_roundw
      case rel => exact ⟨q, c :: Z, by obtain ⟨h1, h2⟩ := HQM.out; omega, HZ2.out, by first | rfl | go_num, by rw [← HMK.out], HQ.out, HB.out.alloc hsz _⟩
      case measure => obtain ⟨h1, h2⟩ := HQM.out; simp [intOf]; omega
    · have hlz : ¬ (9 : Int) < (m : Int) := by omega
      have hd : (UInt8.ofNat (48 + m)).toNat = 48 + m := digit_nat (by omega)
      have HQ : Hid (UInt8.ofNat (48 + m) :: Z = T) := by rw [Hid, ← HM.out, Lib.decDigits_one (by omega)]; rfl
      have hcv := one_byte' wr (UInt8.ofNat (48 + m))
      rw [hd, show ((48 + m : Nat) : Int) = 48 + (m : Int) by omega] at hcv
      have HMK : Hid ((⟨#[UInt8.ofNat (48 + m)]⟩ : ByteArray) ++ bOf Z = bOf (UInt8.ofNat (48 + m) :: Z)) := by
        rw [Hid]
        apply ext_list
        simp [bOf]
      obtain ⟨c, hc⟩ : ∃ c, UInt8.ofNat (48 + m) = c := ⟨_, rfl⟩
      rw [hc] at hcv HMK HQ
      have hs1 : ¬ 9223372036854775807 < 1 + (bOf Z).size := by omega
      have hs2 : ¬ 9223372036854775807 < 1 + Z.length := by omega
      clear hc hd
      go_wp2_with fail
      go_ret
      exact ⟨by rw [← HQ.out, ← HMK.out]; rfl, HB.out.alloc hsz _⟩
end Go.Proofs.YtbpfggpljfpfcaaDoor
