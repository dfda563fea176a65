/-
  The contract of codec.Crc and of its twin: whatever the text, the call returns the check sum of chapter 2, and turns nothing.
-/
import Derived.Test.YtefigcnfcbdecaaRows
import Derived.Test.YtefigcnfcbdecaaMath
import Derived.WalkKit
import Derived.WalkSpells
import Derived.WalkLawsBesides
import Derived.Laws.BitsAllLaws

namespace Go.Proofs.Ytefigcnfcbdecaa
open Go.RowKit

theorem ret_int {k : IntKind} {a b : Int} (h : a = b) : Ending.returned (.int k a) = .returned (.int k b) := by rw [h]
theorem take_snoc (s : ByteArray) (k : Nat) (h : k < s.size) : s.data.toList.take (k + 1) = s.data.toList.take k ++ [s[k]] := by
  rw [List.take_succ_eq_append_getElem (by simpa using h)]; rfl
theorem val_int {k : IntKind} {a b : Int} (h : a = b) : Value.int k a = .int k b := by rw [h]

theorem crc_bit_and {x : Nat} (h : x < 4294967296) : bits .and .u32 (x : Int) 1 = ((x % 2 : Nat) : Int) := by
  have := u32_and_nat x 1 h (by decide)
  rw [Nat.and_one_is_mod] at this
  exact this
theorem crc_poly {x : Nat} (h : x < 4294967296) : bits .xor .u32 ((x : Int) / 2) 2197175160 = ((x / 2 ^^^ 2197175160 : Nat) : Int) := by
  have := u32_xor_nat (x / 2) 2197175160 (by omega) (by decide)
  simpa using this
theorem crc_in {x : Nat} (h : x < 4294967296) (c : UInt8) : bits .xor .u32 (x : Int) ((c.toNat : Int) % 4294967296) = ((x ^^^ c.toNat : Nat) : Int) := by
  have hc := c.toNat_lt
  have e : (c.toNat : Int) % 4294967296 = ((c.toNat : Nat) : Int) := by omega
  rw [e]
  exact u32_xor_nat x c.toNat h (by omega)
theorem crc_out {x : Nat} (h : x < 4294967296) : bits .xor .u32 IntKind.u32.max (x : Int) = ((4294967295 ^^^ x : Nat) : Int) := by
  have e : IntKind.u32.max = ((4294967295 : Nat) : Int) := by decide
  rw [e]
  exact u32_xor_nat 4294967295 x (by decide) h

set_option maxHeartbeats 400000 in
theorem crc_any (s : ByteArray) (w : World) (hs : s.size ≤ maxLen) :
    Calls Try.prog 37 #[.string s] w fun e w' => e = .returned (.int .u32 (Cx.crc s.data.toList)) ∧ w' = w := by
  unfold maxLen at hs
  go_enter Try.func37, Try.ntmps37
  go_wp2
  go_loop [3, 8] (fun n i => ∃ k x : Nat, k ≤ s.size ∧ i = .int .i64 k ∧ x < 4294967296 ∧ Hid (x = Cx.run (s.data.toList.take k) 4294967295) ∧ n = .int .u32 x) (fun _ i => s.size - (intOf i).toNat)
  case atStart => exact ⟨0, 4294967295, by omega, rfl, by omega, rfl, rfl⟩
  case round =>
    obtain ⟨k, x, hk, rfl, hx, HX, rfl⟩ := hrel
    by_cases hlt : k < s.size
    · have hin := crc_in hx s[k]
      have hin' := Cx.byte_in s[k] hx
      have HT : Hid (s.data.toList.take (k + 1) = s.data.toList.take k ++ [s[k]]) := take_snoc s k hlt
      go_wp2
      go_loop [3, 17] (fun n i => ∃ j y : Nat, j ≤ 8 ∧ i = .int .i64 j ∧ y < 4294967296 ∧ Hid (y = Cx.steps j (x ^^^ s[k].toNat)) ∧ n = .int .u32 y) (fun _ i => 8 - (intOf i).toNat)
      case atStart => exact ⟨0, x ^^^ s[k].toNat, by omega, rfl, hin', rfl, by first | rfl | (rw [hin])⟩
      case round =>
        obtain ⟨j, y, hj, rfl, hy, HY, rfl⟩ := hrel
        clear hin
        by_cases hj8 : j < 8
        · have hand := crc_bit_and hy
          have hpol := crc_poly hy
          by_cases hod : y % 2 = 1
          · have hb : (bits .and .u32 (y : Int) 1 == 1) = true := by rw [hand, hod]; rfl
            have HS := Cx.step1_odd hod
            have HL := Cx.step1_lt hy
            clear hand
            rw [HS] at HL
            have HS' : Hid _ := HS
            clear HS
            have HO : Hid _ := hod
            clear hod
            go_wp2
            go_round
            case rel => exact ⟨j + 1, y / 2 ^^^ 2197175160, by omega, by go_num, HL, by show _ = Cx.step1 _; rw [← HY.out]; exact HS'.out.symm, by first | rfl | (rw [hpol])⟩
            case measure => simp [intOf]; omega
          · have hb : (bits .and .u32 (y : Int) 1 == 1) = false := by rw [hand]; simp; omega
            have HS := Cx.step1_even hod
            clear hand hpol
            have HS' : Hid _ := HS
            clear HS
            have HO : Hid _ := hod
            clear hod
            go_wp2
            go_round
            case rel => exact ⟨j + 1, y / 2, by omega, by go_num, by omega, by show _ = Cx.step1 _; rw [← HY.out]; exact HS'.out.symm, by go_num⟩
            case measure => simp [intOf]; omega
        · have e8 : j = 8 := by omega
          subst e8
          go_wp2
          go_round
          case rel => exact ⟨k + 1, y, by omega, by go_num, hy, by rw [HT.out, Cx.run_snoc, ← HX.out]; exact HY.out, rfl⟩
          case measure => simp [intOf]; omega
    · have hout := crc_out hx
      go_wp2
      all_goals
        go_ret
        exact ⟨ret_int (by have h2 := HX.out; rw [List.take_of_length_le (by simp; omega)] at h2; rw [h2]; rfl), rfl⟩

theorem mod2 {y : Nat} (h : y % 2 = 1) : ((y : Int) % 2 == 1) = true := by simp; omega
theorem mod2' {y : Nat} (h : ¬ y % 2 = 1) : ((y : Int) % 2 == 1) = false := by simp; omega
theorem crc_out' {x : Nat} (h : x < 4294967296) : bits .xor .u32 (x : Int) 4294967295 = ((4294967295 ^^^ x : Nat) : Int) := by
  have := u32_xor_nat x 4294967295 h (by decide)
  rw [Nat.xor_comm]
  exact this

end Go.Proofs.Ytefigcnfcbdecaa
