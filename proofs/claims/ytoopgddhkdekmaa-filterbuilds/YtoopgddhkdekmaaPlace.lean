/-
  The twin's check sum and its places.
-/
import Derived.Test.YtoopgddhkdekmaaSmall
namespace Go.Proofs.Ytoopgddhkdekmaa
open Go.RowKit
set_option maxHeartbeats 400000 in
theorem refCrc_any (s : ByteArray) (w : World) (hs : s.size ≤ maxLen) :
    Calls Try.prog 55 #[.string s] w fun e w' => e = .returned (.int .u32 (Cx.crc s.data.toList)) ∧ w' = w := by
  unfold maxLen at hs
  go_enter Try.func55, Try.ntmps55
  go_wp2
  go_loop [3, 4] (fun n i => ∃ k x : Nat, k ≤ s.size ∧ i = .int .i64 k ∧ x < 4294967296 ∧ Hid (x = Cx.run (s.data.toList.take k) 4294967295) ∧ n = .int .u32 x) (fun _ i => s.size - (intOf i).toNat)
  case atStart => exact ⟨0, 4294967295, by omega, rfl, by omega, rfl, rfl⟩
  case round =>
    obtain ⟨k, x, hk, rfl, hx, HX, rfl⟩ := hrel
    by_cases hlt : k < s.size
    · have hin := crc_in hx s[k]
      have hin' := Cx.byte_in s[k] hx
      have HT : Hid (s.data.toList.take (k + 1) = s.data.toList.take k ++ [s[k]]) := take_snoc s k hlt
      go_wp2
      go_loop [3, 5] (fun n i => ∃ j y : Nat, j ≤ 8 ∧ i = .int .i64 j ∧ y < 4294967296 ∧ Hid (y = Cx.steps j (x ^^^ s[k].toNat)) ∧ n = .int .u32 y) (fun _ i => 8 - (intOf i).toNat)
      case atStart => exact ⟨0, x ^^^ s[k].toNat, by omega, rfl, hin', rfl, by first | rfl | (rw [hin])⟩
      case round =>
        obtain ⟨j, y, hj, rfl, hy, HY, rfl⟩ := hrel
        clear hin
        by_cases hj8 : j < 8
        · have hpol := crc_poly hy
          by_cases hod : y % 2 = 1
          · have hb := mod2 hod
            have HS := Cx.step1_odd hod
            have HL := Cx.step1_lt hy
            rw [HS] at HL
            have HS' : Hid _ := HS
            clear HS
            have HO : Hid _ := hod
            clear hod
            go_wp2
            go_round
            case rel => exact ⟨j + 1, y / 2 ^^^ 2197175160, by omega, by go_num, HL, by show _ = Cx.step1 _; rw [← HY.out]; exact HS'.out.symm, by first | rfl | (rw [hpol])⟩
            case measure => simp [intOf]; omega
          · have hb := mod2' hod
            have HS := Cx.step1_even hod
            clear hpol
            have HS' : Hid _ := HS
            clear HS
            have HO : Hid _ := hod
            clear hod
            go_wp2
            go_round
            case rel => exact ⟨j + 1, y / 2, by omega, by go_num, by omega, by show _ = Cx.step1 _; rw [← HY.out]; exact HS'.out.symm, by go_num⟩
            case measure => simp [intOf]; omega
        · have e8 : j = 8 := by omega
          subst e8
          go_wp2
          go_round
          case rel => exact ⟨k + 1, y, by omega, by go_num, hy, by rw [HT.out, Cx.run_snoc, ← HX.out]; exact HY.out, rfl⟩
          case measure => simp [intOf]; omega
    · have hout := crc_out' hx
      go_wp2
      all_goals
        go_ret
        exact ⟨ret_int (by have h2 := HX.out; rw [List.take_of_length_le (by simp; omega)] at h2; rw [h2]; rfl), rfl⟩
theorem atN_eq (h s : Nat) (hh : h < 18446744073709551616) : ∀ i, atN h s i = (h + i * s) % 18446744073709551616
  | 0 => by rw [atN, Nat.zero_mul, Nat.add_zero, Nat.mod_eq_of_lt hh]
  | i + 1 => by
    rw [atN, atN_eq h s hh i, Nat.succ_mul]
    omega
theorem seed_add (key : ByteArray) : key.size * 4294967296 % 18446744073709551616 ||| Cx.crc key.data.toList = key.size * 4294967296 % 18446744073709551616 + Cx.crc key.data.toList := by
  have hc := Cx.crc_lt key.data.toList
  have e : key.size * 4294967296 % 18446744073709551616 = 2 ^ 32 * (key.size % 4294967296) := by omega
  rw [e]
  exact (Nat.two_pow_add_eq_or_of_lt (i := 32) hc _).symm
set_option maxRecDepth 100000 in
set_option maxHeartbeats 2000000 in
theorem place_any (key : ByteArray) (i m : Nat) (w : World) (hks : key.size ≤ 140737488355328) (hi : i < 256) (hm : 0 < m) (hm2 : m ≤ 4611686018427387904) :
    Calls Try.prog 42 #[.string key, .int .i64 i, .int .i64 m] w fun r w' => r = .returned (.int .i64 (placeN key m i : Nat)) ∧ w' = w := by
  obtain ⟨cr, hcr⟩ : ∃ cr, Cx.crc key.data.toList = cr := ⟨_, rfl⟩
  obtain ⟨sd, hsd⟩ : ∃ sd, key.size * 4294967296 % 18446744073709551616 + cr = sd := ⟨_, rfl⟩
  have hcl : cr < 4294967296 := by rw [← hcr]; exact Cx.crc_lt _
  have hsl : sd < 18446744073709551616 := by omega
  have hsum : IntKind.u64.wrap ((cr : Int) + IntKind.u64.wrap ((key.size : Int) * 4294967296)) = (sd : Int) := by
    rw [IntKind.wrap_u64, IntKind.wrap_u64]; omega
  have HH : Hid (mixN sd = hashN key) := by rw [Hid, hashN, seed_add, hcr, hsd]
  obtain ⟨hh, hhd⟩ : ∃ hh, mixN sd = hh := ⟨_, rfl⟩
  have hhl : hh < 18446744073709551616 := by rw [← hhd]; exact mixN_lt _
  rw [hhd] at HH
  have HC : Hid (∀ W' : World, Calls Try.prog 55 #[.string key] W' fun e w' => e = .returned (.int .u32 (cr : Nat)) ∧ w' = W') := fun W' => by rw [← hcr]; exact refCrc_any key W' (by unfold maxLen; omega)
  have HM : Hid (∀ W' : World, Calls Try.prog 69 #[.int .u64 (sd : Nat)] W' fun e w' => e = .returned (.int .u64 (hh : Nat)) ∧ w' = W') := fun W' => by rw [← hhd]; exact rmix_any sd W' hsl
  have HM2 : Hid (∀ W' : World, Calls Try.prog 69 #[.int .u64 (hh : Nat)] W' fun e w' => e = .returned (.int .u64 (mixN hh : Nat)) ∧ w' = W') := fun W' => rmix_any hh W' hhl
  have hor2 : bits BinOp.or IntKind.u64 ((mixN hh : Nat) : Int) 1 = ((mixN hh ||| 1 : Nat) : Int) := u64_or_nat _ 1 (mixN_lt _) (by decide)
  obtain ⟨m1, hm1⟩ : ∃ m1, mixN hh = m1 := ⟨_, rfl⟩
  obtain ⟨st, hst⟩ : ∃ st, m1 ||| 1 = st := ⟨_, rfl⟩
  rw [hm1] at HM2 hor2
  rw [hst] at hor2
  have HS : Hid (st = stepN key) := by rw [Hid, stepN, ← HH.out, hm1, hst]
  have hstl : st < 18446744073709551616 := by rw [HS.out]; exact stepN_lt key
  have HP : Hid (placeN key m i = (hh + i * st) % 18446744073709551616 % m) := by rw [Hid, placeN, atN_eq _ _ (hashN_lt key), HH.out, HS.out]
  obtain ⟨pr, hpr⟩ : ∃ pr, i * st = pr := ⟨_, rfl⟩
  have hmul : (i : Int) * (st : Int) = (pr : Int) := by rw [← hpr]; push_cast; rfl
  obtain ⟨z, hz⟩ : ∃ z, (hh + pr) % 18446744073709551616 = z := ⟨_, rfl⟩
  have hzl : z < 18446744073709551616 := by omega
  have hadd : IntKind.u64.wrap ((hh : Int) + IntKind.u64.wrap (pr : Int)) = (z : Int) := by rw [IntKind.wrap_u64, IntKind.wrap_u64]; omega
  obtain ⟨p, hp⟩ : ∃ p, z % m = p := ⟨_, rfl⟩
  have hmod : (z : Int) % (m : Int) = (p : Int) := by rw [← hp]; push_cast; rfl
  have hpm : p < m := by rw [← hp]; exact Nat.mod_lt _ hm
  have hm64 : IntKind.u64.wrap (m : Int) = (m : Int) := by rw [IntKind.wrap_u64]; omega
  have hi64 : IntKind.u64.wrap (i : Int) = (i : Int) := by rw [IntKind.wrap_u64]; omega
  rw [hpr, hz, hp] at HP
  rw [HP.out]
  clear hcr hsd hhd hm1 hst hpr hz hp HP HS HH
  go_enter Try.func42, Try.ntmps42
  go_wp2_with fail
  refine (HC.out _).mono ?_
  rintro e w' ⟨rfl, rfl⟩
  go_wp2_with fail
  refine (HM.out _).mono ?_
  rintro e w1 ⟨rfl, hw1⟩
  subst hw1
  go_wp2_with fail
  refine (HM2.out _).mono ?_
  rintro e w2 ⟨rfl, hw2⟩
  subst hw2
  go_wp2_with fail
  go_ret
  exact ⟨rfl, rfl⟩
end Go.Proofs.Ytoopgddhkdekmaa
