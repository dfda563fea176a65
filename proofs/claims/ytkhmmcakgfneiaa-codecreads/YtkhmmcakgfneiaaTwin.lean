/-
  The contracts of the twin reader: ReadVarint, fails, raw, varint, text.
-/
import Derived.Test.YtkhmmcakgfneiaaRefUnframe
namespace Go.Proofs.Ytkhmmcakgfneiaa
open Go.RowKit
/-- The number of groups of 7 bits, the lowest first. -/
def hv : List UInt8 → Nat
  | [] => 0
  | c :: l => c.toNat % 128 + 128 * hv l
theorem hv_snoc : ∀ (l : List UInt8) (c : UInt8), hv (l ++ [c]) = hv l + c.toNat % 128 * 128 ^ l.length
  | [], c => by simp [hv]
  | d :: l, c => by
    rw [List.cons_append, hv, hv_snoc l c, hv, List.length_cons, Nat.pow_succ]
    rw [Nat.mul_add, Nat.add_assoc]
    congr 2
    rw [Nat.mul_comm (128 ^ l.length) 128, ← Nat.mul_assoc, ← Nat.mul_assoc, Nat.mul_comm 128 (c.toNat % 128)]
theorem hv_drop_le : ∀ (l : List UInt8) (j : Nat), hv (l.drop j) ≤ hv l
  | l, 0 => by simp
  | [], j + 1 => by simp
  | c :: l, j + 1 => by
    have := hv_drop_le l j
    rw [List.drop_succ_cons, hv]
    omega
theorem hv_drop_step (l : List UInt8) (j : Nat) (h : j < l.length) : hv (l.drop j) = l[j].toNat % 128 + 128 * hv (l.drop (j + 1)) := by
  rw [List.drop_eq_getElem_cons h, hv]
theorem mul128 {x : Nat} (c : UInt8) (h : c.toNat % 128 + 128 * x < 18446744073709551616) : IntKind.u64.wrap (IntKind.u64.wrap ((x : Int) * 128) + (c.toNat : Int) % 128) = ((c.toNat % 128 + 128 * x : Nat) : Int) := by
  have := c.toNat_lt
  rw [IntKind.wrap_u64, IntKind.wrap_u64]
  omega
set_option maxRecDepth 100000 in
set_option maxHeartbeats 2000000 in
theorem readVarint_any (s : ByteArray) (w : World) (hs : s.size ≤ maxLen) :
    Calls Try.prog 65 #[.string s] w fun r w' => r = .returned (.tuple #[.int .u64 (gr s.data.toList 0 0).1, .int .i64 (gr s.data.toList 0 0).2.1, .int .i64 (gr s.data.toList 0 0).2.2]) ∧ w' = w := by
  unfold maxLen at hs
  have HLT : Hid _ := gr_lt s.data.toList 0 0 (by decide) (by decide)
  obtain ⟨m, z, f, hg⟩ : ∃ m z f, gr s.data.toList 0 0 = (m, z, f) := ⟨_, _, _, rfl⟩
  rw [hg] at HLT ⊢
  have HG : Hid _ := hg
  clear hg
  go_enter Try.func65, Try.ntmps65
  go_wp2
  go_loop [5] (fun i => ∃ k : Nat, k ≤ s.size ∧ k ≤ 9 ∧ i = .int .i64 k ∧ Hid (gr (s.data.toList.drop k) k (hv (s.data.toList.take k)) = (m, z, f))) (fun i => 10 - (intOf i).toNat)
  case atStart => exact ⟨0, by omega, by omega, rfl, HG.out⟩
  case round =>
    obtain ⟨k, hk, hk9, rfl, HX⟩ := hrel
    by_cases hlt : k < s.size
    · have HD : Hid _ := drop_at s k hlt
      have HT : Hid _ := take_snoc s k hlt
      by_cases h9 : k = 9
      · subst h9
        go_wp2_with fail
        · have g1 : (1 : Int) < ((s[9]'hlt).toNat : Int) := by assumption
          have hr := HX.out
          rw [HD.out, gr_bad (by omega)] at hr
          simp only [Prod.mk.injEq] at hr
          obtain ⟨r1, r2, r3⟩ := hr
          go_ret3
          exact ⟨ret3 (by omega) (by omega) (by omega), rfl⟩
        · have g1 : (s[9]'hlt).toNat = 0 := by assumption
          have hr := HX.out
          rw [HD.out, gr_bad (by omega)] at hr
          simp only [Prod.mk.injEq] at hr
          obtain ⟨r1, r2, r3⟩ := hr
          go_ret3
          exact ⟨ret3 (by omega) (by omega) (by omega), rfl⟩
        · have g1 : ((s[9]'hlt).toNat : Int) ≤ 1 := by assumption
          have g2 : ¬ (s[9]'hlt).toNat = 0 := by assumption
          have HM : Hid (m = hv (s.data.toList.take (9 + 1)) ∧ z = 9 + 1 ∧ f = 0) := by
            have hr := HX.out
            rw [HD.out, gr_end (by omega) (by omega)] at hr
            simp only [Prod.mk.injEq] at hr
            rw [Hid, HT.out, hv_snoc, show (s.data.toList.take 9).length = 9 by simp; omega]
            exact ⟨by omega, by omega, by omega⟩
          go_loop [6, 7] (fun n i => ∃ j x : Nat, j ≤ 9 + 1 ∧ i = .int .i64 ((j : Int) - 1) ∧ n = .int .u64 x ∧ x < 18446744073709551616 ∧ Hid (x = hv ((s.data.toList.take (9 + 1)).drop j))) (fun _ i => (intOf i + 1).toNat)
          case atStart => exact ⟨9 + 1, 0, by omega, by first | rfl | (congr 1; omega), rfl, by omega, by rw [Hid, List.drop_eq_nil_of_le (by simp; omega)]; rfl⟩
          case round =>
            obtain ⟨j, x, hj, hi, rfl, hx, HV⟩ := hrel
            cases j with
            | zero =>
              rw [show ((0 : Nat) : Int) - 1 = -1 from rfl] at hi
              subst hi
              go_wp2
              go_ret3
              obtain ⟨r1, r2, r3⟩ := HM.out
              exact ⟨ret3 (by rw [r1, HV.out, List.drop_zero]) (by omega) (by omega), rfl⟩
            | succ i =>
              rw [show ((i + 1 : Nat) : Int) - 1 = (i : Int) by omega] at hi
              subst hi
              have his : i < s.size := by omega
              have HS : Hid (hv ((s.data.toList.take (9 + 1)).drop i) = s[i].toNat % 128 + 128 * x) := by
                have hl : i < (s.data.toList.take (9 + 1)).length := by simp; have : s.data.size = s.size := rfl; omega
                rw [Hid, hv_drop_step _ _ hl, ← HV.out]
                congr 2
                simp
                rfl
              have HB : Hid (s[i].toNat % 128 + 128 * x < 18446744073709551616) := by
                have h1 := hv_drop_le (s.data.toList.take (9 + 1)) i
                have h2 := HLT.out
                have h3 := HM.out.1
                rw [HS.out] at h1
                show _ < _
                omega
              have hmul := mul128 s[i] HB.out
              go_wp2
              go_round
              case rel => exact ⟨i, s[i].toNat % 128 + 128 * x, by omega, by first | rfl | go_num, by first | rfl | exact val_int hmul, HB.out, HS.out.symm⟩
              case measure => first | (simp [intOf]; done) | (simp [intOf]; omega)
      · have h9' : ((k : Int) == 9) = false := beq_eq_false_iff_ne.2 (by omega)
        have H9 : Hid _ := h9
        clear h9
        go_wp2_with fail
        · have g1 : (128 : Int) ≤ (s[k].toNat : Int) := by assumption
          have h9 : ¬ k = 9 := H9.out
          have hr := HX.out
          rw [HD.out, gr_on (by omega) (by omega)] at hr
          go_round
          case rel => exact ⟨k + 1, by omega, by omega, by go_num, by rw [Hid, HT.out, hv_snoc, show (s.data.toList.take k).length = k by simp; omega]; exact hr⟩
          case measure => first | (simp [intOf]; done) | (simp [intOf]; omega)
        · have g1 : s[k].toNat = 0 := by assumption
          have g2 : 0 < k := by assumption
          have hr := HX.out
          rw [HD.out, gr_bad (by omega)] at hr
          simp only [Prod.mk.injEq] at hr
          obtain ⟨r1, r2, r3⟩ := hr
          go_ret3
          exact ⟨ret3 (by omega) (by omega) (by omega), rfl⟩
        · have g1 : s[k].toNat = 0 := by assumption
          have g2 : ¬ 0 < k := by assumption
          have h9 : ¬ k = 9 := H9.out
          have HM : Hid (m = hv (s.data.toList.take (k + 1)) ∧ z = k + 1 ∧ f = 0) := by
            have hr := HX.out
            rw [HD.out, gr_end (by omega) (by omega)] at hr
            simp only [Prod.mk.injEq] at hr
            rw [Hid, HT.out, hv_snoc, show (s.data.toList.take k).length = k by simp; omega]
            exact ⟨by omega, by omega, by omega⟩
          go_loop [6, 7] (fun n i => ∃ j x : Nat, j ≤ k + 1 ∧ i = .int .i64 ((j : Int) - 1) ∧ n = .int .u64 x ∧ x < 18446744073709551616 ∧ Hid (x = hv ((s.data.toList.take (k + 1)).drop j))) (fun _ i => (intOf i + 1).toNat)
          case atStart => exact ⟨k + 1, 0, by omega, by first | rfl | (congr 1; omega), rfl, by omega, by rw [Hid, List.drop_eq_nil_of_le (by simp; omega)]; rfl⟩
          case round =>
            obtain ⟨j, x, hj, hi, rfl, hx, HV⟩ := hrel
            cases j with
            | zero =>
              rw [show ((0 : Nat) : Int) - 1 = -1 from rfl] at hi
              subst hi
              go_wp2
              go_ret3
              obtain ⟨r1, r2, r3⟩ := HM.out
              exact ⟨ret3 (by rw [r1, HV.out, List.drop_zero]) (by omega) (by omega), rfl⟩
            | succ i =>
              rw [show ((i + 1 : Nat) : Int) - 1 = (i : Int) by omega] at hi
              subst hi
              have his : i < s.size := by omega
              have HS : Hid (hv ((s.data.toList.take (k + 1)).drop i) = s[i].toNat % 128 + 128 * x) := by
                have hl : i < (s.data.toList.take (k + 1)).length := by simp; have : s.data.size = s.size := rfl; omega
                rw [Hid, hv_drop_step _ _ hl, ← HV.out]
                congr 2
                simp
                rfl
              have HB : Hid (s[i].toNat % 128 + 128 * x < 18446744073709551616) := by
                have h1 := hv_drop_le (s.data.toList.take (k + 1)) i
                have h2 := HLT.out
                have h3 := HM.out.1
                rw [HS.out] at h1
                show _ < _
                omega
              have hmul := mul128 s[i] HB.out
              go_wp2
              go_round
              case rel => exact ⟨i, s[i].toNat % 128 + 128 * x, by omega, by first | rfl | go_num, by first | rfl | exact val_int hmul, HB.out, HS.out.symm⟩
              case measure => first | (simp [intOf]; done) | (simp [intOf]; omega)
        · have g1 : (s[k].toNat : Int) < 128 := by assumption
          have g2 : ¬ s[k].toNat = 0 := by assumption
          have h9 : ¬ k = 9 := H9.out
          have HM : Hid (m = hv (s.data.toList.take (k + 1)) ∧ z = k + 1 ∧ f = 0) := by
            have hr := HX.out
            rw [HD.out, gr_end (by omega) (by omega)] at hr
            simp only [Prod.mk.injEq] at hr
            rw [Hid, HT.out, hv_snoc, show (s.data.toList.take k).length = k by simp; omega]
            exact ⟨by omega, by omega, by omega⟩
          go_loop [6, 7] (fun n i => ∃ j x : Nat, j ≤ k + 1 ∧ i = .int .i64 ((j : Int) - 1) ∧ n = .int .u64 x ∧ x < 18446744073709551616 ∧ Hid (x = hv ((s.data.toList.take (k + 1)).drop j))) (fun _ i => (intOf i + 1).toNat)
          case atStart => exact ⟨k + 1, 0, by omega, by first | rfl | (congr 1; omega), rfl, by omega, by rw [Hid, List.drop_eq_nil_of_le (by simp; omega)]; rfl⟩
          case round =>
            obtain ⟨j, x, hj, hi, rfl, hx, HV⟩ := hrel
            cases j with
            | zero =>
              rw [show ((0 : Nat) : Int) - 1 = -1 from rfl] at hi
              subst hi
              go_wp2
              go_ret3
              obtain ⟨r1, r2, r3⟩ := HM.out
              exact ⟨ret3 (by rw [r1, HV.out, List.drop_zero]) (by omega) (by omega), rfl⟩
            | succ i =>
              rw [show ((i + 1 : Nat) : Int) - 1 = (i : Int) by omega] at hi
              subst hi
              have his : i < s.size := by omega
              have HS : Hid (hv ((s.data.toList.take (k + 1)).drop i) = s[i].toNat % 128 + 128 * x) := by
                have hl : i < (s.data.toList.take (k + 1)).length := by simp; have : s.data.size = s.size := rfl; omega
                rw [Hid, hv_drop_step _ _ hl, ← HV.out]
                congr 2
                simp
                rfl
              have HB : Hid (s[i].toNat % 128 + 128 * x < 18446744073709551616) := by
                have h1 := hv_drop_le (s.data.toList.take (k + 1)) i
                have h2 := HLT.out
                have h3 := HM.out.1
                rw [HS.out] at h1
                show _ < _
                omega
              have hmul := mul128 s[i] HB.out
              go_wp2
              go_round
              case rel => exact ⟨i, s[i].toNat % 128 + 128 * x, by omega, by first | rfl | go_num, by first | rfl | exact val_int hmul, HB.out, HS.out.symm⟩
              case measure => first | (simp [intOf]; done) | (simp [intOf]; omega)
    · have HR : Hid (m = 0 ∧ z = 0 ∧ f = 20) := by
        have hr := HX.out
        rw [List.drop_eq_nil_of_le (by simp; omega), gr] at hr
        simp only [Prod.mk.injEq] at hr
        exact ⟨by omega, by omega, by omega⟩
      go_wp2_with fail
      go_ret3
      obtain ⟨r1, r2, r3⟩ := HR.out
      exact ⟨ret3 (by omega) (by omega) (by omega), rfl⟩
end Go.Proofs.Ytkhmmcakgfneiaa
