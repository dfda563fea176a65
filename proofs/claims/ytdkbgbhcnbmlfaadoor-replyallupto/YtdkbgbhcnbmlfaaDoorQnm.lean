/-
  The contracts of the twin's cookie and number.
-/
import Derived.Test.YtdkbgbhcnbmlfaaDoorQln
namespace Go.Proofs.YtdkbgbhcnbmlfaaDoor
open Go.RowKit
set_option maxRecDepth 20000 in
set_option maxHeartbeats 4000000 in
theorem qcookie_any (s : ByteArray) (a : Nat) (hs : s.size ≤ 140737488355328) (ha : a ≤ s.size) (w : World) : Calls Tryd.prog 41 #[.string s, .int .i64 (a : Nat)] w fun e w' => e = .returned (.string (mkB ((s.data.toList.drop a).take (inC (s.data.toList.drop a))))) ∧ w' = w := by
  have HL : Hid (s.data.toList.length = s.size) := size_list s
  obtain ⟨T, hT⟩ : ∃ T, a + inC (s.data.toList.drop a) = T := ⟨_, rfl⟩
  have HS0 : Hid (T = a + inC (s.data.toList.drop a)) := hT.symm
  have HF : Hid (s.extract a T = mkB ((s.data.toList.drop a).take (inC (s.data.toList.drop a)))) := by
    rw [Hid]
    conv => lhs; rw [← list_mkB s]
    rw [mkB_ext, ← hT, List.drop_take, Nat.add_sub_cancel_left]
  rw [← HF.out]
  clear hT
  go_enter Tryd.func41, Tryd.ntmps41
  go_wp2_with fail
  go_loopw [5] (fun i wr => ∃ k : Nat, a ≤ k ∧ k ≤ s.size ∧ i = .int .i64 k ∧ Hid (T = k + inC (s.data.toList.drop k)) ∧ wr = w) (fun i _ => s.size - (intOf i).toNat)
  case atStart => exact ⟨a, by omega, by omega, rfl, HS0.out, rfl⟩
  case round =>
    obtain ⟨k, hak, hk, rfl, HN, rfl⟩ := hrel
    by_cases hlt : k < s.size
    · have r0 := fun W => run_byte s (i := k) (z := (k : Int)) rfl hlt W
      have hnx : inC (s.data.toList.drop k) = if prB (byteAt s k) = true then inC (s.data.toList.drop (k + 1)) + 1 else 0 := by
        rw [byteAt_drop hlt, inC, UInt8.toNat_ofNat_of_lt' (byteAt_lt s k)]
      obtain ⟨x, hx⟩ : ∃ x, byteAt s k = x := ⟨_, rfl⟩
      rw [hx] at r0 hnx
      have HNX : Hid _ := hnx
      have hlz : (k : Int) < (s.size : Int) := by omega
      clear hx hnx
      by_cases g1 : 32 ≤ x
      · have g1z : (32 : Int) ≤ (x : Int) := by omega
        by_cases g2 : x ≤ 126
        · have g2z : (x : Int) ≤ 126 := by omega
          have HQ : Hid (T = k + 1 + inC (s.data.toList.drop (k + 1))) := by rw [Hid, HN.out, HNX.out, if_pos (by simp [prB]; omega)]; omega
          go_wp2_with fail
          go_roundw
          case rel => exact ⟨k + 1, by omega, by omega, by go_num, HQ.out, by first | rfl | trivial⟩
          case measure => simp [intOf]; omega
        · have g2z : ¬ (x : Int) ≤ 126 := by omega
          have HQ : Hid (T = k) := by rw [Hid, HN.out, HNX.out, if_neg (by simp [prB]; omega)]; omega
          go_wp2_with fail
          go_ret
          exact ⟨by rw [HQ.out]; rfl, rfl⟩
      · have g1z : ¬ (32 : Int) ≤ (x : Int) := by omega
        have HQ : Hid (T = k) := by rw [Hid, HN.out, HNX.out, if_neg (by simp [prB]; omega)]; omega
        go_wp2_with fail
        go_ret
        exact ⟨by rw [HQ.out]; rfl, rfl⟩
    · obtain rfl : k = s.size := by omega
      have HQ : Hid (T = s.size) := by rw [Hid, HN.out, List.drop_of_length_le (by rw [HL.out]; omega)]; rfl
      go_wp2_with fail
      go_ret
      exact ⟨by rw [HQ.out]; rfl, rfl⟩
/-- The digits that come, as a number, and how many they are: at most six. -/
def numG : List UInt8 → Nat → Nat → Nat × Nat
  | [], n, k => (n, k)
  | c :: cs, n, k => if k < 6 ∧ 48 ≤ c.toNat ∧ c.toNat ≤ 57 then numG cs (10 * n + (c.toNat - 48)) (k + 1) else (n, k)
theorem numG_step {S : ByteArray} {p : Nat} (h : p < S.size) (n k : Nat) : numG (S.data.toList.drop p) n k = if k < 6 ∧ 48 ≤ byteAt S p ∧ byteAt S p ≤ 57 then numG (S.data.toList.drop (p + 1)) (10 * n + (byteAt S p - 48)) (k + 1) else (n, k) := by
  rw [byteAt_drop h, numG, UInt8.toNat_ofNat_of_lt' (byteAt_lt S p)]
set_option maxRecDepth 20000 in
set_option maxHeartbeats 4000000 in
theorem qnumber_any (s : ByteArray) (a : Nat) (hs : s.size ≤ 140737488355328) (ha : a ≤ s.size) (w : World) : Calls Tryd.prog 40 #[.string s, .int .i64 (a : Nat)] w fun e w' => e = .returned (.tuple #[.int .i64 ((numG (s.data.toList.drop a) 0 0).1 : Nat), .int .i64 ((numG (s.data.toList.drop a) 0 0).2 : Nat)]) ∧ w' = w := by
  have HL : Hid (s.data.toList.length = s.size) := size_list s
  have HST : Hid (∀ p n k : Nat, p < s.size → _) := fun p n k h => numG_step (S := s) (p := p) h n k
  obtain ⟨R, hR⟩ : ∃ R, numG (s.data.toList.drop a) 0 0 = R := ⟨_, rfl⟩
  have HR : Hid (numG (s.data.toList.drop (a + 0)) 0 0 = R) := by rw [Hid, Nat.add_zero]; exact hR
  rw [hR]
  clear hR
  go_enter Tryd.func40, Tryd.ntmps40
  go_wp2_with fail
  go_loopw [6, 7] (fun x i wr => ∃ k n : Nat, a + k ≤ s.size ∧ k ≤ 6 ∧ n ≤ 1000000 ∧ Hid (n < 10 ^ k) ∧ x = .int .i64 (n : Nat) ∧ i = .int .i64 (k : Nat) ∧ Hid (numG (s.data.toList.drop (a + k)) n k = R) ∧ wr = w) (fun _ i _ => s.size - (intOf i).toNat)
  case atStart => exact ⟨0, 0, by omega, by omega, by omega, by rw [Hid]; decide, rfl, rfl, HR.out, rfl⟩
  case round =>
    obtain ⟨k, n, hk, hk6, hn, HP, rfl, rfl, HE, rfl⟩ := hrel
    obtain ⟨p, hp⟩ : ∃ p, a + k = p := ⟨_, rfl⟩
    have hpz : (a : Int) + (k : Int) = (p : Int) := by omega
    have HPA : Hid (a + k = p) := hp
    rw [hp] at HE hk
    have hpb : p ≤ 140737488355328 := by omega
    clear hp
    by_cases hlt : p < s.size
    · have r0 := fun W => run_byte s (i := p) (z := (p : Int)) rfl hlt W
      have hnx := HST.out p n k hlt
      obtain ⟨x, hx⟩ : ∃ x, byteAt s p = x := ⟨_, rfl⟩
      rw [hx] at r0 hnx
      have HNX : Hid _ := hnx
      have hlz : (p : Int) < (s.size : Int) := by omega
      clear hx hnx
      by_cases g0 : k < 6
      · have g0z : (k : Int) < 6 := by omega
        by_cases g1 : 48 ≤ x
        · have g1z : (48 : Int) ≤ (x : Int) := by omega
          by_cases g2 : x ≤ 57
          · have g2z : (x : Int) ≤ 57 := by omega
            obtain ⟨m, hm⟩ : ∃ m : Nat, 10 * n + (x - 48) = m := ⟨_, rfl⟩
            have HQ : Hid (numG (s.data.toList.drop (p + 1)) m (k + 1) = R) := by
              rw [Hid, ← HE.out, HNX.out, if_pos ⟨g0, g1, g2⟩, hm]
            have HP2 : Hid (m < 10 ^ (k + 1)) := by
              rw [Hid, Nat.pow_succ]
              have := HP.out
              omega
            have hmb : m ≤ 1000000 := by
              have h1 := HP2.out
              have h2 : 10 ^ (k + 1) ≤ 10 ^ 6 := Nat.pow_le_pow_right (by decide) (by omega)
              have h3 : (10 : Nat) ^ 6 = 1000000 := by decide
              omega
            have mz : (10 : Int) * (n : Int) + ((x : Int) - 48) = (m : Int) := by omega
            have HMB : Hid _ := hmb
            clear hm HNX
            go_wp2_with fail
            go_roundw
            case rel => exact ⟨k + 1, m, by have := HPA.out; omega, by omega, by have := HMB.out; omega, HP2.out, by first | rfl | go_num, by go_num, by rw [Hid, show a + (k + 1) = p + 1 by have := HPA.out; omega]; exact HQ.out, by first | rfl | trivial⟩
            case measure => have := HPA.out; simp [intOf]; omega
          · have g2z : ¬ (x : Int) ≤ 57 := by omega
            have HQ : Hid ((n, k) = R) := by rw [Hid, ← HE.out, HNX.out, if_neg (fun q => g2 q.2.2)]
            go_wp2_with fail
            go_ret2
            exact ⟨by rw [← HQ.out]; rfl, rfl⟩
        · have g1z : ¬ (48 : Int) ≤ (x : Int) := by omega
          have HQ : Hid ((n, k) = R) := by rw [Hid, ← HE.out, HNX.out, if_neg (fun q => g1 q.2.1)]
          go_wp2_with fail
          go_ret2
          exact ⟨by rw [← HQ.out]; rfl, rfl⟩
      · have g0z : ¬ (k : Int) < 6 := by omega
        have HQ : Hid ((n, k) = R) := by rw [Hid, ← HE.out, HNX.out, if_neg (fun q => g0 q.1)]
        go_wp2_with fail
        go_ret2
        exact ⟨by rw [← HQ.out]; rfl, rfl⟩
    · have hlz : ¬ (p : Int) < (s.size : Int) := by omega
      have HQ : Hid ((n, k) = R) := by rw [Hid, ← HE.out, List.drop_of_length_le (by rw [HL.out]; omega)]; rfl
      go_wp2_with fail
      go_ret2
      exact ⟨by rw [← HQ.out]; rfl, rfl⟩
end Go.Proofs.YtdkbgbhcnbmlfaaDoor
