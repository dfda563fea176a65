/-
  The contract of the twin of Unframe, and of Read: both answer what the words say.
-/
import Derived.Test.YtkhmmcakgfneiaaUnframe
namespace Go.Proofs.Ytkhmmcakgfneiaa
open Go.RowKit
theorem mul256 {x : Nat} (h : x < 72057594037927936) (c : UInt8) : IntKind.u64.wrap ((x : Int) * 256 + IntKind.u64.wrap (c.toNat : Int)) = ((x * 256 + c.toNat : Nat) : Int) := by
  have := c.toNat_lt
  rw [IntKind.wrap_u64, IntKind.wrap_u64]
  omega
set_option maxHeartbeats 2000000 in
theorem refRead_any (t : ByteArray) (w : World) (ht : t.size ≤ 8) :
    Calls Try.prog 47 #[.string t] w fun r w' => r = .returned (.int .u64 (beNat t.data.toList)) ∧ w' = w := by
  go_enter Try.func47, Try.ntmps47
  go_wp2
  go_loop [3, 4] (fun n i => ∃ k x : Nat, k ≤ t.size ∧ i = .int .i64 k ∧ x < 256 ^ k ∧ Hid (x = beNat (t.data.toList.take k)) ∧ n = .int .u64 x) (fun _ i => t.size - (intOf i).toNat)
  case atStart => exact ⟨0, 0, by omega, rfl, by decide, rfl, rfl⟩
  case round =>
    obtain ⟨k, x, hk', rfl, hx, HX, rfl⟩ := hrel
    by_cases hlt : k < t.size
    · have hx7 : x < 72057594037927936 := by
        have := Nat.pow_le_pow_right (n := 256) (by decide) (show k ≤ 7 by omega)
        omega
      have HT : Hid (t.data.toList.take (k + 1) = t.data.toList.take k ++ [t[k]]) := take_snoc t k hlt
      have HB : Hid (x * 256 + t[k].toNat < 256 ^ (k + 1)) := by
        have := t[k].toNat_lt
        rw [Hid, Nat.pow_succ]; omega
      clear hx
      go_wp2
      go_round
      case rel => exact ⟨k + 1, x * 256 + t[k].toNat, by omega, by go_num, HB.out, by rw [HT.out, beNat_snoc, ← HX.out]; rfl, val_int (mul256 hx7 t[k])⟩
      case measure => simp [intOf]; omega
    · have HF : Hid (x = beNat t.data.toList) := by
        have h2 := HX.out
        rw [List.take_of_length_le (by simp; omega)] at h2
        exact h2
      clear hx HX
      go_wp2
      go_ret
      exact ⟨ret_int (by rw [← HF.out]), rfl⟩
theorem unf_done' {s : ByteArray} {k z k' z' : Nat} {b b' c : ByteArray} {e e' x y : Int} (h : unf s = (k, b, z, e)) (h' : unf s = (k', b', z', e')) (hy : y = (k' : Int)) (hc : c = b') (hx : x = (z' : Int)) :
    Ending.returned (.tuple #[.int .u8 y, .string c, .int .i64 x, .int .i64 e']) = .returned (.tuple #[.int .u8 (k : Int), .string b, .int .i64 (z : Int), .int .i64 e]) := by
  rw [hx, hy, hc]
  exact unf_eq h h'
theorem fz_eq {s : ByteArray} (h : 3 < s.size) : fz s = (s[3]'h).toNat := by
  unfold fz
  rw [ext_one (a := 3) h, beNat_one]
theorem fk_eq {s : ByteArray} (h : 2 < s.size) : fk s = (s[2]'h).toNat := by
  unfold fk
  rw [ext_one (a := 2) h, beNat_one]
set_option maxHeartbeats 2000000 in
theorem refUnframe_any (s : ByteArray) (w : World) (hs : s.size ≤ maxLen) :
    Calls Try.prog 24 #[.string s] w fun r w' => r = .returned (.tuple #[.int .u8 ((unf s).1 : Nat), .string (unf s).2.1, .int .i64 ((unf s).2.2.1 : Nat), .int .i64 (unf s).2.2.2]) ∧ Below w.heap.size w w' := by
  obtain ⟨k, b, z, e0, hu⟩ : ∃ k b z e, unf s = (k, b, z, e) := ⟨_, _, _, _, rfl⟩
  rw [hu]
  have HU : Hid _ := hu
  clear hu
  by_cases h8 : s.size < 8
  · have HF : Hid _ := unf_short h8
    go_enter Try.func24, Try.ntmps24
    go_wp2
    refine bodyPost_ret (results_tmp4 rfl _ _ _) rfl ?_
    exact ⟨unf_err HU.out HF.out, Below.refl _ _⟩
  have hfn := fn_lt h8
  have HZ : Hid (s.size ≤ maxLen) := hs
  unfold maxLen at hs
  have h3 : 3 < s.size := by omega
  have h2 : 2 < s.size := by omega
  have HE : Hid _ := fz_eq h3
  have HK : Hid _ := fk_eq h2
  have HQ : Hid ((s[3]'h3).toNat = 0 → (s.extract 0 2).toList = [68, 70] → (fn s : Int) ≤ 1048576 → ¬ (¬ (s.extract 0 2).toList = [68, 70] ∨ ¬ fz s = 0 ∨ 1048576 < fn s)) := by
    intro a c d q
    rcases q with q | q | q
    · exact q c
    · rw [HE.out] at q; exact q a
    · omega
  go_enter Try.func24, Try.ntmps24
  go_wp2_with fail
  refine (refRead_any _ _ (by rw [ext_size (by omega)]; decide)).mono ?_
  rintro e w1 ⟨rfl, rfl⟩
  rw [show beNat (s.extract 4 8).data.toList = fn s from rfl]
  by_cases hm : ¬ (s.extract 0 2).toList = [68, 70]
  · have HF : Hid _ := unf_form h8 (Or.inl hm)
    go_wp2_with fail
    refine bodyPost_ret (results_tmp4 rfl _ _ _) rfl ?_
    exact ⟨unf_err HU.out HF.out, Below.refl _ _⟩
  replace hm : (s.extract 0 2).toList = [68, 70] := by simpa using hm
  have HM : Hid _ := hm

  go_wp2_with fail
  · have g1 : (s[3]'(by omega)).toNat = 0 := by assumption
    have g2 : (1048576 : Int) < (fn s : Int) := by assumption
    have HF : Hid _ := unf_form h8 (Or.inr (Or.inr (show 1048576 < fn s by omega)))
    refine bodyPost_ret (results_tmp4 rfl _ _ _) rfl ?_
    exact ⟨unf_err HU.out HF.out, Below.refl _ _⟩
  · have g1 : (s[3]'(by omega)).toNat = 0 := by assumption
    have g2 : (fn s : Int) ≤ 1048576 := by assumption
    have g3 : (s.size : Int) < 12 + (fn s : Int) := by assumption
    have HF : Hid _ := unf_cut h8 (HQ.out g1 HM.out g2) (by omega)
    refine bodyPost_ret (results_tmp4 rfl _ _ _) rfl ?_
    exact ⟨unf_err HU.out HF.out, Below.refl _ _⟩
  · have g1 : (s[3]'(by omega)).toNat = 0 := by assumption
    have g2 : (fn s : Int) ≤ 1048576 := by assumption
    have g3 : 12 + (fn s : Int) ≤ (s.size : Int) := by assumption
    have HN : Hid _ := HQ.out g1 HM.out g2
    have q1 : Hid (∀ w : World, Calls Try.prog 47 #[.string (s.extract (12 + fn s - 4) (12 + fn s))] w fun r w' => r = .returned (.int .u64 (fsum s)) ∧ w' = w) := by
      rw [show 12 + fn s - 4 = 8 + fn s by omega]
      exact fun w => refRead_any (s.extract (8 + fn s) (12 + fn s)) w (by rw [ext_size (by omega)]; omega)
    have q2 : Hid (∀ w : World, Calls Try.prog 26 #[.string (s.extract 0 (12 + fn s - 4))] w fun r w' => r = .returned (.int .u32 (fcrc s)) ∧ w' = w) := by
      rw [show 12 + fn s - 4 = 8 + fn s by omega]
      exact fun w => refCrc_any (s.extract 0 (8 + fn s)) w (Nat.le_trans (ext_le _ _ _) HZ.out)
    go_quiet ((first | (go_at_call 47; exact Calls.quiet_of_same (q1.out _)) | (go_at_call 26; exact Calls.quiet_of_same (q2.out _))))
    have e1 : IntKind.u64.wrap (fcrc s : Int) = (fcrc s : Int) := by
      have := Cx.crc_lt (s.extract 0 (8 + fn s)).data.toList
      rw [IntKind.wrap_u64]
      have e : fcrc s < 4294967296 := this
      omega
    rw [e1]
    have i2 : (2 : Int) < (s.size : Int) := by omega
    clear hm q1 q2 g1 e1
    have E1 : Hid (((s[2]'h2).toNat : Int) = (fk s : Int)) := by rw [Hid, HK.out]
    have E2 : Hid (s.extract 8 (12 + fn s - 4) = s.extract 8 (8 + fn s)) := by rw [Hid, show 12 + fn s - 4 = 8 + fn s by omega]
    have E3 : Hid ((12 : Int) + (fn s : Int) = ((12 + fn s : Nat) : Int)) := by rw [Hid]; omega
    by_cases hc : fsum s = fcrc s
    · have HF : Hid _ := unf_ok h8 HN.out (by omega) hc
      rw [show ((fsum s : Int) != (fcrc s : Int)) = false by simp [hc]]
      have HI : Hid _ := hc
      clear hc
      go_wp2_with fail
      go_quiet (fail)
      go_wp2_with fail
      refine bodyPost_ret (results_tmp4 rfl _ _ _) rfl ?_
      exact ⟨unf_done' HU.out HF.out E1.out E2.out E3.out, below_drewN (below_drewN (Below.refl _ _) _) _⟩
    · have HF : Hid _ := unf_sum h8 HN.out (by omega) hc
      rw [show ((fsum s : Int) != (fcrc s : Int)) = true by simp; omega]
      have HI : Hid _ := hc
      clear hc
      go_wp2_with fail
      refine bodyPost_ret (results_tmp4 rfl _ _ _) rfl ?_
      exact ⟨unf_err HU.out HF.out, below_drewN (Below.refl _ _) _⟩
  · have g1 : ¬ (s[3]'(by omega)).toNat = 0 := by assumption
    have HF : Hid _ := unf_form h8 (Or.inr (Or.inl (by rw [HE.out]; exact g1)))
    refine bodyPost_ret (results_tmp4 rfl _ _ _) rfl ?_
    exact ⟨unf_err HU.out HF.out, Below.refl _ _⟩
end Go.Proofs.Ytkhmmcakgfneiaa
