/-
  The contracts of a reader's numbers: U8 to U64, whatever is left, and of a nil reader.
-/
import Derived.Test.YtkebddjndljodaaDoorReader
namespace Go.Proofs.YtkebddjndljodaaDoor
open Go.RowKit

theorem or_byte {x : Nat} (h : x < 72057594037927936) (c : UInt8) : bits .or .u64 ((x : Int) * 256) (IntKind.u64.wrap (c.toNat : Int)) = ((x * 256 + c.toNat : Nat) : Int) := by
  have hc := c.toNat_lt
  have hw : IntKind.u64.wrap (c.toNat : Int) = c.toNat := by simp [IntKind.wrap, IntKind.bits, IntKind.signed]; omega
  rw [hw]
  have e1 := u64_or_nat (x * 256) c.toNat (by omega) (by omega)
  have e2 : x * 256 ||| c.toNat = x * 256 + c.toNat := by
    have := Nat.two_pow_add_eq_or_of_lt (i := 8) (b := c.toNat) (by omega) x
    rw [Nat.mul_comm x 256]
    exact this.symm
  rw [e2] at e1
  rw [← e1]
  simp

set_option maxHeartbeats 400000 in
theorem get64 (b : Nat) (s : ByteArray) (e : Int) (w : World) (h : RIs w b s e) (hs : s.size ≤ maxLen) :
    Calls Tryd.prog 45 #[.pointer (some ⟨b, 0, none⟩)] w fun r w' => r = .returned (.int .u64 (beNat (rTake s e 8).1.data.toList)) ∧ RIs w' b (rTake s e 8).2.1 (rTake s e 8).2.2 ∧ Keeps (fun k => k = b) w w' := by
  have ht := rTake_size s e 8
  have HT : Hid _ := fun w h => take_any b 8 s e w h hs (by decide)
  obtain ⟨t, s', e1, hq⟩ : ∃ t s' e1, rTake s e 8 = (t, s', e1) := ⟨_, _, _, rfl⟩
  rw [hq] at HT ht ⊢
  clear hq
  go_enter Tryd.func45, Tryd.ntmps45
  go_wp2_with (go_at_call 47; refine (width64 _).mono ?_; rintro e w' ⟨rfl, rfl⟩)
  refine (HT.out _ h).mono ?_
  rintro e' w' ⟨rfl, h', hk⟩
  replace ht : t.size ≤ 8 := ht
  go_wp2_with fail
  go_loop [4, 12] (fun n i => ∃ k x : Nat, k ≤ t.size ∧ i = .int .i64 k ∧ x < 256 ^ k ∧ Hid (x = beNat (t.data.toList.take k)) ∧ n = .int .u64 x) (fun _ i => t.size - (intOf i).toNat)
  case atStart => exact ⟨0, 0, by omega, rfl, by decide, rfl, rfl⟩
  case round =>
    obtain ⟨k, x, hk', rfl, hx, HX, rfl⟩ := hrel
    by_cases hlt : k < t.size
    · have hx7 : x < 72057594037927936 := by
        have := Nat.pow_le_pow_right (n := 256) (by decide) (show k ≤ 7 by omega)
        omega
      have HT : Hid (t.data.toList.take (k + 1) = t.data.toList.take k ++ [t[k]]) := take_snoc t k hlt
      have hor := or_byte hx7 t[k]
      have HB : Hid (x * 256 + t[k].toNat < 256 ^ (k + 1)) := by
        have := t[k].toNat_lt
        rw [Hid, Nat.pow_succ]; omega
      clear hx
      go_wp2
      go_round
      case rel => exact ⟨k + 1, x * 256 + t[k].toNat, by omega, by go_num, HB.out, by rw [HT.out, beNat_snoc, ← HX.out]; rfl, by first | rfl | (rw [hor])⟩
      case measure => simp [intOf]; omega
    · have HF : Hid (x = beNat t.data.toList) := by
        have h2 := HX.out
        rw [List.take_of_length_le (by simp; omega)] at h2
        exact h2
      have hxb : x < 18446744073709551616 := by
        have := Nat.pow_le_pow_right (n := 256) (by decide) (show k ≤ 8 by omega)
        omega
      clear hx HX
      go_wp2
      go_ret
      exact ⟨ret_int (by rw [← HF.out]), h', hk⟩
theorem get64_nil (w : World) :
    Calls Tryd.prog 45 #[.pointer none] w fun r w' => r = .returned (.int .u64 0) ∧ w' = w := by
  go_enter Tryd.func45, Tryd.ntmps45
  go_wp2_with (go_at_call 47; refine (width64 _).mono ?_; rintro e w' ⟨rfl, rfl⟩)
  refine (take_nil 8 _).mono ?_
  rintro e' w' ⟨rfl, rfl⟩
  go_wp2_with fail
  refine wp_loop_rounds 1 ?_
  rw [rounds_succ]
  go_wp2
  go_ret
  exact ⟨rfl, rfl⟩
theorem u64_any (b : Nat) (s : ByteArray) (e : Int) (w : World) (h : RIs w b s e) (hs : s.size ≤ maxLen) :
    Calls Tryd.prog 40 #[.pointer (some ⟨b, 0, none⟩)] w fun r w' => r = .returned (.int .u64 (beNat (rTake s e 8).1.data.toList)) ∧ RIs w' b (rTake s e 8).2.1 (rTake s e 8).2.2 ∧ Keeps (fun k => k = b) w w' := by
  go_enter Tryd.func40, Tryd.ntmps40
  go_wp2_with fail
  refine (get64 b s e _ h hs).mono ?_
  rintro e' w' ⟨rfl, h', hk⟩
  go_wp2_with fail
  go_ret
  exact ⟨rfl, h', hk⟩
theorem u64_nil (w : World) :
    Calls Tryd.prog 40 #[.pointer none] w fun r w' => r = .returned (.int .u64 0) ∧ w' = w := by
  go_enter Tryd.func40, Tryd.ntmps40
  go_wp2_with fail
  refine (get64_nil _).mono ?_
  rintro e' w' ⟨rfl, rfl⟩
  go_wp2_with fail
  go_ret
  exact ⟨rfl, rfl⟩
end Go.Proofs.YtkebddjndljodaaDoor
