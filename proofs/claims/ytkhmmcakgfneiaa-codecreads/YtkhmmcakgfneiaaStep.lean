/-
  The contract of step: both readers stand the same behind it, whatever was asked, and it returns true.
-/
import Derived.Test.YtkhmmcakgfneiaaTwinRead
import Derived.Deep.RegionWith
namespace Go.Proofs.Ytkhmmcakgfneiaa
open Go.RowKit
/-- Both readers stand the same. -/
structure Both (w : World) (b c : Nat) (s : ByteArray) (e : Int) : Prop where
  one : RIs w b s e
  two : XIs w c s e
def BS (b c : Nat) : Nat → Prop := fun k => k = b ∨ k = c
theorem Both.apart {w : World} {b c : Nat} {s : ByteArray} {e : Int} (h : Both w b c s e) : b ≠ c := by
  intro q
  subst q
  have h1 := h.one
  have h2 := h.two
  unfold RIs at h1
  unfold XIs at h2
  rw [h1] at h2
  simp at h2
theorem Keeps.one {w w' : World} {b c : Nat} (k : Keeps (fun i => i = b) w w') : Keeps (BS b c) w w' := k.mono (fun _ _ h => Or.inl h)
theorem Keeps.two {w w' : World} {b c : Nat} (k : Keeps (fun i => i = c) w w') : Keeps (BS b c) w w' := k.mono (fun _ _ h => Or.inr h)
/-- What a step leaves. -/
def Stepped (w w' : World) (b c : Nat) (n : Nat) : Prop := (∃ s' e', Both w' b c s' e' ∧ s'.size ≤ n) ∧ Keeps (BS b c) w w'
theorem rTake_rest (s : ByteArray) (e : Int) (n : Nat) : (rTake s e n).2.1.size ≤ s.size := by
  unfold rTake
  split
  · split
    · exact Nat.zero_le _
    · exact ext_le _ _ _
  · exact Nat.le_refl _
theorem rRaw_rest (s : ByteArray) (e n : Int) : (rRaw s e n).2.1.size ≤ s.size := by
  unfold rRaw
  split
  · split
    · exact Nat.zero_le _
    · exact Nat.le_refl _
  · exact rTake_rest _ _ _
theorem rText_rest (s : ByteArray) (e : Int) : (rText s e).2.1.size ≤ s.size := Nat.le_trans (rTake_rest _ _ _) (rVar_size s e)
theorem rRaw_pos (s : ByteArray) (e : Int) (n : Nat) : rRaw s e (n : Int) = rTake s e n := by
  rw [rRaw, if_neg (by omega), Int.toNat_natCast]
theorem beNat_small {t : ByteArray} (h : t.size ≤ 8) : beNat t.data.toList < 18446744073709551616 := by
  have h1 := beNat_lt t.data.toList
  have h2 : 256 ^ t.data.toList.length ≤ 256 ^ 8 := Nat.pow_le_pow_right (by decide) (by rw [← size_list]; exact h)
  have h3 : (256 : Nat) ^ 8 = 18446744073709551616 := by decide
  omega
section
variable {w : World} {b c : Nat} {s : ByteArray} {e : Int}
set_option maxHeartbeats 1000000 in
theorem step_0 (n : Int) (t : ByteArray) (h : Both w b c s e) (hs : s.size ≤ maxLen) :
    Calls Try.prog 32 #[.pointer (some ⟨b, 0, none⟩), .pointer (some ⟨c, 0, none⟩), .agg #[.int .i64 0, .int .u64 n, .string t]] w fun r w' => r = .returned (.bool true) ∧ Stepped w w' b c s.size := by
  have P1 : Hid _ := fun w h => u8_any b s e w h hs
  have P2 : Hid _ := fun w h => xraw_any c s e ((1 : Nat) : Int) w h hs (by decide)
  rw [rRaw_pos] at P2
  have HT := rTake_size s e 1
  have HR := rTake_rest s e 1
  obtain ⟨q, s', e', hq⟩ : ∃ q s' e', rTake s e 1 = (q, s', e') := ⟨_, _, _, rfl⟩
  rw [hq] at P1 P2 HT HR
  replace HT : Hid (q.size ≤ 1) := HT
  replace HR : Hid (s'.size ≤ s.size) := HR
  clear hq
  have HB : Hid _ := beNat_small (t := q) (Nat.le_trans HT.out (by decide))
  have P3 : Hid _ := fun w => refRead_any q w (Nat.le_trans HT.out (by decide))
  have hap := h.apart
  obtain ⟨x, hx⟩ : ∃ x, x = beNat q.data.toList := ⟨_, rfl⟩
  have P1' : Hid (∀ w, RIs w b s e → Calls Try.prog 13 #[.pointer (some ⟨b, 0, none⟩)] w fun r w' => r = .returned (.int .u8 (x : Int)) ∧ RIs w' b s' e' ∧ Keeps (fun k => k = b) w w') := by rw [Hid, hx]; exact P1.out
  have P3' : Hid (∀ w, Calls Try.prog 47 #[.string q] w fun r w' => r = .returned (.int .u64 (x : Int)) ∧ w' = w) := by rw [Hid, hx]; exact P3.out
  rw [← hx] at HB
  have hxl : x < 18446744073709551616 := HB.out
  have HW : Hid (IntKind.u64.wrap (x : Int) = x) := by rw [Hid, IntKind.wrap_u64]; omega
  clear hx P1 P3
  go_enter Try.func32, Try.ntmps32
  go_wp2_with fail
  refine (P1'.out _ (h.one.alloc _)).mono ?_
  rintro r1 w1 ⟨rfl, h1, k1⟩
  have h2 : XIs w1 c s e := (h.two.kept ((Keeps.refl (fun _ => False) w).alloc _) (fun f => f)).kept k1 (fun q => hap q.symm)
  go_wp2_with fail
  refine (P2.out _ h2).mono ?_
  rintro r2 w2 ⟨rfl, h3, k3⟩
  have h4 := h1.kept k3 hap
  go_wp2_with fail
  refine (P3'.out _).mono ?_
  rintro r3 w3 ⟨rfl, rfl⟩
  have K : Hid (Keeps (BS b c) w w3) := (((Keeps.refl (BS b c) w).alloc _).trans k1.one).trans k3.two
  clear k1 k3 h1 h2
  go_wp2_with fail
  go_ret
  exact ⟨by first | rfl | (rw [HW.out]; simp) | simp, ⟨s', e', ⟨h4, h3⟩, HR.out⟩, K.out⟩
set_option maxHeartbeats 1000000 in
theorem step_1 (n : Int) (t : ByteArray) (h : Both w b c s e) (hs : s.size ≤ maxLen) :
    Calls Try.prog 32 #[.pointer (some ⟨b, 0, none⟩), .pointer (some ⟨c, 0, none⟩), .agg #[.int .i64 1, .int .u64 n, .string t]] w fun r w' => r = .returned (.bool true) ∧ Stepped w w' b c s.size := by
  have P1 : Hid _ := fun w h => u16_any b s e w h hs
  have P2 : Hid _ := fun w h => xraw_any c s e ((2 : Nat) : Int) w h hs (by decide)
  rw [rRaw_pos] at P2
  have HT := rTake_size s e 2
  have HR := rTake_rest s e 2
  obtain ⟨q, s', e', hq⟩ : ∃ q s' e', rTake s e 2 = (q, s', e') := ⟨_, _, _, rfl⟩
  rw [hq] at P1 P2 HT HR
  replace HT : Hid (q.size ≤ 2) := HT
  replace HR : Hid (s'.size ≤ s.size) := HR
  clear hq
  have HB : Hid _ := beNat_small (t := q) (Nat.le_trans HT.out (by decide))
  have P3 : Hid _ := fun w => refRead_any q w (Nat.le_trans HT.out (by decide))
  have hap := h.apart
  obtain ⟨x, hx⟩ : ∃ x, x = beNat q.data.toList := ⟨_, rfl⟩
  have P1' : Hid (∀ w, RIs w b s e → Calls Try.prog 14 #[.pointer (some ⟨b, 0, none⟩)] w fun r w' => r = .returned (.int .u16 (x : Int)) ∧ RIs w' b s' e' ∧ Keeps (fun k => k = b) w w') := by rw [Hid, hx]; exact P1.out
  have P3' : Hid (∀ w, Calls Try.prog 47 #[.string q] w fun r w' => r = .returned (.int .u64 (x : Int)) ∧ w' = w) := by rw [Hid, hx]; exact P3.out
  rw [← hx] at HB
  have hxl : x < 18446744073709551616 := HB.out
  have HW : Hid (IntKind.u64.wrap (x : Int) = x) := by rw [Hid, IntKind.wrap_u64]; omega
  clear hx P1 P3
  go_enter Try.func32, Try.ntmps32
  go_wp2_with fail
  refine (P1'.out _ (h.one.alloc _)).mono ?_
  rintro r1 w1 ⟨rfl, h1, k1⟩
  have h2 : XIs w1 c s e := (h.two.kept ((Keeps.refl (fun _ => False) w).alloc _) (fun f => f)).kept k1 (fun q => hap q.symm)
  go_wp2_with fail
  refine (P2.out _ h2).mono ?_
  rintro r2 w2 ⟨rfl, h3, k3⟩
  have h4 := h1.kept k3 hap
  go_wp2_with fail
  refine (P3'.out _).mono ?_
  rintro r3 w3 ⟨rfl, rfl⟩
  have K : Hid (Keeps (BS b c) w w3) := (((Keeps.refl (BS b c) w).alloc _).trans k1.one).trans k3.two
  clear k1 k3 h1 h2
  go_wp2_with fail
  go_ret
  exact ⟨by first | rfl | (rw [HW.out]; simp) | simp, ⟨s', e', ⟨h4, h3⟩, HR.out⟩, K.out⟩
set_option maxHeartbeats 1000000 in
theorem step_2 (n : Int) (t : ByteArray) (h : Both w b c s e) (hs : s.size ≤ maxLen) :
    Calls Try.prog 32 #[.pointer (some ⟨b, 0, none⟩), .pointer (some ⟨c, 0, none⟩), .agg #[.int .i64 2, .int .u64 n, .string t]] w fun r w' => r = .returned (.bool true) ∧ Stepped w w' b c s.size := by
  have P1 : Hid _ := fun w h => u32_any b s e w h hs
  have P2 : Hid _ := fun w h => xraw_any c s e ((4 : Nat) : Int) w h hs (by decide)
  rw [rRaw_pos] at P2
  have HT := rTake_size s e 4
  have HR := rTake_rest s e 4
  obtain ⟨q, s', e', hq⟩ : ∃ q s' e', rTake s e 4 = (q, s', e') := ⟨_, _, _, rfl⟩
  rw [hq] at P1 P2 HT HR
  replace HT : Hid (q.size ≤ 4) := HT
  replace HR : Hid (s'.size ≤ s.size) := HR
  clear hq
  have HB : Hid _ := beNat_small (t := q) (Nat.le_trans HT.out (by decide))
  have P3 : Hid _ := fun w => refRead_any q w (Nat.le_trans HT.out (by decide))
  have hap := h.apart
  obtain ⟨x, hx⟩ : ∃ x, x = beNat q.data.toList := ⟨_, rfl⟩
  have P1' : Hid (∀ w, RIs w b s e → Calls Try.prog 15 #[.pointer (some ⟨b, 0, none⟩)] w fun r w' => r = .returned (.int .u32 (x : Int)) ∧ RIs w' b s' e' ∧ Keeps (fun k => k = b) w w') := by rw [Hid, hx]; exact P1.out
  have P3' : Hid (∀ w, Calls Try.prog 47 #[.string q] w fun r w' => r = .returned (.int .u64 (x : Int)) ∧ w' = w) := by rw [Hid, hx]; exact P3.out
  rw [← hx] at HB
  have hxl : x < 18446744073709551616 := HB.out
  have HW : Hid (IntKind.u64.wrap (x : Int) = x) := by rw [Hid, IntKind.wrap_u64]; omega
  clear hx P1 P3
  go_enter Try.func32, Try.ntmps32
  go_wp2_with fail
  refine (P1'.out _ (h.one.alloc _)).mono ?_
  rintro r1 w1 ⟨rfl, h1, k1⟩
  have h2 : XIs w1 c s e := (h.two.kept ((Keeps.refl (fun _ => False) w).alloc _) (fun f => f)).kept k1 (fun q => hap q.symm)
  go_wp2_with fail
  refine (P2.out _ h2).mono ?_
  rintro r2 w2 ⟨rfl, h3, k3⟩
  have h4 := h1.kept k3 hap
  go_wp2_with fail
  refine (P3'.out _).mono ?_
  rintro r3 w3 ⟨rfl, rfl⟩
  have K : Hid (Keeps (BS b c) w w3) := (((Keeps.refl (BS b c) w).alloc _).trans k1.one).trans k3.two
  clear k1 k3 h1 h2
  go_wp2_with fail
  go_ret
  exact ⟨by first | rfl | (rw [HW.out]; simp) | simp, ⟨s', e', ⟨h4, h3⟩, HR.out⟩, K.out⟩
set_option maxHeartbeats 1000000 in
theorem step_3 (n : Int) (t : ByteArray) (h : Both w b c s e) (hs : s.size ≤ maxLen) :
    Calls Try.prog 32 #[.pointer (some ⟨b, 0, none⟩), .pointer (some ⟨c, 0, none⟩), .agg #[.int .i64 3, .int .u64 n, .string t]] w fun r w' => r = .returned (.bool true) ∧ Stepped w w' b c s.size := by
  have P1 : Hid _ := fun w h => u64_any b s e w h hs
  have P2 : Hid _ := fun w h => xraw_any c s e ((8 : Nat) : Int) w h hs (by decide)
  rw [rRaw_pos] at P2
  have HT := rTake_size s e 8
  have HR := rTake_rest s e 8
  obtain ⟨q, s', e', hq⟩ : ∃ q s' e', rTake s e 8 = (q, s', e') := ⟨_, _, _, rfl⟩
  rw [hq] at P1 P2 HT HR
  replace HT : Hid (q.size ≤ 8) := HT
  replace HR : Hid (s'.size ≤ s.size) := HR
  clear hq
  have HB : Hid _ := beNat_small (t := q) (Nat.le_trans HT.out (by decide))
  have P3 : Hid _ := fun w => refRead_any q w (Nat.le_trans HT.out (by decide))
  have hap := h.apart
  obtain ⟨x, hx⟩ : ∃ x, x = beNat q.data.toList := ⟨_, rfl⟩
  have P1' : Hid (∀ w, RIs w b s e → Calls Try.prog 16 #[.pointer (some ⟨b, 0, none⟩)] w fun r w' => r = .returned (.int .u64 (x : Int)) ∧ RIs w' b s' e' ∧ Keeps (fun k => k = b) w w') := by rw [Hid, hx]; exact P1.out
  have P3' : Hid (∀ w, Calls Try.prog 47 #[.string q] w fun r w' => r = .returned (.int .u64 (x : Int)) ∧ w' = w) := by rw [Hid, hx]; exact P3.out
  rw [← hx] at HB
  have hxl : x < 18446744073709551616 := HB.out
  have HW : Hid (IntKind.u64.wrap (x : Int) = x) := by rw [Hid, IntKind.wrap_u64]; omega
  clear hx P1 P3
  go_enter Try.func32, Try.ntmps32
  go_wp2_with fail
  refine (P1'.out _ (h.one.alloc _)).mono ?_
  rintro r1 w1 ⟨rfl, h1, k1⟩
  have h2 : XIs w1 c s e := (h.two.kept ((Keeps.refl (fun _ => False) w).alloc _) (fun f => f)).kept k1 (fun q => hap q.symm)
  go_wp2_with fail
  refine (P2.out _ h2).mono ?_
  rintro r2 w2 ⟨rfl, h3, k3⟩
  have h4 := h1.kept k3 hap
  go_wp2_with fail
  refine (P3'.out _).mono ?_
  rintro r3 w3 ⟨rfl, rfl⟩
  have K : Hid (Keeps (BS b c) w w3) := (((Keeps.refl (BS b c) w).alloc _).trans k1.one).trans k3.two
  clear k1 k3 h1 h2
  go_wp2_with fail
  go_ret
  exact ⟨by first | rfl | (rw [HW.out]; simp) | simp, ⟨s', e', ⟨h4, h3⟩, HR.out⟩, K.out⟩
set_option maxHeartbeats 1000000 in
theorem step_4 (n : Int) (t : ByteArray) (h : Both w b c s e) (hs : s.size ≤ maxLen) :
    Calls Try.prog 32 #[.pointer (some ⟨b, 0, none⟩), .pointer (some ⟨c, 0, none⟩), .agg #[.int .i64 4, .int .u64 n, .string t]] w fun r w' => r = .returned (.bool true) ∧ Stepped w w' b c s.size := by
  have P1 : Hid _ := fun w h => varint_any b s e w h hs
  have P2 : Hid _ := fun w h => xvarint_any c s e w h hs
  have HR := rVar_size s e
  obtain ⟨q, s', e', hq⟩ : ∃ q s' e', rVar s e = (q, s', e') := ⟨_, _, _, rfl⟩
  rw [hq] at P1 P2 HR
  replace HR : Hid (s'.size ≤ s.size) := HR
  clear hq
  have hap := h.apart
  go_enter Try.func32, Try.ntmps32
  go_wp2_with fail
  refine (P1.out _ (h.one.alloc _)).mono ?_
  rintro r1 w1 ⟨rfl, h1, k1⟩
  have h2 : XIs w1 c s e := (h.two.kept ((Keeps.refl (fun _ => False) w).alloc _) (fun f => f)).kept k1 (fun q => hap q.symm)
  go_wp2_with fail
  refine (P2.out _ h2).mono ?_
  rintro r2 w2 ⟨rfl, h3, k3⟩
  have h4 := RIs.kept h1 k3 hap
  have K : Hid (Keeps (BS b c) w w2) := (((Keeps.refl (BS b c) w).alloc _).trans k1.one).trans k3.two
  clear k1 k3 h1 h2
  go_wp2_with fail
  go_ret
  exact ⟨by first | rfl | simp, ⟨s', e', ⟨h4, h3⟩, HR.out⟩, K.out⟩
set_option maxHeartbeats 1000000 in
theorem step_5 (n : Int) (t : ByteArray) (h : Both w b c s e) (hs : s.size ≤ maxLen) :
    Calls Try.prog 32 #[.pointer (some ⟨b, 0, none⟩), .pointer (some ⟨c, 0, none⟩), .agg #[.int .i64 5, .int .u64 n, .string t]] w fun r w' => r = .returned (.bool true) ∧ Stepped w w' b c s.size := by
  have P1 : Hid _ := fun w h => text_any b s e w h hs
  have P2 : Hid _ := fun w h => xtext_any c s e w h hs
  have HR := rText_rest s e
  obtain ⟨q, s', e', hq⟩ : ∃ q s' e', rText s e = (q, s', e') := ⟨_, _, _, rfl⟩
  rw [hq] at P1 P2 HR
  replace HR : Hid (s'.size ≤ s.size) := HR
  clear hq
  have hap := h.apart
  go_enter Try.func32, Try.ntmps32
  go_wp2_with fail
  refine (P1.out _ (h.one.alloc _)).mono ?_
  rintro r1 w1 ⟨rfl, h1, k1⟩
  have h2 : XIs w1 c s e := (h.two.kept ((Keeps.refl (fun _ => False) w).alloc _) (fun f => f)).kept k1 (fun q => hap q.symm)
  go_wp2_with fail
  refine (P2.out _ h2).mono ?_
  rintro r2 w2 ⟨rfl, h3, k3⟩
  have h4 := RIs.kept h1 k3 hap
  have K : Hid (Keeps (BS b c) w w2) := (((Keeps.refl (BS b c) w).alloc _).trans k1.one).trans k3.two
  clear k1 k3 h1 h2
  go_wp2_with fail
  go_ret
  exact ⟨by first | rfl | simp, ⟨s', e', ⟨h4, h3⟩, HR.out⟩, K.out⟩
end
end Go.Proofs.Ytkhmmcakgfneiaa
