/-
  The contract of step, whole: raw reads in whatever order, looks, and all kinds together.
-/
import Derived.Test.YtkhmmcakgfneiaaStep
namespace Go.Proofs.Ytkhmmcakgfneiaa
open Go.RowKit
section
variable {w : World} {b c : Nat} {s : ByteArray} {e : Int}
theorem keep_cell {w w1 : World} {i : Nat} {a : Nat} {v : Value} (k : Keeps (fun j => j = i) w w1) (h : w.cell? ⟨a, 1, none⟩ = some v) (ha : a ≠ i) : w1.cell? ⟨a, 1, none⟩ = some v := by
  have hl : a < w.heap.size := World.block_lt_of_cell? w ⟨a, 1, none⟩ h
  rw [World.cell?_of_block (w := w) (a := ⟨a, 1, none⟩) (k.block a hl ha)]
  exact h
set_option maxHeartbeats 2000000 in
theorem step_6 (n : Nat) (t : ByteArray) (h : Both w b c s e) (hs : s.size ≤ maxLen) (_hn : n < 18446744073709551616) :
    Calls Try.prog 32 #[.pointer (some ⟨b, 0, none⟩), .pointer (some ⟨c, 0, none⟩), .agg #[.int .i64 6, .int .u64 n, .string t]] w fun r w' => r = .returned (.bool true) ∧ Stepped w w' b c s.size := by
  obtain ⟨m, hm⟩ : ∃ m : Int, IntKind.i64.wrap (n : Int) = m := ⟨_, rfl⟩
  have hmb : m ≤ 9223372036854775807 := by rw [← hm]; simp [IntKind.wrap, IntKind.bits, IntKind.signed]; omega
  have P1 : Hid _ := fun w h => raw_any b s e m w h hs hmb
  have P2 : Hid _ := fun w h => xraw_any c s e m w h hs hmb
  have HR := rRaw_rest s e m
  obtain ⟨q, s', e', hq⟩ : ∃ q s' e', rRaw s e m = (q, s', e') := ⟨_, _, _, rfl⟩
  rw [hq] at P1 P2 HR
  replace HR : Hid (s'.size ≤ s.size) := HR
  clear hq
  have hap := h.apart
  have R0 : Hid (RIs (w.alloc (.cells #[.int .i64 6, .int .u64 n, .string t] 24)).drew b s e) := h.one.alloc _
  have X0 : Hid (XIs (w.alloc (.cells #[.int .i64 6, .int .u64 n, .string t] 24)).drew c s e) := (XIs.kept (S := fun _ => False) h.two ((Keeps.refl _ w).alloc _) (fun f => f) : XIs (w.alloc (.cells #[.int .i64 6, .int .u64 n, .string t] 24)) c s e)
  have q0 : (w.alloc (.cells #[.int .i64 6, .int .u64 n, .string t] 24)).drew.cell? ⟨w.heap.size, 1, none⟩ = some (.int .u64 n) := by simp [go_sem]
  have hbl := h.one.lt
  have hcl := h.two.lt
  go_enter Try.func32, Try.ntmps32
  go_wp2_with fail
  go_region_with (first
    | (go_at_call 19; first | (refine (P1.out _ R0.out).mono ?_; rintro r1 w1 ⟨rfl, h1, k1⟩; have hr1 : Hid (RIs w1 b s' e') := h1; have x1 : Hid (XIs w1 c s e) := XIs.kept X0.out k1 (fun q => hap q.symm); have q1 := keep_cell k1 q0 (by omega); have kk1 : Hid (Keeps (BS b c) _ w1) := k1.one; clear h1 k1) | (refine (P1.out _ r2.out).mono ?_; rintro r1 w1 ⟨rfl, h1, k1⟩; have hr1 : Hid (RIs w1 b s' e') := h1; have x1 : Hid (XIs w1 c s' e') := XIs.kept hx2.out k1 (fun q => hap q.symm); have kk1 : Hid (Keeps (BS b c) _ w1) := Keeps.trans kk2.out k1.one; clear h1 k1))
    | (go_at_call 52; first | (refine (P2.out _ X0.out).mono ?_; rintro r2' w2 ⟨rfl, h2, k2⟩; have hx2 : Hid (XIs w2 c s' e') := h2; have r2 : Hid (RIs w2 b s e) := RIs.kept R0.out k2 hap; have q1 := keep_cell k2 q0 (by omega); have kk2 : Hid (Keeps (BS b c) _ w2) := k2.two; clear h2 k2) | (refine (P2.out _ x1.out).mono ?_; rintro r2' w2 ⟨rfl, h2, k2⟩; have hx2 : Hid (XIs w2 c s' e') := h2; have r2 : Hid (RIs w2 b s' e') := RIs.kept hr1.out k2 hap; have kk2 : Hid (Keeps (BS b c) _ w2) := Keeps.trans kk1.out k2.two; clear h2 k2)))
  all_goals
    go_wp2_with fail
    go_ret
    first
      | exact ⟨by first | rfl | simp, ⟨s', e', ⟨r2.out, hx2.out⟩, HR.out⟩, Keeps.trans (((Keeps.refl (BS b c) w).alloc _).drew) kk2.out⟩
      | exact ⟨by first | rfl | simp, ⟨s', e', ⟨hr1.out, x1.out⟩, HR.out⟩, Keeps.trans (((Keeps.refl (BS b c) w).alloc _).drew) kk1.out⟩
set_option maxHeartbeats 2000000 in
theorem step_look (kd : Int) (n : Int) (t : ByteArray) (h : Both w b c s e)
    (h0 : (kd == 0) = false) (h1 : (kd == 1) = false) (h2 : (kd == 2) = false) (h3 : (kd == 3) = false) (h4 : (kd == 4) = false) (h5 : (kd == 5) = false) (h6 : (kd == 6) = false) :
    Calls Try.prog 32 #[.pointer (some ⟨b, 0, none⟩), .pointer (some ⟨c, 0, none⟩), .agg #[.int .i64 kd, .int .u64 n, .string t]] w fun r w' => r = .returned (.bool true) ∧ Stepped w w' b c s.size := by
  have hap := h.apart
  have hbl := h.one.lt
  have hcl := h.two.lt
  have R0 : Hid (RIs (w.alloc (.cells #[.int .i64 kd, .int .u64 n, .string t] 24)) b s e) := h.one.alloc _
  have X0 : Hid (XIs (w.alloc (.cells #[.int .i64 kd, .int .u64 n, .string t] 24)) c s e) := (XIs.kept (S := fun _ => False) h.two ((Keeps.refl _ w).alloc _) (fun f => f) : XIs (w.alloc (.cells #[.int .i64 kd, .int .u64 n, .string t] 24)) c s e)
  have c0 : (w.alloc (.cells #[.int .i64 kd, .int .u64 n, .string t] 24)).cell? ⟨c, 0, none⟩ = some (.string s) := X0.out.c0
  have c1 : (w.alloc (.cells #[.int .i64 kd, .int .u64 n, .string t] 24)).cell? ⟨c, 1, none⟩ = some (.int .i64 e) := X0.out.c1
  have L1 : Hid (∀ q, Calls Try.prog 20 #[.pointer (some ⟨b, 0, none⟩)] ((w.alloc (.cells #[.int .i64 kd, .int .u64 n, .string t] 24)).drewN q) _) := fun q => left_any b s e _ (R0.out.drewN q)
  have L2 : Hid (∀ q, Calls Try.prog 21 #[.pointer (some ⟨b, 0, none⟩)] ((w.alloc (.cells #[.int .i64 kd, .int .u64 n, .string t] 24)).drewN q) _) := fun q => err_any b s e _ (R0.out.drewN q)
  by_cases he : e = 0
  · subst he
    by_cases hz : s.size = 0
    · have hE : (!s.toList.isEmpty) = false := by
        rw [ByteArray.toList_eq, show s.data.toList = [] from List.eq_nil_of_length_eq_zero (by rw [← size_list]; exact hz)]
        rfl
      have HD : Hid (rDone s 0 = 0) := by simp [Hid, rDone, hz]
      clear hz
      have L3 : Hid (∀ q, Calls Try.prog 22 #[.pointer (some ⟨b, 0, none⟩)] ((w.alloc (.cells #[.int .i64 kd, .int .u64 n, .string t] 24)).drewN q) fun r w' => r = .returned (.int .i64 0) ∧ w' = _) := fun q => by
        have := rdone_any b s _ _ (R0.out.drewN q)
        rw [HD.out] at this
        exact this
      go_enter Try.func32, Try.ntmps32
      go_wp2_with fail
      go_quiet ((first | (go_at_call 20; exact Calls.quiet_of_same (L1.out _)) | (go_at_call 21; exact Calls.quiet_of_same (L2.out _)) | (go_at_call 22; exact Calls.quiet_of_same (L3.out _))))
      go_wp2_with fail
      go_ret
      exact ⟨by first | rfl | simp, ⟨s, _, ⟨RIs.drewN R0.out _, XIs.kept (S := fun _ => False) X0.out ((Keeps.refl _ _).drewN _) (fun f => f)⟩, Nat.le_refl _⟩, (((Keeps.refl (BS b c) w).alloc _).drewN _)⟩
    · have hE : (!s.toList.isEmpty) = true := by
        rw [ByteArray.toList_eq]
        simp
        intro q
        apply hz
        rw [size_list]
        simp [q]
      have HD : Hid (rDone s 0 = 22) := by simp [Hid, rDone, hz]
      clear hz
      have L3 : Hid (∀ q, Calls Try.prog 22 #[.pointer (some ⟨b, 0, none⟩)] ((w.alloc (.cells #[.int .i64 kd, .int .u64 n, .string t] 24)).drewN q) fun r w' => r = .returned (.int .i64 22) ∧ w' = _) := fun q => by
        have := rdone_any b s _ _ (R0.out.drewN q)
        rw [HD.out] at this
        exact this
      go_enter Try.func32, Try.ntmps32
      go_wp2_with fail
      go_quiet ((first | (go_at_call 20; exact Calls.quiet_of_same (L1.out _)) | (go_at_call 21; exact Calls.quiet_of_same (L2.out _)) | (go_at_call 22; exact Calls.quiet_of_same (L3.out _))))
      go_wp2_with fail
      go_ret
      exact ⟨by first | rfl | simp, ⟨s, _, ⟨RIs.drewN R0.out _, XIs.kept (S := fun _ => False) X0.out ((Keeps.refl _ _).drewN _) (fun f => f)⟩, Nat.le_refl _⟩, (((Keeps.refl (BS b c) w).alloc _).drewN _)⟩
  · have hb : (e == 0) = false := by simpa using he
    have HD : Hid (rDone s e = e) := by simp [Hid, rDone, he]
    clear he
    have L3 : Hid (∀ q, Calls Try.prog 22 #[.pointer (some ⟨b, 0, none⟩)] ((w.alloc (.cells #[.int .i64 kd, .int .u64 n, .string t] 24)).drewN q) fun r w' => r = .returned (.int .i64 e) ∧ w' = _) := fun q => by
      have := rdone_any b s _ _ (R0.out.drewN q)
      rw [HD.out] at this
      exact this
    go_enter Try.func32, Try.ntmps32
    go_wp2_with fail
    go_quiet ((first | (go_at_call 20; exact Calls.quiet_of_same (L1.out _)) | (go_at_call 21; exact Calls.quiet_of_same (L2.out _)) | (go_at_call 22; exact Calls.quiet_of_same (L3.out _))))
    go_wp2_with fail
    go_ret
    exact ⟨by first | rfl | simp, ⟨s, _, ⟨RIs.drewN R0.out _, XIs.kept (S := fun _ => False) X0.out ((Keeps.refl _ _).drewN _) (fun f => f)⟩, Nat.le_refl _⟩, (((Keeps.refl (BS b c) w).alloc _).drewN _)⟩
theorem step_any (kd : Int) (n : Nat) (t : ByteArray) (h : Both w b c s e) (hs : s.size ≤ maxLen) (hn : n < 18446744073709551616) :
    Calls Try.prog 32 #[.pointer (some ⟨b, 0, none⟩), .pointer (some ⟨c, 0, none⟩), .agg #[.int .i64 kd, .int .u64 n, .string t]] w fun r w' => r = .returned (.bool true) ∧ Stepped w w' b c s.size := by
  by_cases h0 : kd = 0
  · subst h0; exact step_0 _ t h hs
  by_cases h1 : kd = 1
  · subst h1; exact step_1 _ t h hs
  by_cases h2 : kd = 2
  · subst h2; exact step_2 _ t h hs
  by_cases h3 : kd = 3
  · subst h3; exact step_3 _ t h hs
  by_cases h4 : kd = 4
  · subst h4; exact step_4 _ t h hs
  by_cases h5 : kd = 5
  · subst h5; exact step_5 _ t h hs
  by_cases h6 : kd = 6
  · subst h6; exact step_6 n t h hs hn
  exact step_look kd _ t h (by simpa using h0) (by simpa using h1) (by simpa using h2) (by simpa using h3) (by simpa using h4) (by simpa using h5) (by simpa using h6)
end
end Go.Proofs.Ytkhmmcakgfneiaa
