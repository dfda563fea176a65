/-
  The contract of the twin's Decode: the model's own reading of the first rune.
-/
import Derived.Test.YtbhlpiilklgnkaaDoorRBytes
namespace Go.Proofs.YtbhlpiilklgnkaaDoor
open Go.RowKit
theorem beq_eq {a b : ByteArray} (h : a = b) : (a.toList == b.toList) = true := by rw [h]; simp
theorem beq_ne {a b : ByteArray} (h : ¬ a = b) : (a.toList == b.toList) = false := by
  rw [ByteArray.toList_eq, ByteArray.toList_eq]
  cases hq : (a.data.toList == b.data.toList) with
  | false => rfl
  | true => exact absurd (ByteArray.ext (Array.toList_inj.1 (by simpa using hq))) h
def no2 (s : ByteArray) : Prop := ¬ byteAt s 0 < 128
def no3 (s : ByteArray) : Prop := no2 s ∧ ¬ (2 ≤ s.size ∧ ok2 (byteAt s 0) (byteAt s 1))
def no4 (s : ByteArray) : Prop := no3 s ∧ ¬ (3 ≤ s.size ∧ ok3 (byteAt s 0) (byteAt s 1) (byteAt s 2))
def no5 (s : ByteArray) : Prop := no4 s ∧ ¬ (4 ≤ s.size ∧ ok4 (byteAt s 0) (byteAt s 1) (byteAt s 2) (byteAt s 3))
theorem dec_no5 {s : ByteArray} (h : no5 s) : Utf8.decode s 0 = (65533, 1) := by
  have e := dec_eq s
  obtain ⟨⟨⟨h1, h2⟩, h3⟩, h4⟩ := h
  rw [if_neg h1, if_neg h2, if_neg h3, if_neg h4] at e
  generalize Utf8.decode s 0 = d at e
  obtain ⟨d1, d2⟩ := d
  simp only [Prod.mk.injEq] at e ⊢
  omega
theorem no_short {s : ByteArray} (k : Nat) (hk : s.size < k) (h : (k = 2 ∧ no2 s) ∨ (k = 3 ∧ no3 s) ∨ (k = 4 ∧ no4 s)) : no5 s := by
  rcases h with ⟨rfl, h⟩ | ⟨rfl, h⟩ | ⟨rfl, h⟩
  · exact ⟨⟨⟨h, fun e => by omega⟩, fun e => by omega⟩, fun e => by omega⟩
  · exact ⟨⟨h, fun e => by omega⟩, fun e => by omega⟩
  · exact ⟨h, fun e => by omega⟩
theorem dec_at1 {s : ByteArray} (ho : byteAt s 0 < 128) : ((Utf8.decode s 0).1 : Int) = (byteAt s 0 : Nat) ∧ (Utf8.decode s 0).2 = 1 := by
  have e := dec_eq s
  rw [if_pos ho] at e
  exact ⟨congrArg Prod.fst e, congrArg Prod.snd e⟩
theorem dec_at2 {s : ByteArray} (h : no2 s) (hk : 2 ≤ s.size) (ho : ok2 (byteAt s 0) (byteAt s 1)) : ((Utf8.decode s 0).1 : Int) = (num2 (byteAt s 0) (byteAt s 1)) ∧ (Utf8.decode s 0).2 = 2 := by
  have e := dec_eq s
  rw [if_neg h, if_pos ⟨hk, ho⟩] at e
  exact ⟨congrArg Prod.fst e, congrArg Prod.snd e⟩
theorem dec_at3 {s : ByteArray} (h : no3 s) (hk : 3 ≤ s.size) (ho : ok3 (byteAt s 0) (byteAt s 1) (byteAt s 2)) : ((Utf8.decode s 0).1 : Int) = (num3 (byteAt s 0) (byteAt s 1) (byteAt s 2)) ∧ (Utf8.decode s 0).2 = 3 := by
  have e := dec_eq s
  obtain ⟨h1, h2⟩ := h
  rw [if_neg h1, if_neg h2, if_pos ⟨hk, ho⟩] at e
  exact ⟨congrArg Prod.fst e, congrArg Prod.snd e⟩
theorem dec_at4 {s : ByteArray} (h : no4 s) (hk : 4 ≤ s.size) (ho : ok4 (byteAt s 0) (byteAt s 1) (byteAt s 2) (byteAt s 3)) : ((Utf8.decode s 0).1 : Int) = (num4 (byteAt s 0) (byteAt s 1) (byteAt s 2) (byteAt s 3)) ∧ (Utf8.decode s 0).2 = 4 := by
  have e := dec_eq s
  obtain ⟨⟨h1, h2⟩, h3⟩ := h
  rw [if_neg h1, if_neg h2, if_neg h3, if_pos ⟨hk, ho⟩] at e
  exact ⟨congrArg Prod.fst e, congrArg Prod.snd e⟩
set_option maxRecDepth 20000 in
set_option maxHeartbeats 8000000 in
theorem rdecode_any (s : ByteArray) (w : World) (h0 : 0 < s.size) (hs : s.size ≤ 140737488355328) : Calls Tryd.prog 32 #[.string s] w fun e w' => e = .returned (.tuple #[.int .i32 ((Utf8.decode s 0).1 : Nat), .int .i64 ((Utf8.decode s 0).2 : Nat)]) ∧ Below w.heap.size w w' := by
  have hne : (s.toList == []) = false := by
    have : s ≠ (⟨#[]⟩ : ByteArray) := fun e => by rw [e] at h0; exact absurd h0 (by decide)
    have h2 := beq_ne this
    rw [show (⟨#[]⟩ : ByteArray).toList = [] by rw [ByteArray.toList_eq]] at h2
    exact h2
  have HI : Hid (∀ (z : Int) (W : World), _) := fun z W => risRune_any z W
  obtain ⟨d1, hd1⟩ : ∃ d, (Utf8.decode s 0).1 = d := ⟨_, rfl⟩
  obtain ⟨d2, hd2⟩ : ∃ d, (Utf8.decode s 0).2 = d := ⟨_, rfl⟩
  rw [hd1, hd2]
  have HD1 : Hid _ := hd1
  have HD2 : Hid _ := hd2
  have HN5 : Hid (no5 s → d1 = 65533 ∧ d2 = 1) := fun h => by
    have := dec_no5 h
    rw [← hd1, ← hd2, this]
    exact ⟨rfl, rfl⟩
  clear hd1 hd2
  go_enter Tryd.func32, Tryd.ntmps32
  go_wp2_with fail
  go_loopw [4] (fun i wr => Below w.heap.size w wr ∧ (i = .int .i64 1 ∨ (i = .int .i64 2 ∧ Hid (no2 s)) ∨ (i = .int .i64 3 ∧ Hid (no3 s)) ∨ (i = .int .i64 4 ∧ Hid (no4 s)) ∨ (i = .int .i64 5 ∧ Hid (no5 s)))) (fun i _ => 5 - (intOf i).toNat)
  case atStart => exact ⟨Below.refl _ _, Or.inl rfl⟩
  case round =>
    obtain ⟨hb, hrel⟩ := hrel
    rcases hrel with rfl | ⟨rfl, HN⟩ | ⟨rfl, HN⟩ | ⟨rfl, HN⟩ | ⟨rfl, HN⟩
    · have hk : 1 ≤ s.size := h0
      have r0 := fun W => run_byte s (i := 0) (z := 0) rfl (by omega) W
      have l0 := byteAt_lt s 0
      have hkz : (1 : Int) ≤ (s.size : Int) := by omega
      have HYES : Hid (byteAt s 0 < 128 → _) := fun ho => one_yes hk ho
      have HNO : Hid (isRn (byteAt s 0 : Nat) = true → ¬ byteAt s 0 < 128 → _) := fun _ ho => one_no hk ho
      have HAT : Hid (byteAt s 0 < 128 → (d1 : Int) = (byteAt s 0 : Nat) ∧ d2 = 1) := fun ho => by rw [← HD1.out, ← HD2.out]; exact dec_at1 ho
      obtain ⟨z, hz⟩ : ∃ z : Int, (byteAt s 0 : Nat) = z := ⟨_, rfl⟩
      rw [hz] at HYES HNO HAT
      have HNX : Hid (¬ byteAt s 0 < 128 → no2 s) := fun hok => (hok : no2 s)
      obtain ⟨X, hX⟩ : ∃ X : ByteArray, s.extract 0 1 = X := ⟨_, rfl⟩
      rw [hX] at HYES HNO
      obtain ⟨b0, hb0⟩ : ∃ b, byteAt s 0 = b := ⟨_, rfl⟩
      simp only [hb0] at hz r0 l0 HYES HNO HAT HNX
      clear hb0
      have HI1 := HI.out z
      by_cases hr : isRn z = true
      · obtain ⟨n, hn, hn1, hn2⟩ := isRn_nat hr
        have HB : Hid (∀ W : World, _) := fun W => rbytes_any n (by rw [← hn]; exact hr) W
        rw [← hn] at HB
        rw [hr] at HI1
        have HI2 : Hid _ := HI1
        obtain ⟨E, hE⟩ : ∃ E : ByteArray, Utf8.encode z = E := ⟨_, rfl⟩
        rw [hE] at HB HYES HNO
        clear hE HI1
        by_cases hok : b0 < 128
        · have hq : (E.toList == X.toList) = true := beq_eq (HYES.out hok).2
          have HV := HAT.out hok
          obtain ⟨v1, v2⟩ := HV
          have HV1 : Hid _ := v1
          have HV2 : Hid _ := v2
          have z0 : (0 : Int) ≤ z := by omega
          have z1 : z ≤ 1114111 := by omega
          clear v1 v2 HYES HNO HAT HNX hok hr hn hn1 hn2
          go_wp2_with fail
          try rw [hz]
          obtain ⟨v3, hv3⟩ : ∃ v3, wr = v3 := ⟨_, rfl⟩
          have hb3 : Below w.heap.size w v3 := by rw [← hv3]; exact hb
          rw [hv3]
          clear hv3 hb hz r0
          go_wp2_with fail
          go_region_with (first
            | (go_at_call 42; refine (HI2.out _).mono ?_; rintro e w' ⟨rfl, rfl⟩)
            | (go_at_call 43; refine (HB.out _).mono ?_; rintro e w' ⟨rfl, b4⟩))
          all_goals
            go_wp2_with fail
            go_ret2
            refine ⟨by rw [HV2.out, HV1.out]; rfl, ?_⟩
            first | exact hb3.drew.trans (b4.mono hb3.size) | exact (hb3.drew.trans (b4.mono hb3.drew.size)).drew | exact hb3.trans (b4.mono hb3.size)
        · have hq : (E.toList == X.toList) = false := beq_ne (HNO.out hr hok)
          have HX2 : Hid _ := HNX.out hok
          clear HYES HNO HAT HNX hok hr hn hn1 hn2
          go_wp2_with fail
          try rw [hz]
          obtain ⟨v3, hv3⟩ : ∃ v3, wr = v3 := ⟨_, rfl⟩
          have hb3 : Below w.heap.size w v3 := by rw [← hv3]; exact hb
          rw [hv3]
          clear hv3 hb hz r0
          go_wp2_with fail
          go_region_with (first
            | (go_at_call 42; refine (HI2.out _).mono ?_; rintro e w' ⟨rfl, rfl⟩)
            | (go_at_call 43; refine (HB.out _).mono ?_; rintro e w' ⟨rfl, b4⟩))
          all_goals
            go_wp2_with fail
            go_roundw
            case rel => exact ⟨by first | exact hb3.drew.trans (b4.mono hb3.size) | exact hb3.trans (b4.mono hb3.size), Or.inr (Or.inl ⟨rfl, HX2.out⟩)⟩
            case measure => simp [intOf]
      · have hr2 : isRn z = false := by simpa using hr
        have hok : ¬ b0 < 128 := fun ho => hr (HYES.out ho).1
        rw [hr2] at HI1
        have HI2 : Hid _ := HI1
        have HX2 : Hid _ := HNX.out hok
        clear HYES HNO HAT HNX hok hr hr2 HI1
        go_wp2_with fail
        try rw [hz]
        obtain ⟨v3, hv3⟩ : ∃ v3, wr = v3 := ⟨_, rfl⟩
        have hb3 : Below w.heap.size w v3 := by rw [← hv3]; exact hb
        rw [hv3]
        clear hv3 hb hz r0
        go_wp2_with fail
        go_quiet (first | (go_at_call 42; exact Calls.quiet_of_same (HI2.out _)))
        go_wp2_with fail
        go_roundw
        case rel => exact ⟨below_drewN hb3 _, Or.inr (Or.inl ⟨rfl, HX2.out⟩)⟩
        case measure => simp [intOf]
    · by_cases hk : 2 ≤ s.size
      · have r0 := fun W => run_byte s (i := 0) (z := 0) rfl (by omega) W
        have l0 := byteAt_lt s 0
        have r1 := fun W => run_byte s (i := 1) (z := 1) rfl (by omega) W
        have l1 := byteAt_lt s 1
        have hkz : (2 : Int) ≤ (s.size : Int) := by omega
        have HYES : Hid (ok2 (byteAt s 0) (byteAt s 1) → _) := fun ho => two_yes hk ho
        have HNO : Hid (isRn (num2 (byteAt s 0) (byteAt s 1)) = true → ¬ ok2 (byteAt s 0) (byteAt s 1) → _) := fun hr ho => two_no hk hr ho
        have HAT : Hid (ok2 (byteAt s 0) (byteAt s 1) → (d1 : Int) = (num2 (byteAt s 0) (byteAt s 1)) ∧ d2 = 2) := fun ho => by rw [← HD1.out, ← HD2.out]; exact dec_at2 HN.out hk ho
        obtain ⟨z, hz⟩ : ∃ z : Int, (num2 (byteAt s 0) (byteAt s 1)) = z := ⟨_, rfl⟩
        rw [hz] at HYES HNO HAT
        have HNX : Hid (¬ ok2 (byteAt s 0) (byteAt s 1) → no3 s) := fun hok => (⟨HN.out, fun e => hok e.2⟩ : no3 s)
        obtain ⟨X, hX⟩ : ∃ X : ByteArray, s.extract 0 2 = X := ⟨_, rfl⟩
        rw [hX] at HYES HNO
        unfold num2 at hz
        obtain ⟨b0, hb0⟩ : ∃ b, byteAt s 0 = b := ⟨_, rfl⟩
        obtain ⟨b1, hb1⟩ : ∃ b, byteAt s 1 = b := ⟨_, rfl⟩
        simp only [hb0, hb1] at hz r0 r1 l0 l1 HYES HNO HAT HNX
        clear hb0 hb1
        have HI1 := HI.out z
        by_cases hr : isRn z = true
        · obtain ⟨n, hn, hn1, hn2⟩ := isRn_nat hr
          have HB : Hid (∀ W : World, _) := fun W => rbytes_any n (by rw [← hn]; exact hr) W
          rw [← hn] at HB
          rw [hr] at HI1
          have HI2 : Hid _ := HI1
          obtain ⟨E, hE⟩ : ∃ E : ByteArray, Utf8.encode z = E := ⟨_, rfl⟩
          rw [hE] at HB HYES HNO
          clear hE HI1
          by_cases hok : ok2 b0 b1
          · have hq : (E.toList == X.toList) = true := beq_eq (HYES.out hok).2
            have HV := HAT.out hok
            obtain ⟨v1, v2⟩ := HV
            have HV1 : Hid _ := v1
            have HV2 : Hid _ := v2
            have z0 : (0 : Int) ≤ z := by omega
            have z1 : z ≤ 1114111 := by omega
            clear v1 v2 HYES HNO HAT HNX hok hr hn hn1 hn2
            go_wp2_with fail
            go_quiet (fail)
            try rw [hz]
            obtain ⟨v3, hv3⟩ : ∃ v3, wr.drewN nq = v3 := ⟨_, rfl⟩
            have hb3 : Below w.heap.size w v3 := by rw [← hv3]; exact below_drewN hb nq
            rw [hv3]
            clear hv3 hb hz r0 r1
            go_wp2_with fail
            go_region_with (first
              | (go_at_call 42; refine (HI2.out _).mono ?_; rintro e w' ⟨rfl, rfl⟩)
              | (go_at_call 43; refine (HB.out _).mono ?_; rintro e w' ⟨rfl, b4⟩))
            all_goals
              go_wp2_with fail
              go_ret2
              refine ⟨by rw [HV2.out, HV1.out]; rfl, ?_⟩
              first | exact hb3.drew.trans (b4.mono hb3.size) | exact (hb3.drew.trans (b4.mono hb3.drew.size)).drew | exact hb3.trans (b4.mono hb3.size)
          · have hq : (E.toList == X.toList) = false := beq_ne (HNO.out hr hok)
            have HX2 : Hid _ := HNX.out hok
            clear HYES HNO HAT HNX hok hr hn hn1 hn2
            go_wp2_with fail
            go_quiet (fail)
            try rw [hz]
            obtain ⟨v3, hv3⟩ : ∃ v3, wr.drewN nq = v3 := ⟨_, rfl⟩
            have hb3 : Below w.heap.size w v3 := by rw [← hv3]; exact below_drewN hb nq
            rw [hv3]
            clear hv3 hb hz r0 r1
            go_wp2_with fail
            go_region_with (first
              | (go_at_call 42; refine (HI2.out _).mono ?_; rintro e w' ⟨rfl, rfl⟩)
              | (go_at_call 43; refine (HB.out _).mono ?_; rintro e w' ⟨rfl, b4⟩))
            all_goals
              go_wp2_with fail
              go_roundw
              case rel => exact ⟨by first | exact hb3.drew.trans (b4.mono hb3.size) | exact hb3.trans (b4.mono hb3.size), Or.inr (Or.inr (Or.inl ⟨rfl, HX2.out⟩))⟩
              case measure => simp [intOf]
        · have hr2 : isRn z = false := by simpa using hr
          have hok : ¬ ok2 b0 b1 := fun ho => hr (HYES.out ho).1
          rw [hr2] at HI1
          have HI2 : Hid _ := HI1
          have HX2 : Hid _ := HNX.out hok
          clear HYES HNO HAT HNX hok hr hr2 HI1
          go_wp2_with fail
          go_quiet (fail)
          try rw [hz]
          obtain ⟨v3, hv3⟩ : ∃ v3, wr.drewN nq = v3 := ⟨_, rfl⟩
          have hb3 : Below w.heap.size w v3 := by rw [← hv3]; exact below_drewN hb nq
          rw [hv3]
          clear hv3 hb hz r0 r1
          go_wp2_with fail
          go_quiet (first | (go_at_call 42; exact Calls.quiet_of_same (HI2.out _)))
          go_wp2_with fail
          go_roundw
          case rel => exact ⟨below_drewN hb3 _, Or.inr (Or.inr (Or.inl ⟨rfl, HX2.out⟩))⟩
          case measure => simp [intOf]
      · have HF := HN5.out (no_short 2 (by omega) (Or.inl ⟨rfl, HN.out⟩))
        obtain ⟨rfl, rfl⟩ := HF
        have hkz : ¬ (2 : Int) ≤ (s.size : Int) := by omega
        go_wp2_with fail
        go_ret2
        exact ⟨rfl, hb⟩
    · by_cases hk : 3 ≤ s.size
      · have r0 := fun W => run_byte s (i := 0) (z := 0) rfl (by omega) W
        have l0 := byteAt_lt s 0
        have r1 := fun W => run_byte s (i := 1) (z := 1) rfl (by omega) W
        have l1 := byteAt_lt s 1
        have r2 := fun W => run_byte s (i := 2) (z := 2) rfl (by omega) W
        have l2 := byteAt_lt s 2
        have hkz : (3 : Int) ≤ (s.size : Int) := by omega
        have HYES : Hid (ok3 (byteAt s 0) (byteAt s 1) (byteAt s 2) → _) := fun ho => three_yes hk ho
        have HNO : Hid (isRn (num3 (byteAt s 0) (byteAt s 1) (byteAt s 2)) = true → ¬ ok3 (byteAt s 0) (byteAt s 1) (byteAt s 2) → _) := fun hr ho => three_no hk hr ho
        have HAT : Hid (ok3 (byteAt s 0) (byteAt s 1) (byteAt s 2) → (d1 : Int) = (num3 (byteAt s 0) (byteAt s 1) (byteAt s 2)) ∧ d2 = 3) := fun ho => by rw [← HD1.out, ← HD2.out]; exact dec_at3 HN.out hk ho
        obtain ⟨z, hz⟩ : ∃ z : Int, (num3 (byteAt s 0) (byteAt s 1) (byteAt s 2)) = z := ⟨_, rfl⟩
        rw [hz] at HYES HNO HAT
        have HNX : Hid (¬ ok3 (byteAt s 0) (byteAt s 1) (byteAt s 2) → no4 s) := fun hok => (⟨HN.out, fun e => hok e.2⟩ : no4 s)
        obtain ⟨X, hX⟩ : ∃ X : ByteArray, s.extract 0 3 = X := ⟨_, rfl⟩
        rw [hX] at HYES HNO
        unfold num3 at hz
        obtain ⟨b0, hb0⟩ : ∃ b, byteAt s 0 = b := ⟨_, rfl⟩
        obtain ⟨b1, hb1⟩ : ∃ b, byteAt s 1 = b := ⟨_, rfl⟩
        obtain ⟨b2, hb2⟩ : ∃ b, byteAt s 2 = b := ⟨_, rfl⟩
        simp only [hb0, hb1, hb2] at hz r0 r1 r2 l0 l1 l2 HYES HNO HAT HNX
        clear hb0 hb1 hb2
        have HI1 := HI.out z
        by_cases hr : isRn z = true
        · obtain ⟨n, hn, hn1, hn2⟩ := isRn_nat hr
          have HB : Hid (∀ W : World, _) := fun W => rbytes_any n (by rw [← hn]; exact hr) W
          rw [← hn] at HB
          rw [hr] at HI1
          have HI2 : Hid _ := HI1
          obtain ⟨E, hE⟩ : ∃ E : ByteArray, Utf8.encode z = E := ⟨_, rfl⟩
          rw [hE] at HB HYES HNO
          clear hE HI1
          by_cases hok : ok3 b0 b1 b2
          · have hq : (E.toList == X.toList) = true := beq_eq (HYES.out hok).2
            have HV := HAT.out hok
            obtain ⟨v1, v2⟩ := HV
            have HV1 : Hid _ := v1
            have HV2 : Hid _ := v2
            have z0 : (0 : Int) ≤ z := by omega
            have z1 : z ≤ 1114111 := by omega
            clear v1 v2 HYES HNO HAT HNX hok hr hn hn1 hn2
            go_wp2_with fail
            go_quiet (fail)
            try rw [hz]
            obtain ⟨v3, hv3⟩ : ∃ v3, wr.drewN nq = v3 := ⟨_, rfl⟩
            have hb3 : Below w.heap.size w v3 := by rw [← hv3]; exact below_drewN hb nq
            rw [hv3]
            clear hv3 hb hz r0 r1 r2
            go_wp2_with fail
            go_region_with (first
              | (go_at_call 42; refine (HI2.out _).mono ?_; rintro e w' ⟨rfl, rfl⟩)
              | (go_at_call 43; refine (HB.out _).mono ?_; rintro e w' ⟨rfl, b4⟩))
            all_goals
              go_wp2_with fail
              go_ret2
              refine ⟨by rw [HV2.out, HV1.out]; rfl, ?_⟩
              first | exact hb3.drew.trans (b4.mono hb3.size) | exact (hb3.drew.trans (b4.mono hb3.drew.size)).drew | exact hb3.trans (b4.mono hb3.size)
          · have hq : (E.toList == X.toList) = false := beq_ne (HNO.out hr hok)
            have HX2 : Hid _ := HNX.out hok
            clear HYES HNO HAT HNX hok hr hn hn1 hn2
            go_wp2_with fail
            go_quiet (fail)
            try rw [hz]
            obtain ⟨v3, hv3⟩ : ∃ v3, wr.drewN nq = v3 := ⟨_, rfl⟩
            have hb3 : Below w.heap.size w v3 := by rw [← hv3]; exact below_drewN hb nq
            rw [hv3]
            clear hv3 hb hz r0 r1 r2
            go_wp2_with fail
            go_region_with (first
              | (go_at_call 42; refine (HI2.out _).mono ?_; rintro e w' ⟨rfl, rfl⟩)
              | (go_at_call 43; refine (HB.out _).mono ?_; rintro e w' ⟨rfl, b4⟩))
            all_goals
              go_wp2_with fail
              go_roundw
              case rel => exact ⟨by first | exact hb3.drew.trans (b4.mono hb3.size) | exact hb3.trans (b4.mono hb3.size), Or.inr (Or.inr (Or.inr (Or.inl ⟨rfl, HX2.out⟩)))⟩
              case measure => simp [intOf]
        · have hr2 : isRn z = false := by simpa using hr
          have hok : ¬ ok3 b0 b1 b2 := fun ho => hr (HYES.out ho).1
          rw [hr2] at HI1
          have HI2 : Hid _ := HI1
          have HX2 : Hid _ := HNX.out hok
          clear HYES HNO HAT HNX hok hr hr2 HI1
          go_wp2_with fail
          go_quiet (fail)
          try rw [hz]
          obtain ⟨v3, hv3⟩ : ∃ v3, wr.drewN nq = v3 := ⟨_, rfl⟩
          have hb3 : Below w.heap.size w v3 := by rw [← hv3]; exact below_drewN hb nq
          rw [hv3]
          clear hv3 hb hz r0 r1 r2
          go_wp2_with fail
          go_quiet (first | (go_at_call 42; exact Calls.quiet_of_same (HI2.out _)))
          go_wp2_with fail
          go_roundw
          case rel => exact ⟨below_drewN hb3 _, Or.inr (Or.inr (Or.inr (Or.inl ⟨rfl, HX2.out⟩)))⟩
          case measure => simp [intOf]
      · have HF := HN5.out (no_short 3 (by omega) (Or.inr (Or.inl ⟨rfl, HN.out⟩)))
        obtain ⟨rfl, rfl⟩ := HF
        have hkz : ¬ (3 : Int) ≤ (s.size : Int) := by omega
        go_wp2_with fail
        go_ret2
        exact ⟨rfl, hb⟩
    · by_cases hk : 4 ≤ s.size
      · have r0 := fun W => run_byte s (i := 0) (z := 0) rfl (by omega) W
        have l0 := byteAt_lt s 0
        have r1 := fun W => run_byte s (i := 1) (z := 1) rfl (by omega) W
        have l1 := byteAt_lt s 1
        have r2 := fun W => run_byte s (i := 2) (z := 2) rfl (by omega) W
        have l2 := byteAt_lt s 2
        have r3 := fun W => run_byte s (i := 3) (z := 3) rfl (by omega) W
        have l3 := byteAt_lt s 3
        have hkz : (4 : Int) ≤ (s.size : Int) := by omega
        have HYES : Hid (ok4 (byteAt s 0) (byteAt s 1) (byteAt s 2) (byteAt s 3) → _) := fun ho => four_yes hk ho
        have HNO : Hid (isRn (num4 (byteAt s 0) (byteAt s 1) (byteAt s 2) (byteAt s 3)) = true → ¬ ok4 (byteAt s 0) (byteAt s 1) (byteAt s 2) (byteAt s 3) → _) := fun hr ho => four_no hk hr ho
        have HAT : Hid (ok4 (byteAt s 0) (byteAt s 1) (byteAt s 2) (byteAt s 3) → (d1 : Int) = (num4 (byteAt s 0) (byteAt s 1) (byteAt s 2) (byteAt s 3)) ∧ d2 = 4) := fun ho => by rw [← HD1.out, ← HD2.out]; exact dec_at4 HN.out hk ho
        obtain ⟨z, hz⟩ : ∃ z : Int, (num4 (byteAt s 0) (byteAt s 1) (byteAt s 2) (byteAt s 3)) = z := ⟨_, rfl⟩
        rw [hz] at HYES HNO HAT
        have HNX : Hid (¬ ok4 (byteAt s 0) (byteAt s 1) (byteAt s 2) (byteAt s 3) → no5 s) := fun hok => (⟨HN.out, fun e => hok e.2⟩ : no5 s)
        obtain ⟨X, hX⟩ : ∃ X : ByteArray, s.extract 0 4 = X := ⟨_, rfl⟩
        rw [hX] at HYES HNO
        unfold num4 at hz
        obtain ⟨b0, hb0⟩ : ∃ b, byteAt s 0 = b := ⟨_, rfl⟩
        obtain ⟨b1, hb1⟩ : ∃ b, byteAt s 1 = b := ⟨_, rfl⟩
        obtain ⟨b2, hb2⟩ : ∃ b, byteAt s 2 = b := ⟨_, rfl⟩
        obtain ⟨b3, hb3⟩ : ∃ b, byteAt s 3 = b := ⟨_, rfl⟩
        simp only [hb0, hb1, hb2, hb3] at hz r0 r1 r2 r3 l0 l1 l2 l3 HYES HNO HAT HNX
        clear hb0 hb1 hb2 hb3
        have HI1 := HI.out z
        by_cases hr : isRn z = true
        · obtain ⟨n, hn, hn1, hn2⟩ := isRn_nat hr
          have HB : Hid (∀ W : World, _) := fun W => rbytes_any n (by rw [← hn]; exact hr) W
          rw [← hn] at HB
          rw [hr] at HI1
          have HI2 : Hid _ := HI1
          obtain ⟨E, hE⟩ : ∃ E : ByteArray, Utf8.encode z = E := ⟨_, rfl⟩
          rw [hE] at HB HYES HNO
          clear hE HI1
          by_cases hok : ok4 b0 b1 b2 b3
          · have hq : (E.toList == X.toList) = true := beq_eq (HYES.out hok).2
            have HV := HAT.out hok
            obtain ⟨v1, v2⟩ := HV
            have HV1 : Hid _ := v1
            have HV2 : Hid _ := v2
            have z0 : (0 : Int) ≤ z := by omega
            have z1 : z ≤ 1114111 := by omega
            clear v1 v2 HYES HNO HAT HNX hok hr hn hn1 hn2
            go_wp2_with fail
            go_quiet (fail)
            try rw [hz]
            obtain ⟨v3, hv3⟩ : ∃ v3, wr.drewN nq = v3 := ⟨_, rfl⟩
            have hb3 : Below w.heap.size w v3 := by rw [← hv3]; exact below_drewN hb nq
            rw [hv3]
            clear hv3 hb hz r0 r1 r2 r3
            go_wp2_with fail
            go_region_with (first
              | (go_at_call 42; refine (HI2.out _).mono ?_; rintro e w' ⟨rfl, rfl⟩)
              | (go_at_call 43; refine (HB.out _).mono ?_; rintro e w' ⟨rfl, b4⟩))
            all_goals
              go_wp2_with fail
              go_ret2
              refine ⟨by rw [HV2.out, HV1.out]; rfl, ?_⟩
              first | exact hb3.drew.trans (b4.mono hb3.size) | exact (hb3.drew.trans (b4.mono hb3.drew.size)).drew | exact hb3.trans (b4.mono hb3.size)
          · have hq : (E.toList == X.toList) = false := beq_ne (HNO.out hr hok)
            have HX2 : Hid _ := HNX.out hok
            clear HYES HNO HAT HNX hok hr hn hn1 hn2
            go_wp2_with fail
            go_quiet (fail)
            try rw [hz]
            obtain ⟨v3, hv3⟩ : ∃ v3, wr.drewN nq = v3 := ⟨_, rfl⟩
            have hb3 : Below w.heap.size w v3 := by rw [← hv3]; exact below_drewN hb nq
            rw [hv3]
            clear hv3 hb hz r0 r1 r2 r3
            go_wp2_with fail
            go_region_with (first
              | (go_at_call 42; refine (HI2.out _).mono ?_; rintro e w' ⟨rfl, rfl⟩)
              | (go_at_call 43; refine (HB.out _).mono ?_; rintro e w' ⟨rfl, b4⟩))
            all_goals
              go_wp2_with fail
              go_roundw
              case rel => exact ⟨by first | exact hb3.drew.trans (b4.mono hb3.size) | exact hb3.trans (b4.mono hb3.size), Or.inr (Or.inr (Or.inr (Or.inr ⟨rfl, HX2.out⟩)))⟩
              case measure => simp [intOf]
        · have hr2 : isRn z = false := by simpa using hr
          have hok : ¬ ok4 b0 b1 b2 b3 := fun ho => hr (HYES.out ho).1
          rw [hr2] at HI1
          have HI2 : Hid _ := HI1
          have HX2 : Hid _ := HNX.out hok
          clear HYES HNO HAT HNX hok hr hr2 HI1
          go_wp2_with fail
          go_quiet (fail)
          try rw [hz]
          obtain ⟨v3, hv3⟩ : ∃ v3, wr.drewN nq = v3 := ⟨_, rfl⟩
          have hb3 : Below w.heap.size w v3 := by rw [← hv3]; exact below_drewN hb nq
          rw [hv3]
          clear hv3 hb hz r0 r1 r2 r3
          go_wp2_with fail
          go_quiet (first | (go_at_call 42; exact Calls.quiet_of_same (HI2.out _)))
          go_wp2_with fail
          go_roundw
          case rel => exact ⟨below_drewN hb3 _, Or.inr (Or.inr (Or.inr (Or.inr ⟨rfl, HX2.out⟩)))⟩
          case measure => simp [intOf]
      · have HF := HN5.out (no_short 4 (by omega) (Or.inr (Or.inr ⟨rfl, HN.out⟩)))
        obtain ⟨rfl, rfl⟩ := HF
        have hkz : ¬ (4 : Int) ≤ (s.size : Int) := by omega
        go_wp2_with fail
        go_ret2
        exact ⟨rfl, hb⟩
    · have HF := HN5.out HN.out
      obtain ⟨rfl, rfl⟩ := HF
      go_wp2_with fail
      go_ret2
      exact ⟨rfl, hb⟩
end Go.Proofs.YtbhlpiilklgnkaaDoor
