/-
  The reader of replies: the contracts of cookie, size, opening.
-/
import Derived.Test.YtdkbgbhcnbmlfaaDoorRdl
namespace Go.Proofs.YtdkbgbhcnbmlfaaDoor
open Go.RowKit
def cookR (rest : List UInt8) (e : Int) : List UInt8 × List UInt8 × Int := (rest.take (inC (rest.take 256)), lineR (inC (rest.take 256)) rest e)
set_option maxRecDepth 20000 in
set_option maxHeartbeats 4000000 in
theorem cookie_any (b : Nat) (S : ByteArray) (e : Int) (w : World) (h : RIs w b S e) (hs : S.size ≤ 140737488355328) :
    Calls Tryd.prog 36 #[.pointer (some ⟨b, 0, none⟩)] w fun r w' => r = .returned (.string (mkB (cookR S.data.toList e).1)) ∧ RIs w' b (mkB (cookR S.data.toList e).2.1) (cookR S.data.toList e).2.2 ∧ Keeps (fun k => k = b) w w' := by
  have HI : Hid (RIs w b S e) := h
  have h0 := h.c0
  have HLS : Hid (mkB S.data.toList = S) := list_mkB S
  have hlen := size_list S
  have HX : Hid (S.extract 0 (min S.size 256) = mkB (S.data.toList.take 256)) := by
    rw [Hid]
    conv => lhs; rw [← HLS.out]
    rw [mkB_pre, HLS.out, ← hlen, List.take_eq_take_min (i := 256), Nat.min_comm]
  have H1 : Hid (∀ W : World, _) := fun W => inCookie_any (S.extract 0 (min S.size 256)) (by rw [ByteArray.size_extract]; omega) W
  rw [HX.out, mkB_list, ← HX.out] at H1
  have hle : inC (S.data.toList.take 256) ≤ S.size := by
    have := inC_le (S.data.toList.take 256)
    rw [List.length_take] at this
    omega
  have H2 : Hid (∀ W : World, RIs W b S e → _) := fun W q => line_any b (inC (S.data.toList.take 256)) S e W q hle
  have HR : Hid (cookR S.data.toList e = (S.data.toList.take (inC (S.data.toList.take 256)), lineR (inC (S.data.toList.take 256)) S.data.toList e)) := rfl
  have HY : Hid (S.extract 0 (inC (S.data.toList.take 256)) = mkB (S.data.toList.take (inC (S.data.toList.take 256)))) := by
    rw [Hid, ← mkB_pre, HLS.out]
  obtain ⟨n, hn⟩ : ∃ n, inC (S.data.toList.take 256) = n := ⟨_, rfl⟩
  rw [hn] at H1 H2 HR HY hle
  obtain ⟨T, hT⟩ : ∃ T, S.extract 0 (min S.size 256) = T := ⟨_, rfl⟩
  rw [hT] at H1
  clear hn hlen HX h
  rcases (by omega : S.size ≤ 256 ∨ 256 < S.size) with g | g
  · have q1 : ((S.size : Int) ≤ 256) := by omega
    have q2 : min (S.size : Int) 256 = (S.size : Int) := by omega
    have q4 : ¬ (256 : Int) < (S.size : Int) := by omega
    rw [show min S.size 256 = S.size by omega] at hT
    have q3 : Hid (S = T) := by rw [Hid, ← hT]; simp
    go_enter Tryd.func36, Tryd.ntmps36
    go_wp2_with fail
    go_quiet (first | (go_at_call 23; exact Calls.quiet_of_same (H1.out _)))
    have HI2 : Hid (RIs (w.drewN nq) b S e) := HI.out
    have HK2 : Hid (Keeps (fun k => k = b) w (w.drewN nq)) := (Keeps.refl _ _).drewN nq
    obtain ⟨w2, hw2⟩ : ∃ w2, w.drewN nq = w2 := ⟨_, rfl⟩
    rw [hw2] at HI2 HK2
    try rw [hw2]
    clear hw2
    go_wp2_with (go_at_call 49; refine (H2.out _ HI2.out).mono ?_; rintro r w' ⟨rfl, r1, r2⟩)
    go_ret
    exact ⟨by rw [HR.out, HY.out]; rfl, by rw [HR.out]; exact r1, HK2.out.trans r2⟩
  · have q1 : ¬ ((S.size : Int) ≤ 256) := by omega
    have q2 : min (S.size : Int) 256 = 256 := by omega
    have q4 : (256 : Int) < (S.size : Int) := by omega
    have q5 : 256 ≤ S.size := by omega
    rw [show min S.size 256 = 256 by omega] at hT
    go_enter Tryd.func36, Tryd.ntmps36
    go_wp2_with fail
    go_quiet (first | (go_at_call 23; exact Calls.quiet_of_same (H1.out _)))
    have HI2 : Hid (RIs (w.drewN nq) b S e) := HI.out
    have HK2 : Hid (Keeps (fun k => k = b) w (w.drewN nq)) := (Keeps.refl _ _).drewN nq
    obtain ⟨w2, hw2⟩ : ∃ w2, w.drewN nq = w2 := ⟨_, rfl⟩
    rw [hw2] at HI2 HK2
    try rw [hw2]
    clear hw2
    go_wp2_with (go_at_call 49; refine (H2.out _ HI2.out).mono ?_; rintro r w' ⟨rfl, r1, r2⟩)
    go_ret
    exact ⟨by rw [HR.out, HY.out]; rfl, by rw [HR.out]; exact r1, HK2.out.trans r2⟩
/-- What a length says. -/
def sizG (typed : Bool) (rest : List UInt8) (e : Int) : List UInt8 → Nat → Nat → Nat × List UInt8 × Int
  | [], i, n => (n, lineR i rest e)
  | c :: cs, i, n => if 48 ≤ c.toNat ∧ c.toNat ≤ 57 then (if 65536 < 10 * n + (c.toNat - 48) ∨ (typed = decide (10 * n + (c.toNat - 48) = 0)) ∨ (typed = false ∧ 0 < i) then (0, rest, failR e 180) else sizG typed rest e cs (i + 1) (10 * n + (c.toNat - 48))) else (n, lineR i rest e)
def sizR (typed : Bool) (rest : List UInt8) (e : Int) : Nat × List UInt8 × Int := sizG typed rest e rest 0 0
theorem sizG_step (typed : Bool) (rest : List UInt8) (e : Int) {S : ByteArray} {k : Nat} (h : k < S.size) (i n : Nat) : sizG typed rest e (S.data.toList.drop k) i n = if 48 ≤ byteAt S k ∧ byteAt S k ≤ 57 then (if 65536 < 10 * n + (byteAt S k - 48) ∨ (typed = decide (10 * n + (byteAt S k - 48) = 0)) ∨ (typed = false ∧ 0 < i) then (0, rest, failR e 180) else sizG typed rest e (S.data.toList.drop (k + 1)) (i + 1) (10 * n + (byteAt S k - 48))) else (n, lineR i rest e) := by
  rw [byteAt_drop h, sizG, UInt8.toNat_ofNat_of_lt' (byteAt_lt S k)]
set_option maxRecDepth 20000 in
set_option maxHeartbeats 8000000 in
theorem size_any (b : Nat) (typed : Bool) (S : ByteArray) (e : Int) (w : World) (h : RIs w b S e) (hs : S.size ≤ 140737488355328) :
    Calls Tryd.prog 35 #[.pointer (some ⟨b, 0, none⟩), .bool typed] w fun r w' => r = .returned (.int .i64 ((sizR typed S.data.toList e).1 : Nat)) ∧ RIs w' b (mkB (sizR typed S.data.toList e).2.1) (sizR typed S.data.toList e).2.2 ∧ Keeps (fun k => k = b) w w' := by
  have HI : Hid (RIs w b S e) := h
  have h0 := h.c0
  have HLS : Hid (mkB S.data.toList = S) := list_mkB S
  have HL : Hid (S.data.toList.length = S.size) := size_list S
  have HF : Hid (∀ W : World, RIs W b S e → _) := fun W q => fail_any b S e 180 W q
  have HN : Hid (∀ (n : Nat) (W : World), n ≤ S.size → RIs W b S e → _) := fun n W q1 q2 => line_any b n S e W q2 q1
  have HST : Hid (∀ (k i n : Nat), k < S.size → _) := fun k i n hk => sizG_step typed S.data.toList e (S := S) hk i n
  have HEND : Hid (∀ (i n : Nat), sizG typed S.data.toList e [] i n = (n, lineR i S.data.toList e)) := fun _ _ => rfl
  obtain ⟨R, hR⟩ : ∃ R, sizR typed S.data.toList e = R := ⟨_, rfl⟩
  have HR : Hid (sizG typed S.data.toList e (S.data.toList.drop 0) 0 0 = R) := by rw [Hid, List.drop_zero]; exact hR
  rw [hR]
  clear hR h
  go_enter Tryd.func35, Tryd.ntmps35
  go_wp2_with fail
  go_loopw [5, 6] (fun x i wr => ∃ k n : Nat, k ≤ S.size ∧ n ≤ 65536 ∧ i = .int .i64 (k : Nat) ∧ x = .int .i64 (n : Nat) ∧ wr = w ∧ Hid (sizG typed S.data.toList e (S.data.toList.drop k) k n = R)) (fun _ i _ => S.size - (intOf i).toNat)
  case atStart => exact ⟨0, 0, by omega, by omega, rfl, rfl, rfl, HR.out⟩
  case round =>
    obtain ⟨k, n, hk, hn, rfl, rfl, rfl, HE⟩ := hrel
    have fin : Hid ((n, lineR k S.data.toList e) = R → Calls Tryd.prog 49 #[.pointer (some ⟨b, 0, none⟩), .int .i64 (k : Nat)] wr fun r w' => (∃ s, r = .returned (.string s)) ∧ RIs w' b (mkB R.2.1) R.2.2 ∧ Keeps (fun k => k = b) wr w') := fun q => by
      refine (HN.out k wr hk HI.out).mono ?_
      rintro r w' ⟨rfl, r1, r2⟩
      rw [← q]
      exact ⟨⟨_, rfl⟩, r1, r2⟩
    by_cases hlt : k < S.size
    · have r0 := fun W => run_byte S (i := k) (z := (k : Int)) rfl hlt W
      have hnx := HST.out k k n hlt
      have hxb := byteAt_lt S k
      obtain ⟨x, hx⟩ : ∃ x, byteAt S k = x := ⟨_, rfl⟩
      rw [hx] at r0 hnx hxb
      have hlz : (k : Int) < (S.size : Int) := by omega
      have HNX : Hid _ := hnx
      clear hx hnx
      by_cases g1 : 48 ≤ x
      · have g1z : (48 : Int) ≤ (x : Int) := by omega
        by_cases g2 : x ≤ 57
        · have g2z : (x : Int) ≤ 57 := by omega
          obtain ⟨m, hm⟩ : ∃ m : Nat, 10 * n + (x - 48) = m := ⟨_, rfl⟩
          have HNY : Hid (R = if 65536 < m ∨ (typed = decide (m = 0)) ∨ (typed = false ∧ 0 < k) then (0, S.data.toList, failR e 180) else sizG typed S.data.toList e (S.data.toList.drop (k + 1)) (k + 1) m) := by
            rw [Hid, ← HE.out, HNX.out, if_pos ⟨g1, g2⟩, hm]
          have mz : (10 : Int) * (n : Int) + ((x : Int) - 48) = (m : Int) := by omega
          have hmb : m < 700000 := by omega
          have HMB : Hid _ := hmb
          clear hm HNX
          by_cases g3 : 65536 < m
          · have g3z : (65536 : Int) < (m : Int) := by omega
            have HQ : Hid (R = (0, S.data.toList, failR e 180)) := by rw [Hid, HNY.out, if_pos (by exact Or.inl g3)]
            go_wp2_with (go_at_call 48; refine (HF.out _ HI.out).mono ?_; rintro r w' ⟨rfl, q1, q2⟩)
            go_ret
            exact ⟨by rw [HQ.out]; rfl, by rw [HQ.out]; show RIs _ _ (mkB S.data.toList) _; rw [HLS.out]; exact q1, q2⟩
          · have g3z : ¬ (65536 : Int) < (m : Int) := by omega
            cases typed with
            | true =>
              by_cases g4 : m = 0
              · have g4z : ((m : Int) == 0) = true := by rw [g4]; rfl
                have HQ : Hid (R = (0, S.data.toList, failR e 180)) := by rw [Hid, HNY.out, if_pos (by simp [g4])]
                go_wp2_with (go_at_call 48; refine (HF.out _ HI.out).mono ?_; rintro r w' ⟨rfl, q1, q2⟩)
                go_ret
                exact ⟨by rw [HQ.out]; rfl, by rw [HQ.out]; show RIs _ _ (mkB S.data.toList) _; rw [HLS.out]; exact q1, q2⟩
              · have g4z : ((m : Int) == 0) = false := beq_eq_false_iff_ne.2 (by omega)
                have HQ : Hid (sizG true S.data.toList e (S.data.toList.drop (k + 1)) (k + 1) m = R) := by rw [Hid, HNY.out, if_neg (by simp [g4]; omega)]
                go_wp2_with fail
                go_roundw
                case rel => exact ⟨k + 1, m, by omega, by omega, by go_num, by first | rfl | go_num, by first | rfl | trivial, HQ.out⟩
                case measure => simp [intOf]; omega
            | false =>
              by_cases g4 : m = 0
              · have g4z : ((m : Int) == 0) = true := by rw [g4]; rfl
                by_cases g5 : 0 < k
                · have g5z : (0 : Int) < (k : Int) := by omega
                  have HQ : Hid (R = (0, S.data.toList, failR e 180)) := by rw [Hid, HNY.out, if_pos (by exact Or.inr (Or.inr ⟨rfl, g5⟩))]
                  go_wp2_with (go_at_call 48; refine (HF.out _ HI.out).mono ?_; rintro r w' ⟨rfl, q1, q2⟩)
                  go_ret
                  exact ⟨by rw [HQ.out]; rfl, by rw [HQ.out]; show RIs _ _ (mkB S.data.toList) _; rw [HLS.out]; exact q1, q2⟩
                · have g5z : ¬ (0 : Int) < (k : Int) := by omega
                  have HQ : Hid (sizG false S.data.toList e (S.data.toList.drop (k + 1)) (k + 1) m = R) := by rw [Hid, HNY.out, if_neg (by simp [g4]; omega)]
                  go_wp2_with fail
                  go_roundw
                  case rel => exact ⟨k + 1, m, by omega, by omega, by go_num, by first | rfl | go_num, by first | rfl | trivial, HQ.out⟩
                  case measure => simp [intOf]; omega
              · have g4z : ((m : Int) == 0) = false := beq_eq_false_iff_ne.2 (by omega)
                have HQ : Hid (R = (0, S.data.toList, failR e 180)) := by rw [Hid, HNY.out, if_pos (by exact Or.inr (Or.inl (by simp [g4])))]
                go_wp2_with (go_at_call 48; refine (HF.out _ HI.out).mono ?_; rintro r w' ⟨rfl, q1, q2⟩)
                go_ret
                exact ⟨by rw [HQ.out]; rfl, by rw [HQ.out]; show RIs _ _ (mkB S.data.toList) _; rw [HLS.out]; exact q1, q2⟩
        · have g2z : ¬ (x : Int) ≤ 57 := by omega
          have HQ : Hid ((n, lineR k S.data.toList e) = R) := by rw [Hid, ← HE.out, HNX.out, if_neg (by omega)]
          go_wp2_with (go_at_call 49; refine (fin.out HQ.out).mono ?_; rintro r w' ⟨⟨s, rfl⟩, q1, q2⟩)
          go_ret
          exact ⟨by rw [← HQ.out]; rfl, q1, q2⟩
      · have g1z : ¬ (48 : Int) ≤ (x : Int) := by omega
        have HQ : Hid ((n, lineR k S.data.toList e) = R) := by rw [Hid, ← HE.out, HNX.out, if_neg (by omega)]
        go_wp2_with (go_at_call 49; refine (fin.out HQ.out).mono ?_; rintro r w' ⟨⟨s, rfl⟩, q1, q2⟩)
        go_ret
        exact ⟨by rw [← HQ.out]; rfl, q1, q2⟩
    · have hlz : ¬ (k : Int) < (S.size : Int) := by omega
      have HQ : Hid ((n, lineR k S.data.toList e) = R) := by rw [Hid, ← HE.out, List.drop_of_length_le (by rw [HL.out]; omega), HEND.out]
      go_wp2_with (go_at_call 49; refine (fin.out HQ.out).mono ?_; rintro r w' ⟨⟨s, rfl⟩, q1, q2⟩)
      go_ret
      exact ⟨by rw [← HQ.out]; rfl, q1, q2⟩
end Go.Proofs.YtdkbgbhcnbmlfaaDoor
