/-
  The contract of the twin's Check; the walk of ReplyApart.
-/
import Derived.Test.YtdkbgbhcnbmlfaaDoorAwk
import Derived.Deep.Cut
namespace Go.Proofs.YtdkbgbhcnbmlfaaDoor
open Go.RowKit
theorem wd_some : ∀ l : List (Int × ByteArray), (l.all fun x => !x.2.data.toList.isEmpty) = true → ∀ z : Int, ((phF l z).getD ⟨#[]⟩).data.toList.isEmpty = !(phF l z).isSome
  | [], _, z => rfl
  | (k, s) :: r, h, z => by
    rw [List.all_cons, Bool.and_eq_true] at h
    rw [phF]
    by_cases e : z = k
    · rw [if_pos e]
      have := h.1
      simp only [Bool.not_eq_true'] at this
      exact this
    · rw [if_neg e]
      exact wd_some r h.2 z
theorem wd_empty (z : Int) : (wordsR z).toList.isEmpty = !(phF phL z).isSome := by
  rw [ByteArray.toList_eq]
  exact wd_some phL (by decide +kernel) z
set_option maxRecDepth 20000 in
set_option maxHeartbeats 16000000 in
theorem qcheck_any (r : Rp) (hz : rpZ r) (w : World) : Calls Tryd.prog 11 #[rpV r] w fun e w' => e = .returned (.int .i64 (chkR r)) ∧ Below w.heap.size w w' := by
  obtain ⟨z0, z1, z2, z3⟩ := hz
  have H1 : Hid (∀ W : World, _) := fun W => qwords_any r.status W
  have HWE := wd_empty r.status
  have HR : Hid (chkR r = if ((phF phL r.status).isSome && decide (r.body.length ≤ 65536) && !(decide (r.status = 204) && !r.body.isEmpty) && decide (r.cookie.length ≤ 256) && decide (inC r.cookie = r.cookie.length)) = true then 0 else 180) := rfl
  obtain ⟨W0, hW0⟩ : ∃ W0, w.alloc (.cells (rpA r) 23) = W0 := ⟨_, rfl⟩
  have HB0 : Hid (Below w.heap.size w W0) := by rw [Hid, ← hW0]; exact (Below.refl _ _).alloc (Nat.le_refl _) _
  have HX0 : Hid (RpB W0 w.heap.size r) := by rw [Hid, ← hW0]; exact block_alloc_at _ _
  obtain ⟨c0, c1, c2, c3⟩ := HX0.out.cells
  have hil := inC_le r.cookie
  unfold rpA at hW0
  obtain ⟨st, bd0, ck0, cl⟩ := r
  simp only at HR H1 hil z0 z1 z2 z3 hW0 HWE c0 c1 c2 c3
  have hb1 := mkB_size bd0
  have hb2 := mkB_empty bd0
  have hc1 := mkB_size ck0
  have HCL : Hid ((mkB ck0).data.toList = ck0) := mkB_list _
  obtain ⟨bd, hbd⟩ : ∃ bd, mkB bd0 = bd := ⟨_, rfl⟩
  obtain ⟨ck, hck⟩ : ∃ ck, mkB ck0 = ck := ⟨_, rfl⟩
  rw [hbd] at hb1 hb2 hW0 c1
  rw [hck] at hc1 hW0 c2 HCL
  have HC0 : Hid (inC ck0 = 0 + inC (ck.data.toList.drop 0)) := by rw [Hid, HCL.out, List.drop_zero, Nat.zero_add]
  have HLL : Hid (ck.data.toList.length = ck.size) := size_list _
  obtain ⟨n, hn⟩ : ∃ n, inC ck0 = n := ⟨_, rfl⟩
  rw [hn] at HR hil HC0
  rw [← hb1] at HR z2
  rw [← hb2] at HR
  rw [← hc1] at HR hil z3
  obtain ⟨is, his⟩ : ∃ is, (phF phL st).isSome = is := ⟨_, rfl⟩
  rw [his] at HR HWE
  obtain ⟨em, hem⟩ : ∃ em, bd.toList.isEmpty = em := ⟨_, rfl⟩
  rw [hem] at HR
  obtain ⟨T, hT⟩ : ∃ T, chkR ⟨st, bd0, ck0, cl⟩ = T := ⟨_, rfl⟩
  rw [hT] at HR ⊢
  obtain ⟨wd, hwd⟩ : ∃ wd, wordsR st = wd := ⟨_, rfl⟩
  rw [hwd] at H1 HWE
  show Calls _ _ #[.agg #[.int .i64 st, .string (mkB bd0), .string (mkB ck0), .bool cl]] _ _
  rw [hbd, hck]
  clear hbd hck hn his hT hwd hb1 hb2 hc1
  cases is with
  | false =>
    have hwe : wd.toList.isEmpty = true := HWE
    have HT : Hid (T = 180) := by rw [Hid, HR.out, if_neg (by simp)]
    go_enter Tryd.func11, Tryd.ntmps11
    go_wp2_with fail
    try rw [hW0]
    refine (H1.out _).mono ?_
    rintro e w1 ⟨rfl, rfl⟩
    go_wp2_with fail
    go_ret
    exact ⟨by rw [HT.out]; rfl, HB0.out⟩
  | true =>
    have hwe : wd.toList.isEmpty = false := HWE
    by_cases g1 : bd.size ≤ 65536
    · have g1z : ¬ (65536 : Int) < (bd.size : Int) := by omega
      rcases Classical.em (st = 204 ∧ em = false) with g2 | g2
      · obtain ⟨rfl, rfl⟩ := g2
        have HT : Hid (T = 180) := by rw [Hid, HR.out, if_neg (by simp)]
        go_enter Tryd.func11, Tryd.ntmps11
        go_wp2_with fail
        try rw [hW0]
        refine (H1.out _).mono ?_
        rintro e w1 ⟨rfl, rfl⟩
        go_wp2_with fail
        go_ret
        exact ⟨by rw [HT.out]; rfl, HB0.out⟩
      · have HG2 : Hid ((!(decide (st = 204) && !em)) = true) := by rw [Hid]; cases em <;> simp_all
        by_cases g3 : ck.size ≤ 256
        · have g3z : ¬ (256 : Int) < (ck.size : Int) := by omega
          by_cases g5 : st = 204
          · subst g5
            obtain rfl : em = true := by cases em with | true => rfl | false => exact absurd ⟨rfl, rfl⟩ g2
            go_enter Tryd.func11, Tryd.ntmps11
            go_wp2_with fail
            try rw [hW0]
            refine (H1.out _).mono ?_
            rintro e w1 ⟨rfl, hw1⟩
            rw [hw1]
            clear hw1 w1 hW0
            go_wp2_with fail
            go_loopw [3] (fun i wr => ∃ k : Nat, k ≤ ck.size ∧ i = .int .i64 k ∧ Hid (n = k + inC (ck.data.toList.drop k)) ∧ wr = W0) (fun i _ => ck.size - (intOf i).toNat)
            case atStart => exact ⟨0, by omega, rfl, HC0.out, rfl⟩
            case round =>
              obtain ⟨k, hk, rfl, HN, rfl⟩ := hrel
              by_cases hlt : k < ck.size
              · have r0 := fun W => run_byte ck (i := k) (z := (k : Int)) rfl hlt W
                have hnx : inC (ck.data.toList.drop k) = if prB (byteAt ck k) = true then inC (ck.data.toList.drop (k + 1)) + 1 else 0 := by
                  rw [byteAt_drop hlt, inC, UInt8.toNat_ofNat_of_lt' (byteAt_lt ck k)]
                obtain ⟨x, hx⟩ : ∃ x, byteAt ck k = x := ⟨_, rfl⟩
                rw [hx] at r0 hnx
                have HNX : Hid _ := hnx
                have hlz : (k : Int) < (ck.size : Int) := by omega
                clear hx hnx
                by_cases h1 : 32 ≤ x
                · have h1z : ¬ (x : Int) < 32 := by omega
                  by_cases h2 : x ≤ 126
                  · have h2z : ¬ (126 : Int) < (x : Int) := by omega
                    have HQ : Hid (n = k + 1 + inC (ck.data.toList.drop (k + 1))) := by rw [Hid, HN.out, HNX.out, if_pos (by simp [prB]; omega)]; omega
                    go_wp2_with fail
                    go_roundw
                    case rel => exact ⟨k + 1, by omega, by go_num, HQ.out, by first | rfl | trivial⟩
                    case measure => simp [intOf]; omega
                  · have h2z : (126 : Int) < (x : Int) := by omega
                    have HQ : Hid (n = k) := by rw [Hid, HN.out, HNX.out, if_neg (by simp [prB]; omega)]; omega
                    have HT : Hid (T = 180) := by rw [Hid, HR.out, if_neg (by have := HQ.out; simp; omega)]
                    go_wp2_with fail
                    go_ret
                    exact ⟨by rw [HT.out]; rfl, HB0.out⟩
                · have h1z : (x : Int) < 32 := by omega
                  have HQ : Hid (n = k) := by rw [Hid, HN.out, HNX.out, if_neg (by simp [prB]; omega)]; omega
                  have HT : Hid (T = 180) := by rw [Hid, HR.out, if_neg (by have := HQ.out; simp; omega)]
                  go_wp2_with fail
                  go_ret
                  exact ⟨by rw [HT.out]; rfl, HB0.out⟩
              · obtain rfl : k = ck.size := by omega
                have HQ : Hid (n = ck.size) := by rw [Hid, HN.out, List.drop_of_length_le (by rw [HLL.out]; omega)]; rfl
                have HT : Hid (T = 0) := by rw [Hid, HR.out, HG2.out, if_pos (by have := HQ.out; simp; omega)]
                go_wp2_with fail
                go_ret
                exact ⟨by rw [HT.out]; rfl, HB0.out⟩
          · have g5z : (st == 204) = false := beq_eq_false_iff_ne.2 g5
            go_enter Tryd.func11, Tryd.ntmps11
            go_wp2_with fail
            try rw [hW0]
            refine (H1.out _).mono ?_
            rintro e w1 ⟨rfl, hw1⟩
            rw [hw1]
            clear hw1 w1 hW0
            go_wp2_with fail
            go_loopw [3] (fun i wr => ∃ k : Nat, k ≤ ck.size ∧ i = .int .i64 k ∧ Hid (n = k + inC (ck.data.toList.drop k)) ∧ wr = W0) (fun i _ => ck.size - (intOf i).toNat)
            case atStart => exact ⟨0, by omega, rfl, HC0.out, rfl⟩
            case round =>
              obtain ⟨k, hk, rfl, HN, rfl⟩ := hrel
              by_cases hlt : k < ck.size
              · have r0 := fun W => run_byte ck (i := k) (z := (k : Int)) rfl hlt W
                have hnx : inC (ck.data.toList.drop k) = if prB (byteAt ck k) = true then inC (ck.data.toList.drop (k + 1)) + 1 else 0 := by
                  rw [byteAt_drop hlt, inC, UInt8.toNat_ofNat_of_lt' (byteAt_lt ck k)]
                obtain ⟨x, hx⟩ : ∃ x, byteAt ck k = x := ⟨_, rfl⟩
                rw [hx] at r0 hnx
                have HNX : Hid _ := hnx
                have hlz : (k : Int) < (ck.size : Int) := by omega
                clear hx hnx
                by_cases h1 : 32 ≤ x
                · have h1z : ¬ (x : Int) < 32 := by omega
                  by_cases h2 : x ≤ 126
                  · have h2z : ¬ (126 : Int) < (x : Int) := by omega
                    have HQ : Hid (n = k + 1 + inC (ck.data.toList.drop (k + 1))) := by rw [Hid, HN.out, HNX.out, if_pos (by simp [prB]; omega)]; omega
                    go_wp2_with fail
                    go_roundw
                    case rel => exact ⟨k + 1, by omega, by go_num, HQ.out, by first | rfl | trivial⟩
                    case measure => simp [intOf]; omega
                  · have h2z : (126 : Int) < (x : Int) := by omega
                    have HQ : Hid (n = k) := by rw [Hid, HN.out, HNX.out, if_neg (by simp [prB]; omega)]; omega
                    have HT : Hid (T = 180) := by rw [Hid, HR.out, if_neg (by have := HQ.out; simp; omega)]
                    go_wp2_with fail
                    go_ret
                    exact ⟨by rw [HT.out]; rfl, HB0.out⟩
                · have h1z : (x : Int) < 32 := by omega
                  have HQ : Hid (n = k) := by rw [Hid, HN.out, HNX.out, if_neg (by simp [prB]; omega)]; omega
                  have HT : Hid (T = 180) := by rw [Hid, HR.out, if_neg (by have := HQ.out; simp; omega)]
                  go_wp2_with fail
                  go_ret
                  exact ⟨by rw [HT.out]; rfl, HB0.out⟩
              · obtain rfl : k = ck.size := by omega
                have HQ : Hid (n = ck.size) := by rw [Hid, HN.out, List.drop_of_length_le (by rw [HLL.out]; omega)]; rfl
                have HT : Hid (T = 0) := by rw [Hid, HR.out, HG2.out, if_pos (by have := HQ.out; simp; omega)]
                go_wp2_with fail
                go_ret
                exact ⟨by rw [HT.out]; rfl, HB0.out⟩
        · have g3z : (256 : Int) < (ck.size : Int) := by omega
          have HT : Hid (T = 180) := by rw [Hid, HR.out, if_neg (by simp; omega)]
          by_cases g5 : st = 204
          · subst g5
            obtain rfl : em = true := by cases em with | true => rfl | false => exact absurd ⟨rfl, rfl⟩ g2
            go_enter Tryd.func11, Tryd.ntmps11
            go_wp2_with fail
            try rw [hW0]
            refine (H1.out _).mono ?_
            rintro e w1 ⟨rfl, rfl⟩
            go_wp2_with fail
            go_ret
            exact ⟨by rw [HT.out]; rfl, HB0.out⟩
          · have g5z : (st == 204) = false := beq_eq_false_iff_ne.2 g5
            go_enter Tryd.func11, Tryd.ntmps11
            go_wp2_with fail
            try rw [hW0]
            refine (H1.out _).mono ?_
            rintro e w1 ⟨rfl, rfl⟩
            go_wp2_with fail
            go_ret
            exact ⟨by rw [HT.out]; rfl, HB0.out⟩
    · have g1z : (65536 : Int) < (bd.size : Int) := by omega
      have HT : Hid (T = 180) := by rw [Hid, HR.out, if_neg (by simp; omega)]
      go_enter Tryd.func11, Tryd.ntmps11
      go_wp2_with fail
      try rw [hW0]
      refine (H1.out _).mono ?_
      rintro e w1 ⟨rfl, rfl⟩
      go_wp2_with fail
      go_ret
      exact ⟨by rw [HT.out]; rfl, HB0.out⟩
end Go.Proofs.YtdkbgbhcnbmlfaaDoor
