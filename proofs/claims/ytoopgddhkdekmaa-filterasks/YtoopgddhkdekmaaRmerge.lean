/-
  Merge where there is none, and the contract of its twin.
-/
import Derived.Test.YtoopgddhkdekmaaTwin
import Derived.Test.YtoopgddhkdekmaaMerge
import Derived.LoopTactic
import Derived.RegionTactic
import Derived.BigRegion
import Derived.BigQuiet
import Derived.Deep.RegionWith
namespace Go.Proofs.Ytoopgddhkdekmaa
open Go.RowKit
theorem check_at {bs : List UInt8} {e : Int} (he : checkErr bs = e) {w : World} {a : Option Addr} (ca : Nat) (h : BytesAt w a bs) (hl : bs.length ≤ 140737488355328) (W : World) (k : Below w.heap.size w W) :
    Calls Try.prog 17 #[.slice a bs.length ca] W fun r w' => r = .returned (.int .i64 e) ∧ w' = W := by
  have := check_any a ca bs W (h.below (Nat.le_refl _) k) hl
  rw [he] at this
  exact this
theorem rcheck_at {bs : List UInt8} {e : Int} (he : checkErr bs = e) {w : World} {a : Option Addr} (ca : Nat) (h : BytesAt w a bs) (hl : bs.length ≤ 140737488355328) (W : World) (k : Below w.heap.size w W) :
    Calls Try.prog 18 #[.slice a bs.length ca] W fun r w' => r = .returned (.int .i64 e) ∧ w' = W := by
  have := rcheck_any a ca bs W (h.below (Nat.le_refl _) k) hl
  rw [he] at this
  exact this
theorem merr_cases {es bs : List UInt8} (h : mergeErr es bs = false) : checkErr es = 70 ∨ (checkErr es = 0 ∧ checkErr bs = 70) ∨ (checkErr es = 0 ∧ checkErr bs = 0 ∧ isF es = true ∧ isF bs = true ∧ alikeB es bs = false) := by
  unfold mergeErr at h
  unfold checkErr
  cases h1 : isF es <;> cases h2 : isF bs <;> cases h3 : alikeB es bs <;> simp [h1, h2, h3] at h ⊢
theorem OR.drew {w W : World} {g n cap : Nat} {bs : List UInt8} (h : OR w W g n cap bs) : OR w W.drew g n cap bs := ⟨h.row, h.len, h.bel.drew⟩
theorem belD (w : World) (q : Nat) : Below w.heap.size w (w.drewN q) := ⟨rfl, rfl, rfl, Nat.le_refl _, fun _ _ => rfl⟩
set_option maxRecDepth 100000 in
set_option maxHeartbeats 4000000 in
theorem merge_bad (a b : Option Addr) (ca cb : Nat) (es bs : List UInt8) (w : World) (ha : BytesAt w a es) (hb : BytesAt w b bs) (hla : es.length ≤ 140737488355328) (hlb : bs.length ≤ 140737488355328) (hbad : mergeErr es bs = false) :
    Calls Try.prog 19 #[.slice a es.length ca, .slice b bs.length cb] w fun r w' => r = .returned (.tuple #[.slice none 0 0, .int .i64 70]) ∧ ∃ n, w' = w.drewN n := by
  rcases merr_cases hbad with e1 | ⟨e1, e2⟩ | ⟨e1, e2, f1, f2, e3⟩
  · have HC1 : Hid _ := check_at e1 ca ha hla
    clear hbad e1
    go_enter Try.func19, Try.ntmps19
    go_wp2_with fail
    refine (HC1.out _ (Below.refl _ _)).mono ?_
    rintro e w1 ⟨rfl, hw⟩
    subst hw
    go_wp2_with fail
    go_ret2
    exact ⟨rfl, 0, rfl⟩
  · have HC1 : Hid _ := check_at e1 ca ha hla
    have HC2 : Hid _ := check_at e2 cb hb hlb
    clear hbad e1 e2
    go_enter Try.func19, Try.ntmps19
    go_wp2_with fail
    refine (HC1.out _ (Below.refl _ _)).mono ?_
    rintro e w1 ⟨rfl, hw⟩
    subst hw
    go_wp2_with fail
    refine (HC2.out _ (Below.refl _ _)).mono ?_
    rintro e w1 ⟨rfl, hw⟩
    subst hw
    go_wp2_with fail
    go_ret2
    exact ⟨rfl, 0, rfl⟩
  · have HC1 : Hid _ := check_at e1 ca ha hla
    have HC2 : Hid _ := check_at e2 cb hb hlb
    have HAL : Hid _ := alike_any a b ca cb es bs w ha hb hla (by have := (isF_facts f1).1; omega) (by have := (isF_facts f2).1; omega)
    rw [e3] at HAL
    clear hbad e1 e2 f1 f2 e3
    go_enter Try.func19, Try.ntmps19
    go_wp2_with fail
    refine (HC1.out _ (Below.refl _ _)).mono ?_
    rintro e w1 ⟨rfl, hw⟩
    subst hw
    go_wp2_with fail
    refine (HC2.out _ (Below.refl _ _)).mono ?_
    rintro e w1 ⟨rfl, hw⟩
    subst hw
    go_wp2_with fail
    refine Calls.mono HAL.out ?_
    rintro e w3 ⟨rfl, q, rfl⟩
    go_wp2_with fail
    go_ret2
    exact ⟨rfl, q, rfl⟩
set_option maxRecDepth 100000 in
set_option maxHeartbeats 4000000 in
theorem rmerge_bad (a b : Option Addr) (ca cb : Nat) (es bs : List UInt8) (w : World) (ha : BytesAt w a es) (hb : BytesAt w b bs) (hla : es.length ≤ 140737488355328) (hlb : bs.length ≤ 140737488355328) (hbad : mergeErr es bs = false) :
    Calls Try.prog 20 #[.slice a es.length ca, .slice b bs.length cb] w fun r w' => r = .returned (.tuple #[.slice none 0 0, .int .i64 70]) ∧ ∃ n, w' = w.drewN n := by
  rcases merr_cases hbad with e1 | ⟨e1, e2⟩ | ⟨e1, e2, f1, f2, e3⟩
  · have HC1 : Hid _ := rcheck_at e1 ca ha hla
    clear hbad e1
    go_enter Try.func20, Try.ntmps20
    go_wp2_with fail
    go_quiet ((go_at_call 18; exact Calls.quiet_of_same (HC1.out _ (belD _ _))))
    go_wp2_with fail
    go_ret2
    exact ⟨rfl, nq, rfl⟩
  · have HC1 : Hid _ := rcheck_at e1 ca ha hla
    have HC2 : Hid _ := rcheck_at e2 cb hb hlb
    clear hbad e1 e2
    go_enter Try.func20, Try.ntmps20
    go_wp2_with fail
    go_quiet (first | (go_at_call_of 18 (Value.slice a es.length ca); exact Calls.quiet_of_same (HC1.out _ (belD _ _))) | (go_at_call_of 18 (Value.slice b bs.length cb); exact Calls.quiet_of_same (HC2.out _ (belD _ _))))
    go_wp2_with fail
    go_ret2
    exact ⟨rfl, nq, rfl⟩
  · have HC1 : Hid _ := rcheck_at e1 ca ha hla
    have HC2 : Hid _ := rcheck_at e2 cb hb hlb
    have h1 := (isF_facts f1).1
    have h2 := (isF_facts f2).1
    obtain ⟨p, op, rfl, _, x0⟩ := ha (es.length - 1) _ (getD_at (by omega))
    obtain ⟨q, oq, rfl, _, y0⟩ := hb (bs.length - 1) _ (getD_at (by omega))
    have he := u8_beq (es.getD (es.length - 1) 0) (bs.getD (bs.length - 1) 0)
    rw [last_eq] at he
    unfold alikeB at e3
    by_cases hl : es.length = bs.length
    · have hd : ((es.length : Int) == (bs.length : Int)) = true := by rw [hl]; simp
      rw [decide_eq_true hl, Bool.true_and] at e3
      rw [e3] at he
      obtain ⟨m, hm⟩ : ∃ m, bs.length = m + 1 := ⟨bs.length - 1, by omega⟩
      obtain ⟨n, hn⟩ : ∃ n, es.length = n + 1 := ⟨es.length - 1, by omega⟩
      rw [hn, Nat.add_sub_cancel] at x0
      rw [hm, Nat.add_sub_cancel] at y0
      rw [hn, hm, Nat.add_sub_cancel, Nat.add_sub_cancel] at he
      rw [hn] at hla HC1
      rw [hm] at hlb HC2
      rw [hn, hm]
      obtain rfl : n = m := by omega
      obtain ⟨x, hx⟩ : ∃ x, (es.getD n 0).toNat = x := ⟨_, rfl⟩
      obtain ⟨y, hy⟩ : ∃ y, (bs.getD n 0).toNat = y := ⟨_, rfl⟩
      rw [hx] at x0 he
      rw [hy] at y0 he
      clear hd hl hx hy hn hm h1 h2 e1 e2 f1 f2 e3 hbad ha hb
      have hd : (((n + 1 : Nat) : Int) != ((n + 1 : Nat) : Int)) = false := by simp
      have hd2 : ((n : Int) + 1 != (n : Int) + 1) = false := by simp
      have he2 : ((x : Int) != (y : Int)) = true := by rw [bne, he]; rfl
      clear he
      go_enter Try.func20, Try.ntmps20
      go_wp2_with fail
      go_quiet (first | (go_at_call_of 18 (Addr.mk p op none); exact Calls.quiet_of_same (HC1.out _ (belD _ _))) | (go_at_call_of 18 (Addr.mk q oq none); exact Calls.quiet_of_same (HC2.out _ (belD _ _))))
      go_wp2_with fail
      go_ret2
      exact ⟨rfl, nq, rfl⟩
    · have hd : ((es.length : Int) != (bs.length : Int)) = true := by simp; omega
      clear he x0 y0 hl h1 h2 e1 e2 f1 f2 e3 hbad ha hb
      go_enter Try.func20, Try.ntmps20
      go_wp2_with fail
      go_quiet (first | (go_at_call_of 18 (Value.slice (some ⟨p, op, none⟩) es.length ca); exact Calls.quiet_of_same (HC1.out _ (belD _ _))) | (go_at_call_of 18 (Value.slice (some ⟨q, oq, none⟩) bs.length cb); exact Calls.quiet_of_same (HC2.out _ (belD _ _))))
      go_wp2_with fail
      go_ret2
      exact ⟨rfl, nq, rfl⟩
set_option maxRecDepth 100000 in
set_option maxHeartbeats 4000000 in
theorem rmerge_ok (a b : Option Addr) (ca cb : Nat) (es bs : List UInt8) (w : World) (ha : BytesAt w a es) (hb : BytesAt w b bs) (hla : es.length ≤ 140737488355328) (hlb : bs.length ≤ 140737488355328) (hok : mergeErr es bs = true) :
    Calls Try.prog 20 #[.slice a es.length ca, .slice b bs.length cb] w fun r w' => ∃ g cap, r = .returned (.tuple #[.slice (some ⟨g, 0, none⟩) es.length cap, .int .i64 0]) ∧ es.length ≤ cap ∧ OR w w' g es.length cap (orL es bs) := by
  simp only [mergeErr, Bool.and_eq_true] at hok
  obtain ⟨⟨f1, f2⟩, hal⟩ := hok
  have HC1 : Hid _ := rcheck_at (show checkErr es = 0 by simp [checkErr, f1]) ca ha hla
  have HC2 : Hid _ := rcheck_at (show checkErr bs = 0 by simp [checkErr, f2]) cb hb hlb
  have h1 := (isF_facts f1).1
  have h2 := (isF_facts f2).1
  obtain ⟨i0, hi, hz0, hz1, hz2⟩ := info_parts info5
  obtain ⟨p, op, rfl, hpb, x0⟩ := ha (es.length - 1) _ (getD_at (by omega))
  obtain ⟨q, oq, rfl, hqb, y0⟩ := hb (bs.length - 1) _ (getD_at (by omega))
  have he := u8_beq (es.getD (es.length - 1) 0) (bs.getD (bs.length - 1) 0)
  rw [last_eq] at he
  simp only [alikeB, Bool.and_eq_true] at hal
  have hl : es.length = bs.length := by simpa using hal.1
  rw [hal.2] at he
  have HB : Hid _ := hb
  have HLN : Hid _ := hl
  have hcs : ∀ W, Below w.heap.size w W → ∀ j u, (bl es)[j]? = some u → W.cell? ((⟨p, op, none⟩ : Addr).add j) = some u := fun W k j u hu => cells_of_bytes (ha.below (Nat.le_refl _) k) j u hu
  have HCS : Hid _ := hcs
  have HL : Hid ((bl es).length = es.length * 1) := by rw [Hid, bl_len, Nat.mul_one]
  obtain ⟨m, hm⟩ : ∃ m, bs.length = m + 1 := ⟨bs.length - 1, by omega⟩
  obtain ⟨n, hn⟩ : ∃ n, es.length = n + 1 := ⟨es.length - 1, by omega⟩
  rw [hn, Nat.add_sub_cancel] at x0
  rw [hm, Nat.add_sub_cancel] at y0
  rw [hn, hm, Nat.add_sub_cancel, Nat.add_sub_cancel] at he
  rw [hn] at hla HC1 HL
  rw [hm] at hlb HC2
  have HN : Hid _ := hn
  have HM : Hid _ := hm
  rw [hn, hm]
  obtain rfl : n = m := by omega
  obtain ⟨x, hx⟩ : ∃ x, (es.getD n 0).toNat = x := ⟨_, rfl⟩
  obtain ⟨y, hy⟩ : ∃ y, (bs.getD n 0).toNat = y := ⟨_, rfl⟩
  rw [hx] at x0 he
  rw [hy] at y0 he
  clear hl hx hy hn hm h1 h2 f1 f2 hal ha hb hcs
  have hd : (((n + 1 : Nat) : Int) != ((n + 1 : Nat) : Int)) = false := by simp
  have hd2 : ((n : Int) + 1 != (n : Int) + 1) = false := by simp
  have he2 : ((x : Int) != (y : Int)) = false := by rw [bne, he]; rfl
  clear he
  go_enter Try.func20, Try.ntmps20
  go_wp2_with fail
  go_quiet (first | (go_at_call_of 18 (Addr.mk p op none); exact Calls.quiet_of_same (HC1.out _ (belD _ _))) | (go_at_call_of 18 (Addr.mk q oq none); exact Calls.quiet_of_same (HC2.out _ (belD _ _))))
  have B1 := belD w nq
  have hsz : (w.drewN nq).heap.size = w.heap.size := rfl
  generalize w.drewN nq = w1 at *
  have HSZ : Hid _ := hsz
  clear hsz
  have er := empty_row5 w1
  clear x0 y0 he2 hd hd2
  go_wp2_with (at_builtin; refine wpList_append_own _ rfl (.tmp 38) (.tmp 39) 24 rfl w1.heap.size 5 i0 (.int .u8 0) 1 1 Try.underlying24 hi hz0 hz1 hz2 rfl (by decide) _ _ _ rfl er ⟨p, op, none⟩ (n + 1) ca (bl es) rfl HL.out (HCS.out _ (B1.alloc B1.size _)) (bl_one _) (by unfold maxLen; omega) (by omega) (by simp) ?_)
  intro v2 w2 hown2 hg2 hnn
  try simp only [List.nil_append, Nat.zero_add] at hown2
  have hB : Below w.heap.size w w2 := (B1.alloc B1.size _).grown hg2 (by simp; have := B1.size; omega) (fun i hi => by have := (er.lt i hi).1; have := B1.size; omega)
  rcases hown2.2 with ⟨rfl, _⟩ | ⟨g, cap, cur, rfl, hgB, _, hc1, _⟩
  · exfalso
    revert hnn
    simp
  · have hO4 : OR w w2 g (n + 1) cap es := ⟨by rw [HSZ.out] at hown2; exact hown2, HN.out, hB⟩
    clear hown2 hg2 er hnn hgB hB
    go_wp2_with fail
    go_loopw [7] (fun i wr => ∃ j : Nat, j ≤ n + 1 ∧ i = .int .i64 j ∧ OR w wr g (n + 1) cap (orTo es bs j)) (fun i _ => n + 1 - (intOf i).toNat)
    case atStart => exact ⟨0, by omega, rfl, by simpa [orTo, orL] using hO4⟩
    case round =>
      obtain ⟨j, hj, rfl, hR⟩ := hrel
      clear hO4
      by_cases hlt : j < n + 1
      · obtain ⟨b', off, e0, hb', hc⟩ := HB.out j _ (getD_at (by rw [HM.out]; exact hlt))
        simp only [Option.some.injEq, Addr.mk.injEq] at e0
        obtain ⟨rfl, rfl, _⟩ := e0
        replace hc := (hR.bel.cell (p := ⟨q, oq + j, none⟩) hb').trans hc
        have hr := hR.cell hlt
        have hf := hR.free j
        rw [orTo_at HLN.out (by rw [HN.out]; exact hlt)] at hr
        have hxl : (es.getD j 0).toNat < 256 := UInt8.toNat_lt _
        have hyl : (bs.getD j 0).toNat < 256 := UInt8.toNat_lt _
        have hor := u8_or_nat _ _ hxl hyl
        have hol : (es.getD j 0).toNat ||| (bs.getD j 0).toNat < 256 := Nat.or_lt_two_pow (n := 8) hxl hyl
        have HS : Hid _ := (hR.set j (UInt8.ofNat ((es.getD j 0).toNat ||| (bs.getD j 0).toNat)))
        rw [orTo_next HLN.out (by rw [HN.out]; exact hlt)] at HS
        obtain ⟨x, hx⟩ : ∃ x, (es.getD j 0).toNat = x := ⟨_, rfl⟩
        obtain ⟨y, hy⟩ : ∃ y, (bs.getD j 0).toNat = y := ⟨_, rfl⟩
        rw [hx] at hr hor hxl hol HS
        rw [hy] at hc hor hyl hol HS
        obtain ⟨z, hz⟩ : ∃ z, x ||| y = z := ⟨_, rfl⟩
        rw [hz] at hor hol HS
        rw [show ((UInt8.ofNat z).toNat : Int) = (z : Int) from by have : (UInt8.ofNat z).toNat = z := (by simp; omega); omega] at HS
        have hltI : (j : Int) < (n : Int) + 1 := by omega
        clear hx hy hz hR
        go_wp2_with fail
        go_region
        all_goals go_wp2_with fail
        all_goals exact ⟨⟨j + 1, by omega, by go_num, HS.out.drew⟩, by simp [intOf]; omega⟩
      · obtain rfl : j = n + 1 := by omega
        have HE : Hid (orTo es bs (n + 1) = orL es bs) := by rw [Hid, ← HN.out]; exact orTo_all HLN.out
        rw [HE.out] at hR
        go_wp2_with fail
        go_ret2
        exact ⟨g, cap, rfl, hc1, hR⟩
end Go.Proofs.Ytoopgddhkdekmaa
