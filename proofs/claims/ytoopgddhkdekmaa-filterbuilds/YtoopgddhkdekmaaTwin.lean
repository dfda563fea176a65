/-
  The contracts of the twins of Check, Ones and May.
-/
import Derived.Test.YtoopgddhkdekmaaMay
import Derived.Test.YtoopgddhkdekmaaOnes
import Derived.Test.YtoopgddhkdekmaaPlace
import Derived.LoopTactic
namespace Go.Proofs.Ytoopgddhkdekmaa
open Go.RowKit
set_option maxRecDepth 100000 in
set_option maxHeartbeats 1000000 in
theorem rcheck_any (a : Option Addr) (cap : Nat) (bs : List UInt8) (w : World) (h : BytesAt w a bs) (hl : bs.length ≤ 140737488355328) :
    Calls Try.prog 18 #[.slice a bs.length cap] w fun r w' => r = .returned (.int .i64 (checkErr bs)) ∧ w' = w := by
  by_cases h9 : bs.length < 9
  · have HE : Hid (checkErr bs = 70) := by
      have : ¬ 9 ≤ bs.length := by omega
      simp [Hid, checkErr, isF, this]
    rw [HE.out]
    go_enter Try.func18, Try.ntmps18
    go_wp2
    go_ret
    exact ⟨rfl, rfl⟩
  · obtain ⟨b, off, rfl, _, hc⟩ := h (bs.length - 1) _ (getD_at (by omega))
    have hlb : (bs.getD (bs.length - 1) 0).toNat = lastB bs := rfl
    rw [hlb] at hc
    obtain ⟨n, hn⟩ : ∃ n, bs.length = n + 1 := ⟨bs.length - 1, by omega⟩
    rw [hn] at hc hl h9 ⊢
    rw [Nat.add_sub_cancel] at hc
    have HI : Hid (isF bs = (decide (1 ≤ lastB bs) && decide (lastB bs ≤ 30))) := by
      have : 9 ≤ bs.length := by omega
      simp [Hid, isF, this]
    obtain ⟨k, hk⟩ : ∃ k, lastB bs = k := ⟨_, rfl⟩
    rw [hk] at hc HI
    clear hlb h
    by_cases h1 : k < 1
    · have HE : Hid (checkErr bs = 70) := by
        have : ¬ 1 ≤ k := by omega
        simp [Hid, checkErr, HI.out, this]
      rw [HE.out]
      clear hk hn
      go_enter Try.func18, Try.ntmps18
      go_wp2
      go_ret
      exact ⟨rfl, rfl⟩
    · by_cases h2 : k ≤ 30
      · have HE : Hid (checkErr bs = 0) := by
          have : 1 ≤ k := by omega
          simp [Hid, checkErr, HI.out, this, h2]
        rw [HE.out]
        clear hk hn
        go_enter Try.func18, Try.ntmps18
        go_wp2
        go_ret
        exact ⟨rfl, rfl⟩
      · have HE : Hid (checkErr bs = 70) := by simp [Hid, checkErr, HI.out, h2]
        rw [HE.out]
        clear hk hn
        go_enter Try.func18, Try.ntmps18
        go_wp2
        go_ret
        exact ⟨rfl, rfl⟩
theorem bit_shift {c : Nat} (r : Nat) (hc : c < 256) : bits .and .u8 ((c : Int) / 2 ^ r) 1 = ((c.testBit r).toNat : Int) := by
  rw [show (c : Int) / 2 ^ r = ((c / 2 ^ r : Nat) : Int) by push_cast; rfl]
  have h1 : c / 2 ^ r < 256 := Nat.lt_of_le_of_lt (Nat.div_le_self _ _) hc
  have := u8_and_nat (c / 2 ^ r) 1 h1 (by decide)
  rw [Nat.and_one_is_mod] at this
  rw [show (1 : Int) = ((1 : Nat) : Int) from rfl, this, Nat.testBit_eq_decide_div_mod_eq]
  rcases Nat.mod_two_eq_zero_or_one (c / 2 ^ r) with h | h <;> simp [h]
/-- So many bits, and the ones among them. -/
def cntTo (bs : List UInt8) : Nat → Nat
  | 0 => 0
  | i + 1 => cntTo bs i + ((bs.getD (i / 8) 0).toNat.testBit (i % 8)).toNat
theorem cntTo_le (bs : List UInt8) : ∀ i, cntTo bs i ≤ i
  | 0 => Nat.le_refl _
  | i + 1 => by
    have := cntTo_le bs i
    have h : ∀ b : Bool, b.toNat ≤ 1 := fun b => by cases b <;> decide
    have := h ((bs.getD (i / 8) 0).toNat.testBit (i % 8))
    simp only [cntTo]
    omega
theorem cntTo_ones (bs : List UInt8) : ∀ k, cntTo bs (8 * k) = onesTo bs k
  | 0 => rfl
  | k + 1 => by
    have e : ∀ j, j < 8 → (8 * k + j) / 8 = k ∧ (8 * k + j) % 8 = j := fun j h => by omega
    have h0 := e 0 (by omega); have h1 := e 1 (by omega); have h2 := e 2 (by omega); have h3 := e 3 (by omega)
    have h4 := e 4 (by omega); have h5 := e 5 (by omega); have h6 := e 6 (by omega); have h7 := e 7 (by omega)
    rw [show 8 * (k + 1) = 8 * k + 0 + 1 + 1 + 1 + 1 + 1 + 1 + 1 + 1 by omega]
    simp only [Nat.add_assoc, Nat.reduceAdd] at *
    simp only [onesTo, popB, ← cntTo_ones bs k]
    rw [show 8 * k + 8 = 8 * k + 7 + 1 from rfl, cntTo, show 8 * k + 7 = 8 * k + 6 + 1 from rfl, cntTo, show 8 * k + 6 = 8 * k + 5 + 1 from rfl, cntTo, show 8 * k + 5 = 8 * k + 4 + 1 from rfl, cntTo, show 8 * k + 4 = 8 * k + 3 + 1 from rfl, cntTo, show 8 * k + 3 = 8 * k + 2 + 1 from rfl, cntTo, show 8 * k + 2 = 8 * k + 1 + 1 from rfl, cntTo, show 8 * k + 1 = 8 * k + 0 + 1 from rfl, cntTo]
    simp only [Nat.add_assoc, Nat.reduceAdd, Nat.add_zero] at *
    rw [h0.1, h0.2, h1.1, h1.2, h2.1, h2.2, h3.1, h3.2, h4.1, h4.2, h5.1, h5.2, h6.1, h6.2, h7.1, h7.2]
set_option maxRecDepth 100000 in
set_option maxHeartbeats 2000000 in
theorem rones_any (a : Option Addr) (cap : Nat) (bs : List UInt8) (w : World) (h : BytesAt w a bs) (hl : bs.length ≤ 140737488355328) :
    Calls Try.prog 16 #[.slice a bs.length cap] w fun r w' => r = .returned (.int .i64 (onesB bs : Nat)) ∧ w' = w := by
  have hck := rcheck_any a cap bs w h hl
  by_cases hF : isF bs = true
  · have hce : checkErr bs = 0 := by simp [checkErr, hF]
    rw [hce] at hck
    have h9 : 9 ≤ bs.length := by simp [isF] at hF; omega
    have HO : Hid (onesB bs = cntTo bs (8 * (bs.length - 1))) := by rw [Hid, cntTo_ones]; simp [onesB, hF]
    have HH : Hid _ := h
    obtain ⟨n, hn⟩ : ∃ n, bs.length = n + 1 := ⟨bs.length - 1, by omega⟩
    have HN : Hid _ := hn
    rw [hn] at hck hl HO ⊢
    rw [Nat.add_sub_cancel] at HO
    obtain ⟨b0, off0, ha0, _, _⟩ := h 0 _ (getD_at (by omega))
    subst ha0
    clear hce h hn h9
    go_enter Try.func16, Try.ntmps16
    go_wp2_with fail
    refine hck.mono ?_
    rintro e w1 ⟨rfl, rfl⟩
    go_wp2_with fail
    go_loopw [3, 4] (fun s i wr => ∃ j : Nat, j ≤ 8 * n ∧ s = .int .i64 (cntTo bs j : Nat) ∧ i = .int .i64 j ∧ wr = w1) (fun _ i _ => 8 * n - (intOf i).toNat)
    case atStart => exact ⟨0, by omega, rfl, rfl, rfl⟩
    case round =>
      obtain ⟨j, hj, rfl, rfl, rfl⟩ := hrel
      have hle := cntTo_le bs j
      have HNX : Hid (cntTo bs (j + 1) = cntTo bs j + ((bs.getD (j / 8) 0).toNat.testBit (j % 8)).toNat) := rfl
      obtain ⟨o, ho⟩ : ∃ o, cntTo bs j = o := ⟨_, rfl⟩
      rw [ho] at hle HNX
      rw [ho]
      by_cases hlt : j < 8 * n
      · have hq : j / 8 < n + 1 := by omega
        obtain ⟨b, off, e, _, hc⟩ := HH.out (j / 8) _ (getD_at (by rw [HN.out]; omega))
        simp only [Option.some.injEq, Addr.mk.injEq] at e
        obtain ⟨rfl, rfl, _⟩ := e
        have hcl : (bs.getD (j / 8) 0).toNat < 256 := UInt8.toNat_lt _
        obtain ⟨c, hcd⟩ : ∃ c, (bs.getD (j / 8) 0).toNat = c := ⟨_, rfl⟩
        rw [hcd] at hc hcl HNX
        have hr8 : j % 8 < 8 := Nat.mod_lt _ (by decide)
        have hqd : (j : Int) / 8 = ((j / 8 : Nat) : Int) := by omega
        have hrd : (j : Int) % 8 = ((j % 8 : Nat) : Int) := by omega
        have hsh := bit_shift (j % 8) hcl
        generalize j / 8 = q at *
        generalize j % 8 = r at *
        have ht1 : (c.testBit r).toNat ≤ 1 := by cases c.testBit r <;> decide
        generalize (c.testBit r).toNat = t at *
        clear hcd ho
        go_wp2_with fail
        exact ⟨⟨j + 1, by omega, by rw [HNX.out]; go_num, by go_num, trivial⟩, by simp [intOf]; omega⟩
      · obtain rfl : j = 8 * n := by omega
        have HO2 : Hid (onesB bs = o) := by rw [Hid, HO.out, ho]
        clear ho
        go_wp2_with fail
        go_ret
        exact ⟨by rw [HO2.out]; rfl, rfl⟩
  · have hce : checkErr bs = 70 := by simp [checkErr, hF]
    rw [hce] at hck
    have HO : onesB bs = 0 := by simp [onesB, hF]
    rw [HO]
    go_enter Try.func16, Try.ntmps16
    go_wp2_with fail
    refine hck.mono ?_
    rintro e w1 ⟨rfl, rfl⟩
    go_wp2_with fail
    go_ret
    exact ⟨rfl, rfl⟩
/-- A bit's place, by its shift. -/
theorem hasBit_test (bs : List UInt8) (p : Nat) : hasBit bs p = (bs.getD (p / 8) 0).toNat.testBit (p % 8) := by
  unfold hasBit bitN
  generalize (bs.getD (p / 8) 0).toNat = x
  generalize p % 8 = r
  cases h : x.testBit r with
  | true =>
    rw [bne_iff_ne]
    intro e
    have h1 : (x &&& 2 ^ r).testBit r = true := by rw [Nat.testBit_and, h, Nat.testBit_two_pow_self]; rfl
    rw [e, Nat.zero_testBit] at h1
    cases h1
  | false =>
    have h1 : x &&& 2 ^ r = 0 := by
      refine Nat.eq_of_testBit_eq fun i => ?_
      rw [Nat.testBit_and, Nat.testBit_two_pow, Nat.zero_testBit]
      by_cases hi : r = i
      · subst hi; rw [h]; rfl
      · rw [decide_eq_false hi, Bool.and_false]
    rw [h1]
    rfl
theorem may_upto {bs : List UInt8} {key : ByteArray} (h : isF bs = true) (k : ∀ i, i < lastB bs → hasBit bs (placeN key (bitsOf bs) i) = true) : mayB bs key = true := by
  rw [mayB, if_pos h, List.all_eq_true]
  exact fun i hi => k i (List.mem_range.1 hi)
theorem may_none {bs : List UInt8} {key : ByteArray} (h : isF bs = true) {i : Nat} (hi : i < lastB bs) (k : hasBit bs (placeN key (bitsOf bs) i) = false) : mayB bs key = false := by
  rw [mayB, if_pos h, List.all_eq_false]
  exact ⟨i, List.mem_range.2 hi, by rw [k]; decide⟩
set_option maxRecDepth 100000 in
set_option maxHeartbeats 2000000 in
theorem rmay_any (a : Option Addr) (cap : Nat) (bs : List UInt8) (key : ByteArray) (w : World) (h : BytesAt w a bs) (hl : bs.length ≤ 140737488355328) (hks : key.size ≤ 140737488355328) :
    Calls Try.prog 14 #[.slice a bs.length cap, .string key] w fun r w' => r = .returned (.bool (mayB bs key)) ∧ w' = w := by
  have hck := rcheck_any a cap bs w h hl
  by_cases hF : isF bs = true
  · have hce : checkErr bs = 0 := by simp [checkErr, hF]
    rw [hce] at hck
    obtain ⟨h9, h1, h30⟩ := isF_facts hF
    have HF : Hid _ := hF
    have HH : Hid _ := h
    obtain ⟨n, hn⟩ : ∃ n, bs.length = n + 1 := ⟨bs.length - 1, by omega⟩
    have HN : Hid _ := hn
    have HB : Hid (bitsOf bs = 8 * n) := by rw [Hid, bitsOf, hn]; omega
    obtain ⟨b0, off0, ha0, _, hlast⟩ := h n _ (getD_at (by omega))
    subst ha0
    have hlb : (bs.getD n 0).toNat = lastB bs := by rw [lastB, hn]; rfl
    rw [hlb] at hlast
    rw [hn] at hck hl h9 ⊢
    obtain ⟨k, hk⟩ : ∃ k, lastB bs = k := ⟨_, rfl⟩
    have HK : Hid _ := hk
    rw [hk] at hlast h1 h30
    have HP : Hid (∀ (W : World) (i : Nat), i < 256 → Calls Try.prog 42 #[.string key, .int .i64 i, .int .i64 ((8 * n : Nat) : Int)] W fun r w' => r = .returned (.int .i64 (placeN key (8 * n) i : Nat)) ∧ w' = W) := fun W i hi => place_any key i (8 * n) W hks hi (by omega) (by omega)
    obtain ⟨m, hm⟩ : ∃ m, 8 * n = m := ⟨_, rfl⟩
    have hmd : 8 * (n : Int) = (m : Int) := by omega
    rw [hm] at HP HB
    have hml : m ≤ 8 * 140737488355328 := by omega
    have HM : Hid _ := hm
    clear hce h hn hlb hk hF hm
    go_enter Try.func14, Try.ntmps14
    go_wp2_with fail
    refine hck.mono ?_
    rintro e w1 ⟨rfl, rfl⟩
    go_wp2_with fail
    go_loopw [6] (fun i wr => ∃ j : Nat, j ≤ k ∧ i = .int .i64 j ∧ Hid (∀ i, i < j → hasBit bs (placeN key m i) = true) ∧ wr = w1) (fun i _ => k - (intOf i).toNat)
    case atStart => exact ⟨0, by omega, rfl, fun i hi => by omega, rfl⟩
    case round =>
      obtain ⟨j, hj, rfl, HE, rfl⟩ := hrel
      by_cases hlt : j < k
      · have hpm : placeN key m j < m := Nat.mod_lt _ (by have := HM.out; omega)
        have hpc := HP.out wr j (by omega)
        have HT := hasBit_test bs (placeN key m j)
        obtain ⟨p, hp⟩ : ∃ p, placeN key m j = p := ⟨_, rfl⟩
        have HPD : Hid _ := hp
        rw [hp] at hpc hpm HT
        have hq : p / 8 < n + 1 := by have := HM.out; omega
        obtain ⟨b, off, e, _, hc⟩ := HH.out (p / 8) _ (getD_at (by rw [HN.out]; omega))
        simp only [Option.some.injEq, Addr.mk.injEq] at e
        obtain ⟨rfl, rfl, _⟩ := e
        have hcl : (bs.getD (p / 8) 0).toNat < 256 := UInt8.toNat_lt _
        obtain ⟨c, hcd⟩ : ∃ c, (bs.getD (p / 8) 0).toNat = c := ⟨_, rfl⟩
        rw [hcd] at hc hcl HT
        have hr8 : p % 8 < 8 := Nat.mod_lt _ (by decide)
        have hqd : (p : Int) / 8 = ((p / 8 : Nat) : Int) := by omega
        have hrd : (p : Int) % 8 = ((p % 8 : Nat) : Int) := by omega
        have hsh := bit_shift (p % 8) hcl
        have HT' : Hid _ := HT
        clear HT
        generalize p / 8 = q at *
        generalize p % 8 = r at *
        cases ht : c.testBit r with
        | true =>
          have HE2 : Hid (∀ i, i < j + 1 → hasBit bs (placeN key m i) = true) := fun i hi => by
            by_cases hij : i < j
            · exact HE.out i hij
            · obtain rfl : i = j := by omega
              rw [HPD.out, HT'.out, ht]
          rw [ht] at hsh
          clear hcd hp ht HE HT' HPD
          go_wp2_with fail
          refine hpc.mono ?_
          rintro e w2 ⟨rfl, hw2⟩
          subst hw2
          go_wp2_with fail
          go_roundw
          case rel => exact ⟨j + 1, by omega, by go_num, HE2, trivial⟩
          case measure => simp [intOf]; omega
        | false =>
          have HR : Hid (mayB bs key = false) := may_none HF.out (i := j) (by rw [HK.out]; exact hlt) (by rw [HB.out, HPD.out, HT'.out, ht])
          rw [ht] at hsh
          clear hcd hp ht HE HT' HPD
          go_wp2_with fail
          refine hpc.mono ?_
          rintro e w2 ⟨rfl, hw2⟩
          subst hw2
          go_wp2_with fail
          go_ret
          exact ⟨by rw [HR.out]; rfl, rfl⟩
      · obtain rfl : j = k := by omega
        have HR : Hid (mayB bs key = true) := may_upto HF.out (fun i hi => by rw [HB.out]; exact HE.out i (by rw [← HK.out]; exact hi))
        go_wp2_with fail
        go_ret
        exact ⟨by rw [HR.out]; rfl, rfl⟩
  · have hce : checkErr bs = 70 := by simp [checkErr, hF]
    rw [hce] at hck
    have HO : mayB bs key = true := by rw [mayB, if_neg (by rw [Bool.not_eq_true] at hF; rw [hF]; decide)]
    rw [HO]
    go_enter Try.func14, Try.ntmps14
    go_wp2_with fail
    refine hck.mono ?_
    rintro e w1 ⟨rfl, rfl⟩
    go_wp2_with fail
    go_ret
    exact ⟨rfl, rfl⟩
end Go.Proofs.Ytoopgddhkdekmaa
