/-
  The walk of SchedTurns: whatever the ticks and counts, the call returns true, and turns nothing that was there.
-/
import Derived.Test.YtefmhghdehokcaaBoth
namespace Go.Proofs.Ytefmhghdehokcaa
open Go.RowKit
/-- How many of the first i turns are the j-th of n tasks'. -/
def cntT (n i j : Nat) : Nat := i / n + if j < i % n then 1 else 0
theorem cntT_zero (n j : Nat) : cntT n 0 j = 0 := by simp [cntT]
theorem divmod_succ {n i : Nat} (hn : 0 < n) : (i % n + 1 < n ∧ (i + 1) / n = i / n ∧ (i + 1) % n = i % n + 1) ∨ (i % n + 1 = n ∧ (i + 1) / n = i / n + 1 ∧ (i + 1) % n = 0) := by
  have h1 := Nat.div_add_mod i n
  have h2 := Nat.mod_lt i hn
  by_cases h : i % n + 1 < n
  · left
    have e : i + 1 = i % n + 1 + n * (i / n) := by omega
    refine ⟨h, ?_, ?_⟩
    · rw [e, Nat.add_mul_div_left _ _ hn, Nat.div_eq_of_lt h]; omega
    · rw [e, Nat.add_mul_mod_self_left, Nat.mod_eq_of_lt h]
  · right
    have e : i + 1 = n * (i / n + 1) := by rw [Nat.mul_add]; omega
    refine ⟨by omega, ?_, ?_⟩
    · rw [e, Nat.mul_div_cancel_left _ hn]
    · rw [e, Nat.mul_mod_right]
theorem cntT_succ {n i j : Nat} (hn : 0 < n) (hj : j < n) : cntT n (i + 1) j = cntT n i j + if j = i % n then 1 else 0 := by
  unfold cntT
  rcases divmod_succ (i := i) hn with ⟨h1, h2, h3⟩ | ⟨h1, h2, h3⟩
  · rw [h2, h3]
    by_cases e1 : j < i % n
    · rw [if_pos (by omega), if_pos e1, if_neg (by omega)]
    · by_cases e2 : j = i % n
      · rw [if_pos (by omega), if_neg e1, if_pos e2]
      · rw [if_neg (by omega), if_neg e1, if_neg e2]
  · rw [h2, h3, if_neg (by omega)]
    by_cases e1 : j < i % n
    · rw [if_pos e1, if_neg (by omega)]
    · rw [if_neg e1, if_pos (by omega)]
theorem cntT_le {n i j m : Nat} (hn : 0 < n) (h : i < n * m) : cntT n (i + 1) j ≤ m := by
  have h1 : i / n < m := by rw [Nat.div_lt_iff_lt_mul hn]; rw [Nat.mul_comm]; exact h
  unfold cntT
  rcases divmod_succ (i := i) hn with ⟨h1, h2, h3⟩ | ⟨h1, h2, h3⟩
  · rw [h2]; split <;> omega
  · rw [h2, h3]; simp; omega
def clk (ticks : List Int) : Nat → Int
  | 0 => 0
  | i + 1 => clk ticks i + ticks.getD i 0
theorem getD_good {ticks : List Int} (h : ∀ x ∈ ticks, 0 ≤ x ∧ x < 2147483648) (i : Nat) : 0 ≤ ticks.getD i 0 ∧ ticks.getD i 0 < 2147483648 := by
  by_cases hi : i < ticks.length
  · rw [List.getD_eq_getElem?_getD, List.getElem?_eq_getElem hi]
    exact h _ (List.getElem_mem hi)
  · rw [List.getD_eq_getElem?_getD, List.getElem?_eq_none (by omega)]
    simp
theorem clk_bd {ticks : List Int} (h : ∀ x ∈ ticks, 0 ≤ x ∧ x < 2147483648) (i : Nat) : 0 ≤ clk ticks i ∧ clk ticks i ≤ (i : Int) * 2147483648 := by
  induction i with
  | zero => simp [clk]
  | succ i ih =>
    have := getD_good h i
    rw [clk]
    omega
theorem ready_all (n : Nat) : readyL (List.replicate n 0) = List.range n := by
  rw [readyL, readyTo, List.length_replicate]
  refine List.filter_eq_self.2 (fun i hi => ?_)
  rw [List.mem_range] at hi
  rw [List.getD_eq_getElem?_getD, List.getElem?_replicate, if_pos hi]
  rfl
structure TInv (w : World) (p n m i : Nat) (ticks : List Int) (S : LS) : Prop where
  la : LA w p S
  len : S.tks.length = n
  wts : S.waits = List.replicate n 0
  tcs : S.ticks = ticks
  steps : S.steps = i
  now : S.now = clk ticks i
  acts : ∀ (j : Nat) t, S.tks[j]? = some t → t.acts = List.replicate (m + 1 - cntT n i j) ((0 : Int), (0 : Int))
theorem TInv.below {w w' : World} {p n m i : Nat} {ticks : List Int} {S : LS} (h : TInv w p n m i ticks S) (k : Below w.heap.size w w') : TInv w' p n m i ticks S := { h with la := h.la.below k }
theorem tstep (p n m i : Nat) (ticks : List Int) (S : LS) (w : World) (h : TInv w p n m i ticks S) (hn : 0 < n) (hn1 : n ≤ 63) (hm : m ≤ 49) (hi : i < n * m) (htk : ∀ x ∈ ticks, 0 ≤ x ∧ x < 2147483648) :
    Calls Try.prog 18 #[.pointer (some ⟨p, 0, none⟩), .int .i64 (i : Nat)] w fun r w' => r = .returned (.tuple #[.int .i64 ((i % n : Nat) : Int), .bool true]) ∧ (∃ S', TInv w' p n m (i + 1) ticks S') ∧ Lv p w w' := by
  have hjn := Nat.mod_lt i hn
  have hiN : i < 3200 := by
    have : n * m ≤ 63 * 49 := Nat.mul_le_mul hn1 hm
    omega
  obtain ⟨t, ht⟩ : ∃ t, S.tks[i % n]? = some t := ⟨S.tks[i % n]'(by rw [h.len]; exact hjn), List.getElem?_eq_getElem _⟩
  have hr : readyL S.waits = List.range n := by rw [h.wts]; exact ready_all n
  have hc1 := cntT_succ (i := i) hn hjn
  rw [if_pos rfl] at hc1
  have hc2 := cntT_le (j := i % n) hn hi
  have ha : t.acts = (0, 0) :: List.replicate (m + 1 - cntT n (i + 1) (i % n)) ((0 : Int), (0 : Int)) := by
    rw [h.acts _ _ ht, show m + 1 - cntT n i (i % n) = (m + 1 - cntT n (i + 1) (i % n)) + 1 by omega, List.replicate_succ]
  have hbd := clk_bd htk i
  have := la_step p (i % n) (i % n) (i : Nat) S t (List.replicate (m + 1 - cntT n (i + 1) (i % n)) (0, 0)) (decide ((List.replicate (m + 1 - cntT n (i + 1) (i % n)) ((0 : Int), (0 : Int))).length = 0)) 0 w h.la (by rw [h.len]; omega) (by rw [h.steps]; omega) (by omega)
    (by rw [hr, List.length_range, Int.tmod_eq_emod_of_nonneg (by omega)]; rfl) (by rw [hr, List.getElem?_range hjn]) ht
    (by rw [h.tcs]; exact htk) (by rw [h.now]; exact hbd.1) (by rw [h.now]; omega)
    (fun W1 cs h1 h2 => task_go p t 0 0 _ cs W1 h1 ha (by rw [List.length_replicate]; omega) (by decide) (by decide) (by decide) (by decide) h2)
  refine this.mono ?_
  rintro r w' ⟨rfl, t', h1, h2, h3, h4, h5⟩
  have hdn : decide ((List.replicate (m + 1 - cntT n (i + 1) (i % n)) ((0 : Int), (0 : Int))).length = 0) = false := decide_eq_false (by rw [List.length_replicate]; omega)
  rw [hdn] at h4
  refine ⟨rfl, ⟨_, { la := h4, len := ?_, wts := ?_, tcs := h.tcs, steps := ?_, now := ?_, acts := ?_ }⟩, h.la.lv h5⟩
  · show (S.tks.set _ t').length = n
    rw [List.length_set, h.len]
  · show S.waits.set (i % n) 0 = _
    rw [h.wts, List.set_replicate_self]
  · show S.steps + 1 = i + 1
    rw [h.steps]
  · show clockI S.ticks S.steps S.now = _
    rw [h.tcs, h.steps, h.now]
    rfl
  · intro j u hj
    have hj' : (S.tks.set (i % n) t')[j]? = some u := hj
    have hjl : j < n := by have := (List.getElem?_eq_some_iff.1 hj').1; rw [List.length_set, h.len] at this; exact this
    rw [List.getElem?_set] at hj'
    by_cases e : i % n = j
    · rw [if_pos e, if_pos (by rw [h.len]; omega)] at hj'
      cases hj'
      rw [h2, e]
    · rw [if_neg e] at hj'
      rw [h.acts _ _ hj', cntT_succ hn hjl, if_neg (fun e2 => e e2.symm)]
      rfl
/-- Both loops while tasks are added. -/
def AInv (w : World) (b p x G m i : Nat) (ticks : List Int) : Prop := ∃ S, Both w b p x S ∧ S.tks.length = i ∧ S.waits = List.replicate i 0 ∧ S.ticks = ticks ∧ S.now = 0 ∧ S.steps = 0 ∧ (∀ (j : Nat) t, S.tks[j]? = some t → t.acts = List.replicate (m + 1) ((0 : Int), (0 : Int))) ∧ w.heap[G]? = some (.cells (zA (m + 1)) 54 (0, 0))
theorem ainv_add (b p x G m i : Nat) (ticks : List Int) (w : World) (h : AInv w b p x G m i ticks) (hi : i < 63) (hm : m ≤ 49) :
    Calls Try.prog 10 #[.pointer (some ⟨b, 0, none⟩), .slice (some ⟨G, 0, none⟩) (m + 1) (m + 1)] w fun r w' => r = .returned (.bool true) ∧ AInv w' b p x G m (i + 1) ticks ∧ Below p w w' := by
  obtain ⟨S, h1, h2, h3, h4, h5, h6, h7, h8⟩ := h
  refine (both_add b p x G (m + 1) (m + 1) (List.replicate (m + 1) (0, 0)) S w h1 (by omega) (by rw [List.length_replicate]) (by omega) (by omega) (zA_acts h8) (Array.getElem?_eq_some_iff.1 h8).1).mono ?_
  rintro r w' ⟨rfl, t, S', e1, e2, e3, e4, e5, e6, e7, _, _, _, e8, e9, e10⟩
  refine ⟨rfl, ⟨S', e8, by rw [e3]; simp; omega, by rw [e4, h3, List.replicate_succ'], by rw [e5, h4], by rw [e6, h5], by rw [e7, h6], fun j u hj => ?_, e10 _ _ _ h8⟩, e9⟩
  rw [e3] at hj
  by_cases hjl : j < S.tks.length
  · rw [List.getElem?_append_left hjl] at hj
    exact h7 j u hj
  · have hl := (List.getElem?_eq_some_iff.1 hj).1
    rw [List.length_append, List.length_singleton] at hl
    obtain rfl : j = S.tks.length := by omega
    rw [List.getElem?_concat_length] at hj
    cases hj
    exact e1
theorem AInv.turns {w : World} {b p x G m n : Nat} {ticks : List Int} (h : AInv w b p x G m n ticks) : At43 w b p ∧ ∃ S, TInv w p n m 0 ticks S := by
  obtain ⟨S, h1, h2, h3, h4, h5, h6, h7, h8⟩ := h
  exact ⟨h1.at43, S, { la := h1.la, len := h2, wts := h3, tcs := h4, steps := h6, now := h5, acts := fun j t hj => by rw [h7 j t hj, cntT_zero]; rfl }⟩
theorem arg_nil' (w : World) : Arg w none 0 0 [] := ⟨rfl, VA.nil _ _ _, Nat.le_refl _, fun _ => rfl⟩
theorem good_of {picks ticks : List Int} {nd : Nat} (h : chkT picks ticks nd = 0) : ∀ x ∈ ticks, 0 ≤ x ∧ x < 2147483648 := by
  unfold chkT at h
  intro x hx
  by_cases h1 : 65536 < picks.length ∨ 65536 < ticks.length ∨ 65536 < nd
  · rw [if_pos h1] at h; cases h
  · rw [if_neg h1] at h
    by_cases h2 : pickBad picks = true
    · rw [if_pos h2] at h; cases h
    · rw [if_neg h2] at h
      by_cases h3 : tickBad ticks = true
      · rw [if_pos h3] at h; cases h
      · have h4 := eq_false_of_ne_true h3
        rw [tickBad, List.any_eq_false] at h4
        have := h4 x hx
        simp at this
        omega
set_option maxRecDepth 100000 in
set_option maxHeartbeats 8000000 in
theorem turns_walk (count rounds : Int) (a : Option Addr) (nk c : Nat) (ticks : List Int) (w : World) (hv : VA w.heap.size w a (ticks.map iV)) (hn : ticks.length = nk) (hc : nk ≤ c) (hz : a = none → c = 0) :
    Calls Try.prog 5 #[.slice a nk c, .int .i64 count, .int .i64 rounds] w fun r w' => r = .returned (.bool true) ∧ Below w.heap.size w w' := by
  have HA : Hid (Arg w a nk c (ticks.map iV)) := ⟨by rw [List.length_map, hn], hv, hc, hz⟩
  by_cases hchk : chkT [] ticks 0 = 0
  · have HG : Hid _ := good_of hchk
    have HS : Hid (Calls Try.prog 9 #[.agg #[.slice none 0 0, .slice a nk c, .slice none 0 0]] w fun r w' => ∃ b p x S, r = .returned (.tuple #[.pointer (some ⟨b, 0, none⟩), .bool true]) ∧ S.tks = [] ∧ S.waits = [] ∧ S.ticks = ticks ∧ S.now = 0 ∧ S.steps = 0 ∧ S.picks = [] ∧ S.draws = [] ∧ S.fu = 0 ∧ Both w' b p x S ∧ w.heap.size ≤ p ∧ Below w.heap.size w w') := start_both none a none 0 nk 0 0 c 0 [] ticks [] w (arg_nil' w) HA.out (arg_nil' w) hchk
    have HV : Hid _ := hv
    have HN : Hid _ := hn
    have hnk : nk ≤ 65536 := by
      unfold chkT at hchk
      by_cases h1 : 65536 < ([] : List Int).length ∨ 65536 < ticks.length ∨ 65536 < 0
      · rw [if_pos h1] at hchk; cases hchk
      · omega
    clear hv hn hc hz hchk
    obtain ⟨r, hr⟩ : ∃ r, count.tmod 64 = r := ⟨_, rfl⟩
    obtain ⟨q, hq⟩ : ∃ q, rounds.tmod 50 = q := ⟨_, rfl⟩
    have r1 : r < 64 := by rw [← hr]; exact Int.tmod_lt_of_pos _ (by decide)
    have r2 : -64 < r := by rw [← hr]; exact Int.lt_tmod_of_pos _ (by decide)
    have q1 : q < 50 := by rw [← hq]; exact Int.tmod_lt_of_pos _ (by decide)
    have q2 : -50 < q := by rw [← hq]; exact Int.lt_tmod_of_pos _ (by decide)
    go_enter Try.func5, Try.ntmps5
    go_wp2_with fail
    refine Calls.mono HS.out ?_
    rintro e w1 ⟨b, p, x, S1, rfl, a1, a2, a3, a4, a5, _, _, _, L1, hp1, B1⟩
    have HS1 : Hid (S1.tks = [] ∧ S1.waits = [] ∧ S1.ticks = ticks ∧ S1.now = 0 ∧ S1.steps = 0) := ⟨a1, a2, a3, a4, a5⟩
    have HB1 : Hid _ := B1
    have HL1 : Hid (Both w1 b p x S1) := L1
    clear B1 a1 a2 a3 a4 a5 L1 HS
    go_upto_if 33 with fail
    go_cut [9] from 17 (fun s9 wx => ∃ n : Nat, 1 ≤ n ∧ n ≤ 63 ∧ s9 = .int .i64 (n : Nat) ∧ wx = w1)
    case first =>
      by_cases hr1 : r < 1
      · go_wp2_with fail
        go_meet
        case rel => exact ⟨1, by decide, by decide, rfl, rfl⟩
      · go_wp2_with fail
        go_meet
        case rel => exact ⟨r.toNat, by omega, by omega, by rw [Int.toNat_of_nonneg (by omega)], rfl⟩
    case rest =>
    obtain ⟨n, n1, n2, rfl, hwc⟩ := hcut
    rw [hwc]
    clear hwc
    clear hr r1 r2 r
    go_upto_if 37 with fail
    go_cut [10] from 17 (fun s10 wx => ∃ m : Nat, m ≤ 49 ∧ s10 = .int .i64 (m : Nat) ∧ wx = w1)
    case first =>
      by_cases hq1 : q < 0
      · go_wp2_with fail
        go_meet
        case rel => exact ⟨0, by decide, rfl, rfl⟩
      · go_wp2_with fail
        go_meet
        case rel => exact ⟨q.toNat, by omega, by rw [Int.toNat_of_nonneg (by omega)], rfl⟩
    case rest =>
    obtain ⟨m, m1, rfl, hwc⟩ := hcut
    rw [hwc]
    clear hwc hq q1 q2 q
    have mk : ∀ W, (Instr.makeSlice 32 (.int .i64 ((m : Int) + 1)) (.int .i64 ((m : Int) + 1))).run Try.prog W = .ok (.slice (some ⟨W.heap.size, 0, none⟩) (m + 1) (m + 1)) (W.alloc (.cells (zA (m + 1)) 54)) := fun W => make_acts (m + 1) (by omega) W
    have A1 : Below w1.heap.size w1 (w1.alloc (.cells (zA (m + 1)) 54)) := (Below.refl _ _).alloc (Nat.le_refl _) _
    have HI1 : Hid (AInv (w1.alloc (.cells (zA (m + 1)) 54)) b p x w1.heap.size m 0 ticks) := by
      obtain ⟨c1, c2, c3, c4, c5⟩ := HS1.out
      exact ⟨S1, HL1.out.below A1, by rw [c1]; rfl, by rw [c2]; rfl, c3, c4, c5, fun j t hj => by rw [c1] at hj; simp at hj, World.alloc_heap_new _ _⟩
    have HB2 : Hid (Below w.heap.size w (w1.alloc (.cells (zA (m + 1)) 54))) := HB1.out.trans (A1.mono HB1.out.size)
    obtain ⟨G, hG⟩ : ∃ G, w1.heap.size = G := ⟨_, rfl⟩
    rw [hG] at HI1
    clear HS1 HL1 HB1 A1
    go_wp2_with fail
    clear hG mk
    go_loopw [12] (fun i wr => ∃ k : Nat, k ≤ n ∧ i = .int .i64 (k : Nat) ∧ Hid (AInv wr b p x G m k ticks) ∧ Hid (Below w.heap.size w wr)) (fun i _ => n - (intOf i).toNat)
    case atStart => exact ⟨0, by omega, rfl, HI1.out, HB2.out⟩
    case round =>
      clear HI1 HB2
      obtain ⟨k, hk, rfl, HIk, HBk⟩ := hrel
      by_cases hlt : k < n
      · have HAD : Hid _ := ainv_add b p x G m k ticks wr HIk.out (by omega) (by omega)
        go_wp2_with fail
        refine Calls.mono HAD.out ?_
        rintro e w3 ⟨rfl, hI3, b3⟩
        have HI3 : Hid _ := hI3
        have HB3 : Hid (Below w.heap.size w w3) := HBk.out.trans (b3.mono hp1)
        clear hI3 b3 HAD HIk HBk
        go_wp2_with fail
        go_roundw
        case rel => exact ⟨k + 1, by omega, by go_num, HI3.out, HB3.out⟩
        case measure => simp [intOf]; omega
      · obtain rfl : k = n := by omega
        obtain ⟨hat, hti⟩ := AInv.turns HIk.out
        have HAT : Hid _ := hat
        have HTI : Hid (∃ S, TInv wr p k m 0 ticks S) := hti
        obtain ⟨N, hN⟩ : ∃ N, k * m = N := ⟨_, rfl⟩
        have hNI : (k : Int) * (m : Int) = (N : Int) := by rw [← hN, Int.natCast_mul]
        have hNI2 : (m : Int) * (k : Int) = (N : Int) := by rw [Int.mul_comm]; exact hNI
        have hNb : N ≤ 3200 := by
          have : k * m ≤ 63 * 49 := Nat.mul_le_mul n2 m1
          omega
        have HNE : Hid _ := hN
        clear hat hti HIk hlt hN
        go_wp2_with fail
        go_loopw [13, 14] (fun s13 s14 wr => ∃ i : Nat, i ≤ N ∧ s14 = .int .i64 (i : Nat) ∧ s13 = .int .u64 (clk ticks i) ∧ Hid (∃ S, TInv wr p k m i ticks S) ∧ Hid (At43 wr b p) ∧ Hid (Below w.heap.size w wr)) (fun _ s14 _ => N - (intOf s14).toNat)
        case atStart => exact ⟨0, by omega, rfl, rfl, HTI.out, HAT.out, HBk.out⟩
        case round =>
          clear HTI HAT HBk
          obtain ⟨i, hi, rfl, rfl, HTi, HAi, HBi⟩ := hrel
          obtain ⟨C, hC⟩ : ∃ C, clk ticks i = C := ⟨_, rfl⟩
          have hCb := clk_bd HG.out i
          have ck := At43.cell HAi.out
          rw [hC] at hCb
          obtain ⟨C0, C1⟩ := hCb
          have C2 : C < 10000000000000 := by omega
          by_cases hlt : i < N
          · obtain ⟨D, hD⟩ : ∃ D, clk ticks (i + 1) = D := ⟨_, rfl⟩
            have hDe : D = C + ticks.getD i 0 := by rw [← hD, ← hC]; rfl
            obtain ⟨j, hj⟩ : ∃ j, i % k = j := ⟨_, rfl⟩
            have hjI : (i : Int) % (k : Int) = (j : Int) := by rw [← hj]; rfl
            have HST : Hid (Calls Try.prog 18 #[.pointer (some ⟨p, 0, none⟩), .int .i64 (i : Nat)] wr fun r w' => r = .returned (.tuple #[.int .i64 (j : Nat), .bool true]) ∧ (∃ S', TInv w' p k m (i + 1) ticks S') ∧ Lv p wr w') := by
              obtain ⟨S, hS⟩ := HTi.out
              have := tstep p k m i ticks S wr hS (by omega) n2 m1 (by rw [HNE.out]; exact hlt) HG.out
              rw [hj] at this
              exact this
            have HD : Hid _ := hD
            have HC : Hid _ := hC
            have HDE : Hid _ := hDe
            clear hD hC hDe hj C1
            rw [HC.out]
            go_upto_if 60 with fail
            go_cut [13] from 50 to 94 (fun s13 wx => s13 = .int .u64 D ∧ wx = wr)
            case first =>
              by_cases htl : i < nk
              · obtain ⟨x, hx⟩ : ∃ x, ticks[i]? = some x := ⟨ticks[i]'(by rw [HN.out]; exact htl), List.getElem?_eq_getElem _⟩
                obtain ⟨g, og, rfl, hg, x0⟩ := HV.out i (iV x) (by rw [List.getElem?_map, hx]; rfl)
                rw [iV] at x0
                have xk : wr.cell? ⟨g, og + i, none⟩ = some (.int .i64 x) := (HBi.out.cell (p := ⟨g, og + i, none⟩) hg).trans x0
                have hxg := HG.out x (List.mem_of_getElem? hx)
                have hDx : Hid (D = C + x) := by rw [Hid, HDE.out, List.getD_eq_getElem?_getD, hx]; rfl
                have e1 : IntKind.u64.wrap x = x := by simp [IntKind.wrap, IntKind.bits, IntKind.signed]; omega
                have e2 : IntKind.u64.wrap (C + x) = C + x := by simp [IntKind.wrap, IntKind.bits, IntKind.signed]; omega
                clear hx x0
                go_wp2_with fail
                go_meet
                case rel => exact ⟨by rw [hDx.out], rfl⟩
              · have hDx : Hid (D = C) := by rw [Hid, HDE.out, List.getD_eq_getElem?_getD, List.getElem?_eq_none (by have := HN.out; omega)]; simp
                go_wp2_with fail
                go_meet
                case rel => exact ⟨by rw [hDx.out], rfl⟩
            case rest =>
            obtain ⟨rfl, hwc⟩ := hcut
            rw [hwc]
            clear hwc HDE HC
            go_wp2_with fail
            refine Calls.mono HST.out ?_
            rintro e w4 ⟨rfl, hT4, v4⟩
            have HT4 : Hid (∃ S', TInv w4 p k m (i + 1) ticks S') := hT4
            have HA4 : Hid (At43 w4 b p) := At43.lv HAi.out v4
            have HB4 : Hid (Below w.heap.size w w4) := HBi.out.trans (v4.bel.mono hp1)
            have c4 := At43.cell HA4.out
            have HNW : Hid (Calls Try.prog 14 #[.pointer (some ⟨p, 0, none⟩)] w4 fun r w' => r = .returned (.int .u64 D) ∧ w' = w4) := by
              obtain ⟨S, hS⟩ := hT4
              have := now_any p _ _ _ _ _ _ _ _ w4 hS.la.hp
              rw [hS.now, HD.out] at this
              exact this
            have dd : (D == D) = true := by simp
            have dd2 : (D != D) = false := by simp
            clear hT4 v4 HST HTi HAi HBi ck
            go_wp2_with fail
            refine Calls.mono HNW.out ?_
            rintro e w5 ⟨rfl, hw5⟩
            subst hw5
            go_wp2_with fail
            go_roundw
            case rel => exact ⟨i + 1, by omega, by go_num, by rw [HD.out], HT4.out, HA4.out, HB4.out⟩
            case measure => simp [intOf]; omega
          · obtain rfl : i = N := by omega
            have HFT : Hid (Calls Try.prog 17 #[.pointer (some ⟨p, 0, none⟩)] wr fun r w' => r = .returned (.int .i64 (i : Nat)) ∧ w' = wr) := by
              obtain ⟨S, hS⟩ := HTi.out
              have := steps_any p _ _ _ _ _ _ _ _ wr hS.la.hp
              rw [hS.steps] at this
              exact this
            have HFR : Hid (Calls Try.prog 19 #[.pointer (some ⟨p, 0, none⟩)] wr fun r w' => ∃ a c, r = .returned (.slice a k c) ∧ Below wr.heap.size wr w') := by
              obtain ⟨S, hS⟩ := HTi.out
              refine (la_ready p S wr hS.la (by rw [hS.len]; omega)).mono ?_
              rintro r w' ⟨a, c, rfl, _, h2⟩
              exact ⟨a, c, by rw [hS.wts, ready_all, List.length_range], h2⟩
            clear hC
            go_wp2_with fail
            refine Calls.mono HFT.out ?_
            rintro e w4 ⟨rfl, hw4⟩
            subst hw4
            go_wp2_with fail
            refine Calls.mono HFR.out ?_
            rintro e w5 ⟨a5, c5, rfl, b5⟩
            go_wp2_with fail
            go_ret
            exact ⟨rfl, HBi.out.trans (b5.mono HBi.out.size)⟩
  · have HS : Hid (Calls Try.prog 9 #[.agg #[.slice none 0 0, .slice a nk c, .slice none 0 0]] w fun r w' => r = .returned (.tuple #[.pointer none, .bool true]) ∧ Below w.heap.size w w') := start_bad none a none 0 nk 0 0 c 0 [] ticks _ w (arg_nil' w) HA.out rfl hchk
    clear hv hn hc hz hchk HA
    go_enter Try.func5, Try.ntmps5
    go_wp2_with fail
    refine Calls.mono HS.out ?_
    rintro e w1 ⟨rfl, B1⟩
    go_wp2_with fail
    go_ret
    exact ⟨rfl, B1⟩
end Go.Proofs.Ytefmhghdehokcaa
