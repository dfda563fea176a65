/-
  The loop's side of what both are asked: a step of any pick, a run with what it leaves, whether all are done, what a task took down.
-/
import Derived.Test.YtefmhghdehokcaaTwinR
import Derived.Test.YtefmhghdehokcaaRun
namespace Go.Proofs.Ytefmhghdehokcaa
open Go.RowKit
theorem la_step_none (p : Nat) (pick : Int) (S : LS) (w : World) (h : LA w p S) (hn : S.tks.length ≤ 100) (hc : pick < 0 ∨ readyL S.waits = []) :
    Calls Try.prog 18 #[.pointer (some ⟨p, 0, none⟩), .int .i64 pick] w fun r w' => r = .returned (.tuple #[.int .i64 0, .bool false]) ∧ Below w.heap.size w w' := by
  by_cases hp : pick < 0
  · exact step_neg p pick S w h hn hp
  · have hr := hc.resolve_left hp
    have HR : Hid (Calls Try.prog 19 #[.pointer (some ⟨p, 0, none⟩)] w fun r w' => ∃ a c, r = .returned (.slice a 0 c) ∧ Below w.heap.size w w') := by
      refine (la_ready p S w h hn).mono ?_
      rintro r w' ⟨a, c, rfl, _, h2⟩
      rw [hr]
      exact ⟨a, c, rfl, h2⟩
    have d1 : decide (pick < 0) = false := decide_eq_false hp
    clear h hn hc
    go_enter Try.func18, Try.ntmps18
    go_wp2_with fail
    refine Calls.mono HR.out ?_
    rintro e w1 ⟨a, c, rfl, b1⟩
    go_wp2_with fail
    go_ret2
    exact ⟨rfl, b1⟩
set_option maxHeartbeats 2000000 in
theorem la_done_any (p : Nat) (S : LS) (w : World) (h : LA w p S) (hn : S.tks.length ≤ 100) :
    Calls Try.prog 27 #[.pointer (some ⟨p, 0, none⟩)] w fun r w' => r = .returned (.bool (S.waits.all (fun y => y == -1))) ∧ Below w.heap.size w w' := by
  obtain ⟨n, hl⟩ : ∃ n, S.waits.length = n := ⟨_, rfl⟩
  have hnb : n ≤ 100 := by rw [← hl, h.wlen']; exact hn
  have HL : Hid _ := hl
  have HW2 : Hid (Calls Try.prog 16 #[.pointer (some ⟨p, 0, none⟩)] w fun r w' => ∃ a c, r = .returned (.slice a n c) ∧ VA w'.heap.size w' a (S.waits.map iV) ∧ Below w.heap.size w w') := by
    have := la_waits p S w h hn
    rw [hl] at this
    exact this
  clear h hn hl
  go_enter Try.func27, Try.ntmps27
  go_wp2_with fail
  refine Calls.mono HW2.out ?_
  rintro e w1 ⟨a1, c1, rfl, va1, b1⟩
  have HV1 : Hid _ := va1
  have HB1 : Hid _ := b1
  clear va1 b1
  go_wp2_with fail
  go_loop [8] (fun i => ∃ k : Nat, k ≤ n ∧ i = .int .i64 (k : Nat) ∧ Hid (∀ (j : Nat) y, j < k → S.waits[j]? = some y → y = -1)) (fun i => n - (intOf i).toNat)
  case atStart => exact ⟨0, by omega, rfl, fun j y hj => by omega⟩
  case round =>
    obtain ⟨k, hk, rfl, HE⟩ := hrel
    by_cases hlt : k < n
    · obtain ⟨x, hx⟩ : ∃ x, S.waits[k]? = some x := ⟨S.waits[k]'(by rw [HL.out]; exact hlt), List.getElem?_eq_getElem _⟩
      obtain ⟨g, og, rfl, _, x0⟩ := HV1.out k (iV x) (by rw [List.getElem?_map, hx]; rfl)
      rw [iV] at x0
      have HX : Hid _ := hx
      clear hx
      by_cases hx1 : x = -1
      · subst hx1
        go_wp2_with fail
        go_round
        case rel =>
          refine ⟨k + 1, by omega, by go_num, fun j y hj hy => ?_⟩
          by_cases hjk : j < k
          · exact HE.out j y hjk hy
          · obtain rfl : j = k := by omega
            rw [HX.out] at hy
            cases hy
            rfl
        case measure => simp [intOf]; omega
      · have hb : (x == -1) = false := by simp [hx1]
        have HF : Hid (S.waits.all (fun y => y == -1) = false) := by
          rw [Hid, List.all_eq_false]
          exact ⟨x, List.mem_of_getElem? HX.out, by simp [hx1]⟩
        go_wp2_with fail
        go_ret
        exact ⟨by rw [HF.out]; rfl, HB1.out⟩
    · obtain rfl : k = n := by omega
      have HF : Hid (S.waits.all (fun y => y == -1) = true) := by
        rw [Hid, List.all_eq_true]
        intro y hy
        obtain ⟨j, hj⟩ := List.mem_iff_getElem?.1 hy
        have := HE.out j y (by have := (List.getElem?_eq_some_iff.1 hj).1; have := HL.out; omega) hj
        simp [this]
      go_wp2_with fail
      go_ret
      exact ⟨by rw [HF.out]; rfl, HB1.out⟩
/-- A loop that stands as the numbers say; what it leaves of another world. -/
structure LAt (p : Nat) (S : LS) (w : World) (P : PS) (w' : World) (S' : LS) : Prop where
  la : LA w' p S'
  ps : S'.ps = P
  kb : Kb (fun b => Foot p S b) w w'
  up : FootUp w p S S'
  los : LoQ S S'
theorem lat_next (p : Nat) (S S1 : LS) (P : PS) (w w1 : World) (h : LAt p S w P w1 S1) (hb : Bd P) (hst : P.steps < 10000000000000000) :
    Calls Try.prog 13 #[.pointer (some ⟨p, 0, none⟩)] w1 fun r w' => r = .returned (.tuple #[.int .i64 (nextN P : Nat), .bool (nextB P)]) ∧ ∃ S2, LAt p S w (nextP P) w' S2 := by
  have := la_nxt p S1 w1 h.la (by rw [h.ps]; exact hb) (by have : S1.ps.steps = S1.steps := rfl; rw [← this, h.ps]; exact hst)
  rw [h.ps] at this
  refine this.mono ?_
  rintro r w' ⟨rfl, S2, g1, g2, g3, g4, g5⟩
  refine ⟨rfl, S2, g1, g2, h.kb.trans g3 (fun b hb e => (h.up b e).resolve_right (by omega)), fun b e => ?_, ⟨fun lo e => g5.lo lo (h.los.lo lo e), g5.qs.trans h.los.qs⟩⟩
  rcases g4 b e with e | e
  · exact h.up b e
  · exact Or.inr (Nat.le_trans h.kb.size e)
set_option maxHeartbeats 2000000 in
theorem lrun (p : Nat) (most : Int) (S : LS) (w : World) (h : LA w p S) (hb : Bd S.ps) (hst : S.steps < 9000000000000000) (hm : most ≤ 1000) :
    Calls Try.prog 26 #[.pointer (some ⟨p, 0, none⟩), .int .i64 most] w fun r w' => ∃ n : Nat, r = .returned (.int .i64 (n : Nat)) ∧ RunN S.ps most n ∧ ∃ S', LAt p S w (itP S.ps n) w' S' := by
  obtain ⟨P, hP⟩ : ∃ P, S.ps = P := ⟨_, rfl⟩
  have HI : Hid (∃ S1, LAt p S w (itP P 0) w S1) := ⟨S, h, hP, Kb.refl _ _, fun b e => Or.inl e, ⟨fun _ e => e, rfl⟩⟩
  have HST : Hid (P.steps < 9000000000000000) := by rw [← hP]; exact hst
  rw [hP] at hb
  have HB : Hid _ := hb
  rw [hP]
  clear h hb hst hP
  go_enter Try.func26, Try.ntmps26
  go_wp2_with fail
  go_loopw [5] (fun s wr => ∃ n : Nat, (n : Int) ≤ max most 0 ∧ s = .int .i64 (n : Nat) ∧ Hid (∀ k, k < n → readyL (itP P k).waits ≠ []) ∧ Hid (∃ S1, LAt p S w (itP P n) wr S1)) (fun s _ => most.toNat - (intOf s).toNat)
  case atStart => exact ⟨0, by omega, rfl, fun k hk => by omega, HI.out⟩
  case round =>
    clear HI
    obtain ⟨n, hn, rfl, HR, HT⟩ := hrel
    by_cases hlt : (n : Int) < most
    · have HNX : Hid (Calls Try.prog 13 #[.pointer (some ⟨p, 0, none⟩)] wr fun r w' => r = .returned (.tuple #[.int .i64 (nextN (itP P n) : Nat), .bool (nextB (itP P n))]) ∧ ∃ S2, LAt p S w (itP P (n + 1)) w' S2) := by
        obtain ⟨S1, h1⟩ := HT.out
        exact lat_next p S S1 (itP P n) w wr h1 (Bd.it HB.out n) (by have := itP_steps P n; have := HST.out; omega)
      have hd : decide ((n : Int) < most) = true := decide_eq_true hlt
      cases hB : nextB (itP P n) with
      | true =>
        rw [hB] at HNX
        have HRR : Hid (readyL (itP P n).waits ≠ []) := fun e => by
          unfold nextB at hB
          rw [e] at hB
          cases hB
        clear hB
        go_wp2_with fail
        refine Calls.mono HNX.out ?_
        rintro e w3 ⟨rfl, hT3⟩
        have HT3 : Hid _ := hT3
        clear hT3 HNX
        go_wp2_with fail
        go_roundw
        case rel => exact ⟨n + 1, by omega, by go_num, fun k hk => by
          by_cases hkn : k < n
          · exact HR.out k hkn
          · obtain rfl : k = n := by omega
            exact HRR.out, HT3.out⟩
        case measure => simp [intOf]; omega
      | false =>
        rw [hB] at HNX
        have hr : readyL (itP P n).waits = [] := by
          unfold nextB at hB
          simpa using hB
        have HE : Hid (itP P (n + 1) = itP P n) := by
          show nextP (itP P n) = itP P n
          unfold nextP
          rw [if_pos hr]
        have HRR : Hid _ := hr
        clear hB hr
        go_wp2_with fail
        refine Calls.mono HNX.out ?_
        rintro e w3 ⟨rfl, hT3⟩
        have HT3 : Hid _ := hT3
        clear hT3 HNX
        go_wp2_with fail
        go_ret
        exact ⟨n, rfl, ⟨hn, HR.out, Or.inr HRR.out⟩, by rw [← HE.out]; exact HT3.out⟩
    · have hd : decide ((n : Int) < most) = false := decide_eq_false hlt
      go_wp2_with fail
      go_ret
      exact ⟨n, rfl, ⟨hn, HR.out, Or.inl (by omega)⟩, HT.out⟩
/-- What a task took down, in a row of its own. -/
theorem told_any (B : Nat) (t : Tk) (w : World) (h : TkAt B w t) (hl : t.told.length ≤ 10000000000000) :
    Calls Try.prog 30 #[.pointer (some ⟨t.q, 0, none⟩)] w fun r w' => ∃ a c, r = .returned (.slice a t.told.length c) ∧ VA w'.heap.size w' a (t.told.map nV) ∧ Below w.heap.size w w' := by
  have ho := h.told
  have hq := h.hq
  have hqs := (Array.getElem?_eq_some_iff.1 hq).1
  obtain ⟨n, hn⟩ : ∃ n, t.told.length = n := ⟨_, rfl⟩
  rw [hn] at ho hl
  have HN : Hid _ := hn
  have HC : Hid (∃ a c, t.vt = .slice a n c ∧ Calls Try.prog 47 #[.slice a n c] w fun r w' => ∃ a' c', r = .returned (.slice a' n c') ∧ VA w'.heap.size w' a' (t.told.map nV) ∧ Below w.heap.size w w') := by
    rcases ho.2 with ⟨ev, h0⟩ | ⟨g, cap, cur, ev, _⟩
    · have hn0 : n = 0 := h0
      subst hn0
      refine ⟨none, 0, ev, (clone23_nil w).mono ?_⟩
      rintro r w' ⟨rfl, rfl⟩
      have ht : t.told = [] := List.eq_nil_of_length_eq_zero hn
      rw [ht]
      exact ⟨none, 0, rfl, VA.nil _ _ _, Below.refl _ _⟩
    · rw [ev] at ho
      refine ⟨some ⟨g, 0, none⟩, cap, ev, ?_⟩
      refine (clone23_some ⟨g, 0, none⟩ n cap (t.told.map nV) w (fun j u hj => ho.cells (g := g) rfl j u hj) (ho.lt g rfl).2 (by rw [List.length_map]; omega) (by intro u hu; obtain ⟨z, _, rfl⟩ := List.mem_map.1 hu; simp [nV, Value.oneCell']) (by omega)).mono ?_
      rintro r w' ⟨g', cap', rfl, _, ho', hB⟩
      obtain ⟨a, c, e1, e2, _⟩ := va_own ho'
      cases e1
      exact ⟨_, _, rfl, e2, hB⟩
  rw [hn]
  obtain ⟨a, c, ev, HCC⟩ := HC.out
  have cq : w.cell? ⟨t.q, 1, none⟩ = some (.slice a n c) := by
    have := cells_of_block hq 1
    rw [ev] at this
    simpa using this
  have HD : Hid _ := HCC
  clear h ho hq ev HCC HC hn
  go_enter Try.func30, Try.ntmps30
  go_wp2_with fail
  refine Calls.mono HD.out ?_
  rintro r w1 ⟨a', c', rfl, h1, h2⟩
  have H1 : Hid _ := h1
  have H2 : Hid _ := h2
  clear h1 h2
  go_wp2_with fail
  go_ret
  exact ⟨a', c', rfl, H1.out, H2.out⟩
end Go.Proofs.Ytefmhghdehokcaa
