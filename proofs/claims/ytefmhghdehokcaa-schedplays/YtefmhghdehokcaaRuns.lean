/-
  Steps one behind the other; whether all are done.
-/
import Derived.Test.YtefmhghdehokcaaNxt
namespace Go.Proofs.Ytefmhghdehokcaa
open Go.RowKit
def itP (P : PS) : Nat → PS
  | 0 => P
  | n + 1 => nextP (itP P n)
theorem nextP_steps (P : PS) : (nextP P).steps ≤ P.steps + 1 := by
  unfold nextP
  split
  · omega
  · rw [actP_steps]; exact Nat.le_refl _
theorem itP_steps (P : PS) (n : Nat) : (itP P n).steps ≤ P.steps + n := by
  induction n with
  | zero => exact Nat.le_refl _
  | succ n ih => have := nextP_steps (itP P n); rw [itP]; omega
theorem Bd.it {P : PS} (h : Bd P) (n : Nat) : Bd (itP P n) := by
  induction n with
  | zero => exact h
  | succ n ih => exact ih.next
/-- Behind n steps. -/
def RInv (w : World) (p : Nat) (P : PS) (n : Nat) : Prop := (∃ S, LA w p S ∧ S.ps = itP P n) ∧ ∀ k, k < n → readyL (itP P k).waits ≠ []
set_option maxHeartbeats 2000000 in
theorem la_run (p most : Nat) (S : LS) (w : World) (h : LA w p S) (hb : Bd S.ps) (hm : most ≤ 1000000000) (hN : ∀ n, n ≤ most → (∀ k, k < n → readyL (itP S.ps k).waits ≠ []) → S.steps + n ≤ 9000000000000000) :
    Calls Try.prog 26 #[.pointer (some ⟨p, 0, none⟩), .int .i64 (most : Nat)] w fun r w' => ∃ n : Nat, r = .returned (.int .i64 (n : Nat)) ∧ n ≤ most ∧ RInv w' p S.ps n ∧ (n = most ∨ readyL (itP S.ps n).waits = []) ∧ Lv p w w' := by
  obtain ⟨P, hP⟩ : ∃ P, S.ps = P := ⟨_, rfl⟩
  have HI : Hid (RInv w p P 0) := ⟨⟨S, h, hP⟩, fun k hk => by omega⟩
  have HV : Hid (Lv p w w) := ⟨Below.refl _ _, fun _ _ _ h => h⟩
  have HN : Hid (∀ n, n ≤ most → (∀ k, k < n → readyL (itP P k).waits ≠ []) → P.steps + n ≤ 9000000000000000) := by rw [← hP]; exact hN
  have HB : Hid (Bd P) := by rw [← hP]; exact hb
  rw [hP]
  clear h hb hN hP
  go_enter Try.func26, Try.ntmps26
  go_wp2_with fail
  go_loopw [5] (fun s wr => ∃ n : Nat, n ≤ most ∧ s = .int .i64 (n : Nat) ∧ Hid (RInv wr p P n) ∧ Hid (Lv p w wr)) (fun s _ => most - (intOf s).toNat)
  case atStart => exact ⟨0, by omega, rfl, HI.out, HV.out⟩
  case round =>
    clear HI HV
    obtain ⟨n, hn, rfl, HIn, HVn⟩ := hrel
    by_cases hlt : n < most
    · have HNX : Hid (Calls Try.prog 13 #[.pointer (some ⟨p, 0, none⟩)] wr fun r w' => r = .returned (.tuple #[.int .i64 (nextN (itP P n) : Nat), .bool (nextB (itP P n))]) ∧ (∃ S', LA w' p S' ∧ S'.ps = itP P (n + 1)) ∧ Lv p wr w') := by
        obtain ⟨⟨S1, h1, h2⟩, h3⟩ := HIn.out
        have hst : S1.steps < 10000000000000000 := by
          have e1 := HN.out n (by omega) h3
          have e2 := itP_steps P n
          rw [← h2] at e2
          have e3 : S1.ps.steps = S1.steps := rfl
          omega
        have := la_nxt p S1 wr h1 (by rw [h2]; exact Bd.it HB.out n) hst
        rw [h2] at this
        refine this.mono ?_
        rintro r w' ⟨rfl, S', e1, e2, e3, _⟩
        exact ⟨rfl, ⟨S', e1, e2⟩, h1.lv e3⟩
      cases hB : nextB (itP P n) with
      | true =>
        rw [hB] at HNX
        have hr : readyL (itP P n).waits ≠ [] := by
          intro e
          unfold nextB at hB
          rw [e] at hB
          cases hB
        have HR : Hid _ := hr
        clear hB hr
        go_wp2_with fail
        refine Calls.mono HNX.out ?_
        rintro e w3 ⟨rfl, hS3, v3⟩
        have HI3 : Hid (RInv w3 p P (n + 1)) := ⟨hS3, fun k hk => by
          by_cases hkn : k < n
          · exact HIn.out.2 k hkn
          · obtain rfl : k = n := by omega
            exact HR.out⟩
        have HV3 : Hid (Lv p w w3) := Lv.trans HVn.out v3
        clear hS3 v3 HNX
        go_wp2_with fail
        go_roundw
        case rel => exact ⟨n + 1, by omega, by go_num, HI3.out, HV3.out⟩
        case measure => simp [intOf]; omega
      | false =>
        rw [hB] at HNX
        have hr : readyL (itP P n).waits = [] := by
          unfold nextB at hB
          simpa using hB
        have he : itP P (n + 1) = itP P n := by
          show nextP (itP P n) = itP P n
          unfold nextP
          rw [if_pos hr]
        have HR : Hid _ := hr
        have HE : Hid _ := he
        clear hB hr he
        go_wp2_with fail
        refine Calls.mono HNX.out ?_
        rintro e w3 ⟨rfl, hS3, v3⟩
        have HI3 : Hid (RInv w3 p P n) := ⟨by rw [← HE.out]; exact hS3, HIn.out.2⟩
        have HV3 : Hid (Lv p w w3) := Lv.trans HVn.out v3
        clear hS3 v3 HNX
        go_wp2_with fail
        go_ret
        exact ⟨n, rfl, by omega, HI3.out, Or.inr HR.out, HV3.out⟩
    · obtain rfl : n = most := by omega
      go_wp2_with fail
      go_ret
      exact ⟨n, rfl, Nat.le_refl _, HIn.out, Or.inl rfl, HVn.out⟩
set_option maxHeartbeats 2000000 in
theorem la_done (p : Nat) (S : LS) (w : World) (h : LA w p S) (hn : S.tks.length ≤ 100) (hall : ∀ x ∈ S.waits, x = -1) :
    Calls Try.prog 27 #[.pointer (some ⟨p, 0, none⟩)] w fun r w' => r = .returned (.bool true) ∧ Below w.heap.size w w' := by
  have HW : Hid _ := la_waits p S w h hn
  obtain ⟨n, hl⟩ : ∃ n, S.waits.length = n := ⟨_, rfl⟩
  have hnb : n ≤ 100 := by rw [← hl, h.wlen']; exact hn
  have HL : Hid _ := hl
  have HA : Hid _ := hall
  have HW2 : Hid (Calls Try.prog 16 #[.pointer (some ⟨p, 0, none⟩)] w fun r w' => ∃ a c, r = .returned (.slice a n c) ∧ VA w'.heap.size w' a (S.waits.map iV) ∧ Below w.heap.size w w') := by
    have := HW.out
    rw [hl] at this
    exact this
  clear h hn hall hl HW
  go_enter Try.func27, Try.ntmps27
  go_wp2_with fail
  refine Calls.mono HW2.out ?_
  rintro e w1 ⟨a1, c1, rfl, va1, b1⟩
  have HV1 : Hid _ := va1
  have HB1 : Hid _ := b1
  clear va1 b1
  go_wp2_with fail
  go_loop [8] (fun i => ∃ k : Nat, k ≤ n ∧ i = .int .i64 (k : Nat)) (fun i => n - (intOf i).toNat)
  case atStart => exact ⟨0, by omega, rfl⟩
  case round =>
    obtain ⟨k, hk, rfl⟩ := hrel
    by_cases hlt : k < n
    · obtain ⟨x, hx⟩ : ∃ x, S.waits[k]? = some x := ⟨S.waits[k]'(by rw [HL.out]; exact hlt), List.getElem?_eq_getElem _⟩
      have hx1 := HA.out x (List.mem_of_getElem? hx)
      subst hx1
      obtain ⟨g, og, rfl, _, x0⟩ := HV1.out k (iV (-1)) (by rw [List.getElem?_map, hx]; rfl)
      rw [iV] at x0
      clear hx
      go_wp2_with fail
      go_round
      case rel => exact ⟨k + 1, by omega, by go_num⟩
      case measure => simp [intOf]; omega
    · obtain rfl : k = n := by omega
      go_wp2_with fail
      go_ret
      exact ⟨rfl, HB1.out⟩
/-- What is left to do of tasks that wait on nothing. -/
def remL : List (List (Int × Int) × List Int) → List Int → Nat
  | t :: ts, x :: xs => (if x = 0 then max 1 t.1.length else 0) + remL ts xs
  | _, _ => 0
def remT (t : List (Int × Int) × List Int) (x : Int) : Nat := if x = 0 then max 1 t.1.length else 0
theorem remL_set {ts : List (List (Int × Int) × List Int)} {xs : List Int} {i : Nat} {t t' : List (Int × Int) × List Int} {x x' : Int} (ht : ts[i]? = some t) (hx : xs[i]? = some x) : remL (ts.set i t') (xs.set i x') + remT t x = remL ts xs + remT t' x' := by
  induction ts generalizing xs i with
  | nil => simp at ht
  | cons a ts ih =>
    cases xs with
    | nil => simp at hx
    | cons y xs =>
      cases i with
      | zero =>
        simp at ht hx
        subst ht hx
        simp only [List.set_cons_zero, remL, remT]
        omega
      | succ i =>
        have := ih (i := i) (xs := xs) (by simpa using ht) (by simpa using hx)
        simp only [List.set_cons_succ, remL]
        omega
structure DInv (P : PS) : Prop where
  bd : Bd P
  wts : ∀ y ∈ P.waits, y = 0 ∨ y = -1
  nw : ∀ tk ∈ P.tasks, ∀ a ∈ tk.1, a.1 ≠ 2
theorem wakeL_none {ws : List Int} (h : ∀ y ∈ ws, y = 0 ∨ y = -1) (x : Int) : wakeL x ws = ws := by
  unfold wakeL
  split
  · rename_i hc
    have hx : 1 ≤ x := by
      unfold chanB at hc
      simp at hc
      exact hc.1
    conv => rhs; rw [← List.map_id ws]
    refine List.map_congr_left (fun y hy => ?_)
    unfold wk
    have := h y hy
    rw [if_neg (by omega)]
    rfl
  · rfl
theorem DInv.next {P : PS} (h : DInv P) (hr : readyL P.waits ≠ []) : DInv (nextP P) ∧ remL (nextP P).tasks (nextP P).waits + 1 = remL P.tasks P.waits ∧ (nextP P).steps = P.steps + 1 := by
  have hm : 0 < (readyL P.waits).length := List.length_pos_iff.2 hr
  have hjl : (P.picks.headD 0).toNat % (readyL P.waits).length < (readyL P.waits).length := Nat.mod_lt _ hm
  obtain ⟨i, hi⟩ : ∃ i, pickI P (P.picks.headD 0) = i := ⟨_, rfl⟩
  have hij : (readyL P.waits)[(P.picks.headD 0).toNat % (readyL P.waits).length]? = some i := by
    rw [← hi, pickI, List.getD_eq_getElem?_getD, List.getElem?_eq_getElem hjl]; rfl
  have hmem := List.mem_of_getElem? hij
  simp only [readyL, readyTo, List.mem_filter, List.mem_range] at hmem
  obtain ⟨hil, hi0⟩ := hmem
  have hi0' : P.waits.getD i 1 = 0 := by simpa using hi0
  have hwi : P.waits[i]? = some 0 := by
    rw [← hi0', List.getD_eq_getElem?_getD, List.getElem?_eq_getElem hil]; rfl
  have hit : i < P.tasks.length := by have := h.bd.wlen; omega
  have hE : nextP P = actP { P with picks := P.picks.tail } i := by unfold nextP; rw [if_neg hr, hi]
  have hbd : Bd (nextP P) := h.bd.next
  have hst : (nextP P).steps = P.steps + 1 := by rw [hE, actP_steps]
  obtain ⟨t, ht⟩ : ∃ t, P.tasks[i]? = some t := ⟨P.tasks[i], List.getElem?_eq_getElem hit⟩
  obtain ⟨acts, told⟩ := t
  have hgd : P.tasks.getD i ([], []) = (acts, told) := by rw [List.getD_eq_getElem?_getD, ht]; rfl
  refine ⟨?_, ?_, hst⟩
  · cases acts with
    | nil =>
      have hE2 : nextP P = { P with picks := P.picks.tail, steps := P.steps + 1, now := P.clock, waits := P.waits.set i (-1) } := by
        rw [hE]; unfold actP; simp only [hgd]; rfl
      refine { bd := hbd, wts := ?_, nw := ?_ }
      · rw [hE2]
        intro y hy
        rcases List.mem_or_eq_of_mem_set hy with e | e
        · exact h.wts y e
        · exact Or.inr e
      · rw [hE2]; exact h.nw
    | cons a l =>
      obtain ⟨k, x⟩ := a
      have hk2 : k ≠ 2 := h.nw _ (List.mem_of_getElem? ht) (k, x) (by simp)
      have hE2 : nextP P = { P with picks := P.picks.tail, steps := P.steps + 1, now := P.clock, tasks := P.tasks.set i (l, told ++ toldP { P with picks := P.picks.tail } k), waits := (wakeP { P with picks := P.picks.tail } k x).set i (restP k x l), draws := if k = 5 then P.draws.tail else P.draws, fu := if k = 5 then fuN P.draws P.fu else P.fu } := by
        rw [hE]; unfold actP; simp only [hgd]; rfl
      have hwk : wakeP { P with picks := P.picks.tail } k x = P.waits := by
        unfold wakeP
        split
        · exact wakeL_none h.wts x
        · rfl
      refine { bd := hbd, wts := ?_, nw := ?_ }
      · rw [hE2]
        intro y hy
        have hy' : y ∈ P.waits.set i (restP k x l) := by rw [← hwk]; exact hy
        rcases List.mem_or_eq_of_mem_set hy' with e | e
        · exact h.wts y e
        · rw [e]
          unfold restP restI
          rw [if_neg hk2]
          by_cases hl : l.length = 0
          · rw [decide_eq_true hl]; exact Or.inr rfl
          · rw [decide_eq_false hl]; exact Or.inl rfl
      · rw [hE2]
        intro tk htk
        have htk' : tk ∈ P.tasks.set i (l, told ++ toldP { P with picks := P.picks.tail } k) := htk
        rcases List.mem_or_eq_of_mem_set htk' with e | e
        · exact h.nw tk e
        · subst e
          intro a ha
          exact h.nw _ (List.mem_of_getElem? ht) a (List.mem_cons_of_mem _ ha)
  · cases acts with
    | nil =>
      have hE2 : nextP P = { P with picks := P.picks.tail, steps := P.steps + 1, now := P.clock, waits := P.waits.set i (-1) } := by
        rw [hE]; unfold actP; simp only [hgd]; rfl
      rw [hE2]
      show remL P.tasks (P.waits.set i (-1)) + 1 = _
      have := remL_set (t' := ([], told)) (x' := -1) ht hwi
      have e : P.tasks.set i ([], told) = P.tasks := by
        refine List.ext_getElem? fun m => ?_
        rw [List.getElem?_set]
        split
        · rename_i e
          subst e
          first | rw [ht] | rw [if_pos hit, ht]
        · rfl
      rw [e] at this
      have e1 : remT ([], told) 0 = 1 := by simp [remT]
      have e2 : remT ([], told) (-1) = 0 := by simp [remT]
      omega
    | cons a l =>
      obtain ⟨k, x⟩ := a
      have hk2 : k ≠ 2 := h.nw _ (List.mem_of_getElem? ht) (k, x) (by simp)
      have hE2 : nextP P = { P with picks := P.picks.tail, steps := P.steps + 1, now := P.clock, tasks := P.tasks.set i (l, told ++ toldP { P with picks := P.picks.tail } k), waits := (wakeP { P with picks := P.picks.tail } k x).set i (restP k x l), draws := if k = 5 then P.draws.tail else P.draws, fu := if k = 5 then fuN P.draws P.fu else P.fu } := by
        rw [hE]; unfold actP; simp only [hgd]; rfl
      have hwk : wakeP { P with picks := P.picks.tail } k x = P.waits := by
        unfold wakeP
        split
        · exact wakeL_none h.wts x
        · rfl
      rw [hE2, hwk]
      show remL (P.tasks.set i (l, told ++ toldP { P with picks := P.picks.tail } k)) (P.waits.set i (restP k x l)) + 1 = _
      have := remL_set (t' := (l, told ++ toldP { P with picks := P.picks.tail } k)) (x' := restP k x l) ht hwi
      have e1 : remT ((k, x) :: l, told) 0 = l.length + 1 := by simp [remT]
      have e2 : remT (l, told ++ toldP { P with picks := P.picks.tail } k) (restP k x l) = l.length := by
        unfold remT restP restI
        rw [if_neg hk2]
        by_cases hl : l.length = 0
        · rw [decide_eq_true hl, if_pos rfl, if_neg (by decide)]; omega
        · rw [decide_eq_false hl]
          simp [chanB]
          omega
      omega
theorem DInv.it {P : PS} (h : DInv P) (n : Nat) (hr : ∀ k, k < n → readyL (itP P k).waits ≠ []) : DInv (itP P n) ∧ remL (itP P n).tasks (itP P n).waits + n = remL P.tasks P.waits ∧ (itP P n).steps = P.steps + n := by
  induction n with
  | zero => exact ⟨h, rfl, rfl⟩
  | succ n ih =>
    obtain ⟨h1, h2, h3⟩ := ih (fun k hk => hr k (by omega))
    obtain ⟨e1, e2, e3⟩ := h1.next (hr n (by omega))
    exact ⟨e1, by show remL (nextP (itP P n)).tasks (nextP (itP P n)).waits + (n + 1) = _; omega, by show (nextP (itP P n)).steps = _; omega⟩
theorem rem_zero {P : PS} (h : DInv P) (hr : readyL P.waits = []) : (∀ y ∈ P.waits, y = -1) ∧ remL P.tasks P.waits = 0 := by
  have h1 : ∀ y ∈ P.waits, y = -1 := fun y hy => by
    rcases h.wts y hy with e | e
    · exfalso
      subst e
      obtain ⟨i, hi⟩ := List.mem_iff_getElem?.1 hy
      have hl := (List.getElem?_eq_some_iff.1 hi).1
      have : i ∈ readyL P.waits := by
        simp only [readyL, readyTo, List.mem_filter, List.mem_range]
        exact ⟨hl, by rw [List.getD_eq_getElem?_getD, hi]; rfl⟩
      rw [hr] at this
      simp at this
    · exact e
  refine ⟨h1, ?_⟩
  have : ∀ (ts : List (List (Int × Int) × List Int)) (xs : List Int), (∀ y ∈ xs, y = -1) → remL ts xs = 0 := by
    intro ts xs
    induction ts generalizing xs with
    | nil => intro _; rfl
    | cons t ts ih =>
      cases xs with
      | nil => intro _; rfl
      | cons x xs =>
        intro hx
        rw [remL, ih xs (fun y hy => hx y (List.mem_cons_of_mem _ hy)), hx x (by simp)]
        simp
  exact this _ _ h1
end Go.Proofs.Ytefmhghdehokcaa
