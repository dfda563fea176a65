/-
  The twin's Run; the loop's own, with what it leaves.
-/
import Derived.Test.YtefmhghdehokcaaTwinN
import Derived.Test.YtefmhghdehokcaaRuns
namespace Go.Proofs.Ytefmhghdehokcaa
open Go.RowKit
/-- How far a run goes: as long as something is ready, at most so far. -/
def RunN (P : PS) (most : Int) (n : Nat) : Prop := (n : Int) ≤ max most 0 ∧ (∀ k, k < n → readyL (itP P k).waits ≠ []) ∧ ((n : Int) = max most 0 ∨ readyL (itP P n).waits = [])
theorem RunN.same {P : PS} {most : Int} {n m : Nat} (h : RunN P most n) (k : RunN P most m) : n = m := by
  obtain ⟨h1, h2, h3⟩ := h
  obtain ⟨k1, k2, k3⟩ := k
  by_cases e1 : n < m
  · rcases h3 with h | h
    · omega
    · exact absurd h (k2 n e1)
  · by_cases e2 : m < n
    · rcases k3 with k | k
      · omega
      · exact absurd k (h2 m e2)
    · omega
theorem rest_wok (d : Bool) (wt : Int) : restI d wt = -1 ∨ (0 ≤ restI d wt ∧ restI d wt ≤ 1024) := by
  unfold restI
  by_cases hc : chanB wt = true
  · have h2 := hc
    unfold chanB at h2
    simp only [Bool.and_eq_true, decide_eq_true_eq] at h2
    cases d with
    | true => exact Or.inl rfl
    | false => right; simp only [hc]; simp; omega
  · cases d with
    | true => exact Or.inl rfl
    | false => right; simp only [hc]; simp
theorem actP_wok {P : PS} (h : WOk P) (i : Nat) : WOk (actP P i) := by
  have wake : ∀ (k x : Int), ∀ y ∈ wakeP P k x, y = -1 ∨ (0 ≤ y ∧ y ≤ 1024) := fun k x y hy => by
    unfold wakeP wakeL at hy
    split at hy
    · split at hy
      · obtain ⟨z, hz, rfl⟩ := List.mem_map.1 hy
        unfold wk
        split
        · right; omega
        · exact h z hz
      · exact h y hy
    · exact h y hy
  unfold actP
  split
  · intro y hy
    rcases List.mem_or_eq_of_mem_set hy with e | e
    · exact h y e
    · exact Or.inl e
  · rename_i k x l told _
    intro y hy
    rcases List.mem_or_eq_of_mem_set hy with e | e
    · exact wake _ _ y e
    · rw [e]
      exact rest_wok _ _
theorem nextP_wok {P : PS} (h : WOk P) : WOk (nextP P) := by
  unfold nextP
  split
  · exact h
  · exact actP_wok (P := { P with picks := P.picks.tail }) h _
theorem itP_wok {P : PS} (h : WOk P) (n : Nat) : WOk (itP P n) := by
  induction n with
  | zero => exact h
  | succ n ih => exact nextP_wok ih
/-- A twin that stands as the numbers say; what it leaves of another world. -/
structure TAt (lo x : Nat) (T : TS) (w : World) (P : PS) (w' : World) (T' : TS) : Prop where
  tw : TW w' lo x T'
  ps : T'.ps = P
  kb : Kb (TFoot x T) w w'
  up : TFootUp w x T T'
  acts : T'.ts.map (·.acts) = T.ts.map (·.acts)
  draws : T'.draws = T.draws
  picks : T'.picks = T.picks
  used : T'.used ≤ T'.picks.length
theorem tok_of {T T' : TS} (h : TOk T) (h1 : T'.ts.map (·.acts) = T.ts.map (·.acts)) (h2 : T'.draws = T.draws) : TOk T' where
  al := fun t ht => by
    have : t.acts ∈ T'.ts.map (·.acts) := List.mem_map.2 ⟨t, ht, rfl⟩
    rw [h1] at this
    obtain ⟨t0, ht0, e⟩ := List.mem_map.1 this
    rw [← e]
    exact h.al t0 ht0
  dl := by rw [h2]; exact h.dl
theorem tat_next (lo x : Nat) (T T1 : TS) (P : PS) (w w1 : World) (h : TAt lo x T w P w1 T1) (hb : Bd P) (ho : TOk T) (hpl : T.picks.length ≤ 65536) (hwo : WOk P) (hst : P.steps < 10000000000000000) :
    Calls Try.prog 36 #[.pointer (some ⟨x, 0, none⟩)] w1 fun r w' => r = .returned (.tuple #[.int .i64 (nextN P : Nat), .bool (nextB P)]) ∧ ∃ T2, TAt lo x T w (nextP P) w' T2 := by
  have := tnext lo x T1 w1 h.tw (by rw [h.ps]; exact hb) (tok_of ho h.acts h.draws) (by rw [h.picks]; exact hpl) h.used (by rw [h.ps]; exact hwo) (by have : T1.ps.steps = T1.count := rfl; rw [← this, h.ps]; exact hst)
  rw [h.ps] at this
  refine this.mono ?_
  rintro r w' ⟨rfl, T2, g1, g2, g3, g4, g5, g6, g7, g8⟩
  exact ⟨rfl, T2, g1, g2, h.kb.trans g3 (fun b hb e => (h.up b e).resolve_right (by omega)), h.up.trans g4 h.kb.size, g5.trans h.acts, g6.trans h.draws, g7.trans h.picks, g8⟩
set_option maxHeartbeats 2000000 in
theorem trun (lo x : Nat) (most : Int) (T : TS) (w : World) (h : TW w lo x T) (hb : Bd T.ps) (ho : TOk T) (hpl : T.picks.length ≤ 65536) (hul : T.used ≤ T.picks.length) (hwo : WOk T.ps) (hst : T.count < 9000000000000000) (hm : most ≤ 1000) :
    Calls Try.prog 37 #[.pointer (some ⟨x, 0, none⟩), .int .i64 most] w fun r w' => ∃ n : Nat, r = .returned (.int .i64 (n : Nat)) ∧ RunN T.ps most n ∧ ∃ T', TAt lo x T w (itP T.ps n) w' T' := by
  obtain ⟨P, hP⟩ : ∃ P, T.ps = P := ⟨_, rfl⟩
  have HI : Hid (∃ T1, TAt lo x T w (itP P 0) w T1) := ⟨T, h, hP, Kb.refl _ _, TFootUp.refl _ _ _, rfl, rfl, rfl, hul⟩
  have HST : Hid (P.steps < 9000000000000000) := by rw [← hP]; exact hst
  rw [hP] at hb hwo
  have HB : Hid _ := hb
  have HW : Hid _ := hwo
  have HO : Hid _ := ho
  have HPL : Hid _ := hpl
  rw [hP]
  clear h hb ho hpl hul hwo hst hP
  go_enter Try.func37, Try.ntmps37
  go_wp2_with fail
  go_loopw [5] (fun s wr => ∃ n : Nat, (n : Int) ≤ max most 0 ∧ s = .int .i64 (n : Nat) ∧ Hid (∀ k, k < n → readyL (itP P k).waits ≠ []) ∧ Hid (∃ T1, TAt lo x T w (itP P n) wr T1)) (fun s _ => most.toNat - (intOf s).toNat)
  case atStart => exact ⟨0, by omega, rfl, fun k hk => by omega, HI.out⟩
  case round =>
    clear HI
    obtain ⟨n, hn, rfl, HR, HT⟩ := hrel
    by_cases hlt : (n : Int) < most
    · have HNX : Hid (Calls Try.prog 36 #[.pointer (some ⟨x, 0, none⟩)] wr fun r w' => r = .returned (.tuple #[.int .i64 (nextN (itP P n) : Nat), .bool (nextB (itP P n))]) ∧ ∃ T2, TAt lo x T w (itP P (n + 1)) w' T2) := by
        obtain ⟨T1, h1⟩ := HT.out
        exact tat_next lo x T T1 (itP P n) w wr h1 (Bd.it HB.out n) HO.out HPL.out (itP_wok HW.out n) (by have := itP_steps P n; have := HST.out; omega)
      have hd : decide ((n : Int) < most) = true := decide_eq_true hlt
      cases hB : nextB (itP P n) with
      | true =>
        rw [hB] at HNX
        have HRR : Hid (readyL (itP P n).waits ≠ []) := fun e => by
          unfold nextB at hB
          rw [e] at hB
          cases hB
        clear hB
        go_wp2_with fail
        refine Calls.mono HNX.out ?_
        rintro e w3 ⟨rfl, hT3⟩
        have HT3 : Hid _ := hT3
        clear hT3 HNX
        go_wp2_with fail
        go_roundw
        case rel => exact ⟨n + 1, by omega, by go_num, fun k hk => by
          by_cases hkn : k < n
          · exact HR.out k hkn
          · obtain rfl : k = n := by omega
            exact HRR.out, HT3.out⟩
        case measure => simp [intOf]; omega
      | false =>
        rw [hB] at HNX
        have hr : readyL (itP P n).waits = [] := by
          unfold nextB at hB
          simpa using hB
        have HE : Hid (itP P (n + 1) = itP P n) := by
          show nextP (itP P n) = itP P n
          unfold nextP
          rw [if_pos hr]
        have HRR : Hid _ := hr
        clear hB hr
        go_wp2_with fail
        refine Calls.mono HNX.out ?_
        rintro e w3 ⟨rfl, hT3⟩
        have HT3 : Hid _ := hT3
        clear hT3 HNX
        go_wp2_with fail
        go_ret
        exact ⟨n, rfl, ⟨hn, HR.out, Or.inr HRR.out⟩, by rw [← HE.out]; exact HT3.out⟩
    · have hd : decide ((n : Int) < most) = false := decide_eq_false hlt
      go_wp2_with fail
      go_ret
      exact ⟨n, rfl, ⟨hn, HR.out, Or.inl (by omega)⟩, HT.out⟩
end Go.Proofs.Ytefmhghdehokcaa
