/-
  The twin's step where nothing is ready; its Next.
-/
import Derived.Test.YtefmhghdehokcaaTwinT
import Derived.Test.YtefmhghdehokcaaNxt
namespace Go.Proofs.Ytefmhghdehokcaa
open Go.RowKit
set_option maxRecDepth 100000 in
set_option maxHeartbeats 2000000 in
theorem tstep_none (lo x : Nat) (pick : Int) (T : TS) (w : World) (h : TW w lo x T) (hn : T.ts.length ≤ 64) (hc : pick < 0 ∨ readyL T.ps.waits = []) :
    Calls Try.prog 35 #[.pointer (some ⟨x, 0, none⟩), .int .i64 pick] w fun r w' => r = .returned (.tuple #[.int .i64 0, .bool false]) ∧ Below w.heap.size w w' := by
  have HRD : Hid _ := tready lo x T w h hn
  clear h hn
  by_cases hp : pick < 0
  · have hpd : decide (pick < 0) = true := decide_eq_true hp
    go_enter Try.func35, Try.ntmps35
    go_wp2_with fail
    refine Calls.mono HRD.out ?_
    rintro e w1 ⟨v1, rfl, _, b1⟩
    go_wp2_with fail
    go_ret2
    exact ⟨rfl, b1⟩
  · have hr := hc.resolve_left hp
    have hpd : decide (pick < 0) = false := decide_eq_false hp
    rw [hr] at HRD
    go_enter Try.func35, Try.ntmps35
    go_wp2_with fail
    refine Calls.mono HRD.out ?_
    rintro e w1 ⟨v1, rfl, o1, b1⟩
    obtain ⟨a1, c1, rfl⟩ := row_form o1
    rw [List.length_nil]
    clear o1
    go_wp2_with fail
    go_ret2
    exact ⟨rfl, b1⟩
theorem actP_picks (P : PS) (l : List Int) (i : Nat) : actP { P with picks := l } i = { actP P i with picks := l } := by
  unfold actP
  rw [show ({ P with picks := l } : PS).tasks.getD i ([], []) = P.tasks.getD i ([], []) from rfl]
  rcases P.tasks.getD i ([], []) with ⟨_ | ⟨⟨k, x⟩, l'⟩, told⟩ <;> rfl
theorem actP_pk (P : PS) (i : Nat) : (actP P i).picks = P.picks := by
  unfold actP
  split <;> rfl
set_option maxRecDepth 100000 in
set_option maxHeartbeats 2000000 in
/-- The twin's Next. -/
theorem tnext (lo x : Nat) (T : TS) (w : World) (h : TW w lo x T) (hb : Bd T.ps) (ho : TOk T) (hpl : T.picks.length ≤ 65536) (hul : T.used ≤ T.picks.length) (hwo : WOk T.ps) (hst : T.count < 10000000000000000) :
    Calls Try.prog 36 #[.pointer (some ⟨x, 0, none⟩)] w fun r w' => r = .returned (.tuple #[.int .i64 (nextN T.ps : Nat), .bool (nextB T.ps)]) ∧ ∃ T', TW w' lo x T' ∧ T'.ps = nextP T.ps ∧ Kb (TFoot x T) w w' ∧ TFootUp w x T T' ∧ T'.ts.map (·.acts) = T.ts.map (·.acts) ∧ T'.draws = T.draws ∧ T'.picks = T.picks ∧ T'.used ≤ T'.picks.length := by
  obtain ⟨aP, cP, hvP, hva, hcP, _⟩ := h.pk
  rw [List.length_map] at hvP
  obtain ⟨np, hnp⟩ : ∃ np, T.picks.length = np := ⟨_, rfl⟩
  obtain ⟨us, hus⟩ : ∃ us, T.used = us := ⟨_, rfl⟩
  rw [hnp] at hvP hpl
  rw [hnp, hus] at hul
  have hhx := h.hx
  rw [hvP, hus] at hhx
  have c0 : w.cell? ⟨x, 0, none⟩ = some (.slice aP np cP) := by have := cells_of_block hhx 0; simpa using this
  have c6 : w.cell? ⟨x, 6, none⟩ = some (.int .i64 (us : Nat)) := by have := cells_of_block hhx 6; simpa using this
  have hlen : T.ts.length ≤ 64 := by have := hb.len; simpa [TS.ps] using this
  have hpk := headD_good hb
  obtain ⟨pk, hpke⟩ : ∃ pk : Int, T.ps.picks.headD 0 = pk := ⟨_, rfl⟩
  rw [hpke] at hpk
  have HST : Hid (∀ W, TW W lo x T → Calls Try.prog 35 #[.pointer (some ⟨x, 0, none⟩), .int .i64 pk] W fun r w' => r = .returned (.tuple #[.int .i64 (nextN T.ps : Nat), .bool (nextB T.ps)]) ∧ ∃ T', TW w' lo x T' ∧ T'.ps = (if nextB T.ps = true then actP T.ps (nextN T.ps) else T.ps) ∧ Kb (TFoot x T) W w' ∧ TFootUp W x T T' ∧ TSame T T') := fun W hW => by
    by_cases hr : readyL T.ps.waits = []
    · have e1 : nextN T.ps = 0 := by unfold nextN; rw [if_pos hr]
      have e2 : nextB T.ps = false := by unfold nextB; rw [hr]; rfl
      rw [e1, e2]
      refine (tstep_none lo x pk T W hW hlen (Or.inr hr)).mono ?_
      rintro r w' ⟨rfl, b⟩
      exact ⟨rfl, T, hW.below b, rfl, Kb.of_below b, TFootUp.refl _ _ _, ⟨rfl, rfl, rfl, rfl, rfl⟩⟩
    · have hm : 0 < (readyL T.ps.waits).length := List.length_pos_iff.2 hr
      have hjl : pk.toNat % (readyL T.ps.waits).length < (readyL T.ps.waits).length := Nat.mod_lt _ hm
      obtain ⟨i, hi⟩ : ∃ i, (readyL T.ps.waits).getD (pk.toNat % (readyL T.ps.waits).length) 0 = i := ⟨_, rfl⟩
      have hij : (readyL T.ps.waits)[pk.toNat % (readyL T.ps.waits).length]? = some i := by rw [← hi, List.getD_eq_getElem?_getD, List.getElem?_eq_getElem hjl]; rfl
      have e1 : nextN T.ps = i := by unfold nextN pickI; rw [if_neg hr, hpke, hi]
      have e2 : nextB T.ps = true := by
        unfold nextB
        cases hq : readyL T.ps.waits with
        | nil => exact absurd hq hr
        | cons a l => rfl
      rw [e1, e2]
      refine (tstep lo x i (pk.toNat % (readyL T.ps.waits).length) pk T W hW hb ho hwo hst hpk (by rw [Int.tmod_eq_emod_of_nonneg hpk, Int.natCast_emod, Int.toNat_of_nonneg hpk]) hij).mono ?_
      rintro r w' ⟨rfl, T', g1, g2, g3, g4, g5⟩
      exact ⟨rfl, T', g1, g2, g3, g4, g5⟩
  have HFN : Hid (∀ T1 : TS, T1.ps = (if nextB T.ps = true then actP T.ps (nextN T.ps) else T.ps) → TSame T T1 → nextB T.ps = true → ({ T1 with used := min (T.used + 1) T.picks.length } : TS).ps = nextP T.ps) := fun T1 q1 q2 q3 => by
    rw [if_pos q3] at q1
    have hr : ¬ readyL T.ps.waits = [] := fun e => by unfold nextB at q3; rw [e] at q3; cases q3
    have e1 : nextP T.ps = actP { T.ps with picks := T.ps.picks.tail } (nextN T.ps) := by unfold nextP nextN; rw [if_neg hr, if_neg hr]
    rw [e1, actP_picks, ← q1]
    show PS.mk (T1.picks.drop (min (T.used + 1) T.picks.length)) _ _ _ _ _ _ _ = PS.mk (T.picks.drop T.used).tail _ _ _ _ _ _ _
    congr 1
    rw [q2.picks, List.tail_drop]
    by_cases hlt : T.used < T.picks.length
    · rw [Nat.min_eq_left (by omega)]
    · rw [Nat.min_eq_right (by omega), List.drop_eq_nil_of_le (Nat.le_refl _), List.drop_eq_nil_of_le (by omega)]
  have HFF : Hid (nextB T.ps = false → nextP T.ps = T.ps) := fun q => by
    unfold nextP
    have hr : readyL T.ps.waits = [] := by unfold nextB at q; simpa using q
    rw [if_pos hr]
  have HH : Hid (TW w lo x T) := h
  have HUS : Hid _ := hus
  have HNP : Hid _ := hnp
  have hxs := h.xs
  have HPK : Hid (us < np → ∃ b off, aP = some ⟨b, off, none⟩ ∧ w.cell? ⟨b, off + us, none⟩ = some (.int .i64 pk)) := fun hlt => by
    have hlt' : us < T.picks.length := by omega
    have e : T.ps.picks = T.picks.drop us := by rw [← hus]; rfl
    rw [e, List.drop_eq_getElem_cons hlt'] at hpke
    obtain ⟨b, off, f1, _, f3⟩ := hva us (iV (T.picks[us])) (by rw [List.getElem?_map, List.getElem?_eq_getElem hlt']; rfl)
    have hpke' : T.picks[us] = pk := hpke
    rw [hpke'] at f3
    exact ⟨b, off, f1, f3⟩
  have HP0 : Hid (¬ us < np → pk = 0) := fun hlt => by
    have e : T.ps.picks = T.picks.drop us := by rw [← hus]; rfl
    rw [e, List.drop_eq_nil_of_le (by omega)] at hpke
    exact hpke.symm
  have HAF : Hid (∀ (w' : World) (T1 : TS), TW w' lo x T1 → TSame T T1 → ∃ a c, w'.cell? ⟨x, 0, none⟩ = some (.slice a np c) ∧ w'.cell? ⟨x, 6, none⟩ = some (.int .i64 (us : Nat)) ∧ w'.frozen? ⟨x, 6, none⟩ = false ∧ TW (w'.setCell ⟨x, 6, none⟩ (.int .i64 ((us : Int) + 1))) lo x { T1 with used := us + 1 } ∧ Kb (fun b => b = x) w' (w'.setCell ⟨x, 6, none⟩ (.int .i64 ((us : Int) + 1)))) := fun w' T1 q1 q2 => by
    obtain ⟨a, c, e1, _, _, _⟩ := q1.pk
    rw [List.length_map, q2.picks, hnp] at e1
    have hx1 := q1.hx
    have k := (Kb.refl (fun b => b = x) w').setCell (x := x) rfl 6 (.int .i64 ((us : Int) + 1))
    refine ⟨a, c, ?_, ?_, by simp [World.frozen?, hx1], ?_, k⟩
    · have := cells_of_block hx1 0; rw [e1] at this; simpa using this
    · have := cells_of_block hx1 6; rw [q2.used, hus] at this; simpa using this
    · exact q1.num T1.clock T1.count (us + 1) T1.drawn (block_set hx1 6 _) k
  obtain ⟨N, hN⟩ : ∃ N, nextN T.ps = N := ⟨_, rfl⟩
  obtain ⟨B, hB⟩ : ∃ B, nextB T.ps = B := ⟨_, rfl⟩
  rw [hN, hB] at HST
  rw [hB] at HFN HFF
  rw [hN] at HFN
  rw [hN, hB]
  clear h hb ho hwo hst hhx hva hcP hnp hus hvP hpke hpk hlen hN hB
  by_cases hlt : us < np
  · obtain ⟨b, off, rfl, cpk⟩ := HPK.out hlt
    have hd : decide ((us : Int) < (np : Int)) = true := decide_eq_true (by omega)
    have hltI : (us : Int) < (np : Int) := by omega
    clear HPK HP0
    go_enter Try.func36, Try.ntmps36
    go_upto_region 2 with fail
    go_quiet (fail)
    obtain ⟨W1, hW1⟩ : ∃ W1, w.drewN nq = W1 := ⟨_, rfl⟩
    have b1 : Below w.heap.size w W1 := by rw [← hW1]; exact belD _ _
    have d0 : W1.cell? ⟨x, 0, none⟩ = some (.slice (some ⟨b, off, none⟩) np cP) := by rw [← hW1]; exact c0
    have d6 : W1.cell? ⟨x, 6, none⟩ = some (.int .i64 (us : Nat)) := by rw [← hW1]; exact c6
    have dk : W1.cell? ⟨b, off + us, none⟩ = some (.int .i64 pk) := by rw [← hW1]; exact cpk
    rw [hW1]
    have HB1 : Hid _ := b1
    clear hW1 b1 c0 c6 cpk
    go_upto_region 3 with fail
    go_quiet (fail)
    obtain ⟨W2, hW2⟩ : ∃ W2, W1.drewN nq = W2 := ⟨_, rfl⟩
    have b2 : Below w.heap.size w W2 := by rw [← hW2]; exact HB1.out.trans ((belD _ _).mono HB1.out.size)
    rw [hW2]
    have HB2 : Hid _ := b2
    have HC : Hid _ := HST.out W2 (HH.out.below b2)
    clear hW2 b2 d0 d6 dk HST HB1
    go_wp2_with fail
    refine Calls.mono HC.out ?_
    rintro e w3 ⟨rfl, T1, g1, g2, g3, g4, g5⟩
    obtain ⟨a3, c3, x0, x6, xf, x7, x8⟩ := HAF.out w3 T1 g1 g5
    have HG : Hid _ := And.intro g1 (And.intro g2 (And.intro g3 (And.intro g4 g5)))
    have HX7 : Hid _ := x7
    have HX8 : Hid _ := x8
    clear g1 g2 g3 g4 g5 x7 x8 HC
    cases B with
    | true =>
      go_upto_region 5 with fail
      go_quiet (fail)
      obtain ⟨W5, hW5⟩ : ∃ W5, w3.drewN nq = W5 := ⟨_, rfl⟩
      have b5 : Below w3.heap.size w3 W5 := by rw [← hW5]; exact belD _ _
      rw [hW5]
      obtain ⟨g1, g2, g3, g4, g5⟩ := HG.out
      obtain ⟨a5, c5, y0, y6, yf, y7, y8⟩ := HAF.out W5 T1 (g1.below b5) g5
      have HY7 : Hid _ := y7
      have HY8 : Hid _ := y8
      have HB5 : Hid _ := b5
      clear g1 g2 g3 g4 g5 y7 y8 HAF hW5 b5
      go_wp2_with fail
      go_ret2
      obtain ⟨g1, g2, g3, g4, g5⟩ := HG.out
      have e0 : ({ T1 with used := us + 1 } : TS).ps = nextP T.ps := by
        have := HFN.out T1 g2 g5 trivial
        rw [HUS.out, HNP.out, Nat.min_eq_left (by omega)] at this
        exact this
      refine ⟨rfl, _, HY7.out, e0, ?_, ?_, g5.acts, g5.draws, g5.picks, ?_⟩
      · exact (((Kb.of_below HB2.out).trans g3 (fun _ _ e => e)).trans (Kb.of_below (S := fun _ => False) HB5.out) (fun _ _ e => e.elim)).trans HY8.out (fun b _ e => by rw [e]; exact Or.inl rfl)
      · exact fun b e => (g4 b e).imp id (fun e => Nat.le_trans HB2.out.size e)
      · show us + 1 ≤ T1.picks.length
        rw [g5.picks, HNP.out]; omega
    | false =>
      go_upto_region 5 with fail
      go_quiet (fail)
      obtain ⟨W5, hW5⟩ : ∃ W5, w3.drewN nq = W5 := ⟨_, rfl⟩
      have b5 : Below w3.heap.size w3 W5 := by rw [← hW5]; exact belD _ _
      rw [hW5]
      have HB5 : Hid _ := b5
      clear hW5 b5
      go_wp2_with fail
      go_ret2
      obtain ⟨g1, g2, g3, g4, g5⟩ := HG.out
      refine ⟨rfl, T1, g1.below HB5.out, ?_, ?_, fun b e => (g4 b e).imp id (fun e => Nat.le_trans HB2.out.size e), g5.acts, g5.draws, g5.picks, ?_⟩
      · rw [HFF.out trivial]; exact g2
      · exact ((Kb.of_below HB2.out).trans g3 (fun _ _ e => e)).trans (Kb.of_below (S := fun _ => False) HB5.out) (fun _ _ e => e.elim)
      · rw [g5.used, g5.picks, HUS.out, HNP.out]; exact hul
  · have hpk0 := HP0.out hlt
    subst hpk0
    have hd : decide ((us : Int) < (np : Int)) = false := decide_eq_false (by omega)
    clear HPK HP0
    go_enter Try.func36, Try.ntmps36
    go_upto_region 2 with fail
    go_quiet (fail)
    obtain ⟨W2, hW2⟩ : ∃ W2, w.drewN nq = W2 := ⟨_, rfl⟩
    have b2 : Below w.heap.size w W2 := by rw [← hW2]; exact belD _ _
    rw [hW2]
    have HB2 : Hid _ := b2
    have HC : Hid _ := HST.out W2 (HH.out.below b2)
    clear hW2 b2 c0 c6 HST
    go_wp2_with fail
    refine Calls.mono HC.out ?_
    rintro e w3 ⟨rfl, T1, g1, g2, g3, g4, g5⟩
    obtain ⟨a3, c3, x0, x6, xf, x7, x8⟩ := HAF.out w3 T1 g1 g5
    have HG : Hid _ := And.intro g1 (And.intro g2 (And.intro g3 (And.intro g4 g5)))
    clear g1 g2 g3 g4 g5 x7 x8 HC HAF
    cases B with
    | true =>
      go_upto_region 5 with fail
      go_quiet (fail)
      obtain ⟨W5, hW5⟩ : ∃ W5, w3.drewN nq = W5 := ⟨_, rfl⟩
      have b5 : Below w3.heap.size w3 W5 := by rw [← hW5]; exact belD _ _
      rw [hW5]
      have HB5 : Hid _ := b5
      clear hW5 b5
      go_wp2_with fail
      go_ret2
      obtain ⟨g1, g2, g3, g4, g5⟩ := HG.out
      have e0 : T1.ps = nextP T.ps := by
        have := HFN.out T1 g2 g5 trivial
        rw [HUS.out, HNP.out, Nat.min_eq_right (by omega), show np = T1.used by rw [g5.used, HUS.out]; omega] at this
        exact this
      refine ⟨rfl, T1, g1.below HB5.out, e0, ?_, fun b e => (g4 b e).imp id (fun e => Nat.le_trans HB2.out.size e), g5.acts, g5.draws, g5.picks, ?_⟩
      · exact ((Kb.of_below HB2.out).trans g3 (fun _ _ e => e)).trans (Kb.of_below (S := fun _ => False) HB5.out) (fun _ _ e => e.elim)
      · rw [g5.used, g5.picks, HUS.out, HNP.out]; exact hul
    | false =>
      go_upto_region 5 with fail
      go_quiet (fail)
      obtain ⟨W5, hW5⟩ : ∃ W5, w3.drewN nq = W5 := ⟨_, rfl⟩
      have b5 : Below w3.heap.size w3 W5 := by rw [← hW5]; exact belD _ _
      rw [hW5]
      have HB5 : Hid _ := b5
      clear hW5 b5
      go_wp2_with fail
      go_ret2
      obtain ⟨g1, g2, g3, g4, g5⟩ := HG.out
      refine ⟨rfl, T1, g1.below HB5.out, ?_, ?_, fun b e => (g4 b e).imp id (fun e => Nat.le_trans HB2.out.size e), g5.acts, g5.draws, g5.picks, ?_⟩
      · rw [HFF.out trivial]; exact g2
      · exact ((Kb.of_below HB2.out).trans g3 (fun _ _ e => e)).trans (Kb.of_below (S := fun _ => False) HB5.out) (fun _ _ e => e.elim)
      · rw [g5.used, g5.picks, HUS.out, HNP.out]; exact hul
end Go.Proofs.Ytefmhghdehokcaa
