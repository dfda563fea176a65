/-
  The twin's step, as numbers.
-/
import Derived.Test.YtefmhghdehokcaaTwinS
namespace Go.Proofs.Ytefmhghdehokcaa
open Go.RowKit
/-- Lengths that stay. -/
structure TOk (T : TS) : Prop where
  al : ∀ t ∈ T.ts, t.acts.length ≤ 10000000000000
  dl : T.draws.length ≤ 65536
def WOk (P : PS) : Prop := ∀ y ∈ P.waits, y = -1 ∨ (0 ≤ y ∧ y ≤ 1024)
/-- A task that has no acts left rests. -/
def fin (t : TT) : TT := { t with wait := if t.pos = t.acts.length then -1 else t.wait }
/-- What stays the same. -/
structure TSame (T T' : TS) : Prop where
  acts : T'.ts.map (·.acts) = T.ts.map (·.acts)
  draws : T'.draws = T.draws
  picks : T'.picks = T.picks
  used : T'.used = T.used
  vT : T'.vT = T.vT
theorem TSame.trans {A B C : TS} (h : TSame A B) (k : TSame B C) : TSame A C := ⟨k.acts.trans h.acts, k.draws.trans h.draws, k.picks.trans h.picks, k.used.trans h.used, k.vT.trans h.vT⟩
theorem map_set_same {α β : Type} {f : α → β} {l : List α} {i : Nat} {a b : α} (h : l[i]? = some a) (e : f b = f a) : (l.set i b).map f = l.map f := by
  rw [List.map_set, e]
  exact set_same (by rw [List.getElem?_map, h]; rfl)
theorem TSame.set {T T2 : TS} {i : Nat} {t t2 : TT} (hti : T.ts[i]? = some t) (h : T2.ts = T.ts.set i t2) (e : t2.acts = t.acts) (e1 : T2.draws = T.draws) (e2 : T2.picks = T.picks) (e3 : T2.used = T.used) (e4 : T2.vT = T.vT) : TSame T T2 :=
  ⟨by rw [h]; exact map_set_same hti e, e1, e2, e3, e4⟩
theorem ps_fin {T2 : TS} {i : Nat} {t2 : TT} (h2 : T2.ts[i]? = some t2) : ({ T2 with ts := T2.ts.set i (fin t2) } : TS).ps = { T2.ps with waits := T2.ps.waits.set i (fin t2).wait } := by
  have e1 : (T2.ts.set i (fin t2)).map (fun t => (t.acts.drop t.pos, t.told)) = T2.ts.map (fun t => (t.acts.drop t.pos, t.told)) := map_set_same h2 rfl
  have e2 : (T2.ts.set i (fin t2)).map (·.wait) = (T2.ts.map (·.wait)).set i (fin t2).wait := List.map_set ..
  simp only [TS.ps, e1, e2]
def midP (P : PS) (i : Nat) (k n : Int) (l : List (Int × Int)) (told : List Int) (z : Int) : PS := { P with steps := P.steps + 1, now := P.clock, tasks := P.tasks.set i (l, told ++ toldP P k), waits := (wakeP P k n).set i z, draws := if k = 5 then P.draws.tail else P.draws, fu := if k = 5 then fuN P.draws P.fu else P.fu }
theorem tasks_at {T : TS} {i : Nat} {t : TT} (hti : T.ts[i]? = some t) : T.ps.tasks.getD i ([], []) = (t.acts.drop t.pos, t.told) := by
  show (T.ts.map _).getD i _ = _
  rw [List.getD_eq_getElem?_getD, List.getElem?_map, hti]
  rfl
theorem act_nil {T T2 : TS} {i : Nat} {t : TT} (hti : T.ts[i]? = some t) (hp : t.pos = t.acts.length) (e : T2 = { T with clock := T.ps.clock, count := T.count + 1 }) : ({ T2 with ts := T2.ts.set i (fin t) } : TS).ps = actP T.ps i := by
  have h2 : T2.ts[i]? = some t := by rw [e]; exact hti
  rw [ps_fin h2]
  have hn : t.acts.drop t.pos = [] := by rw [hp]; simp
  unfold actP
  rw [tasks_at hti, hn]
  have hw : (fin t).wait = -1 := by unfold fin; simp [hp]
  rw [hw, e]
  rfl
theorem act_cons {T T2 : TS} {i : Nat} {t t2 : TT} {k n : Int} {l : List (Int × Int)} {z : Int} (hti : T.ts[i]? = some t) (hl : t.acts.drop t.pos = (k, n) :: l) (h2 : T2.ts[i]? = some t2) (e : T2.ps = midP T.ps i k n l t.told z) (hw : (fin t2).wait = restP k n l) : ({ T2 with ts := T2.ts.set i (fin t2) } : TS).ps = actP T.ps i := by
  rw [ps_fin h2, e, hw]
  unfold actP
  rw [tasks_at hti, hl]
  simp only [midP, List.set_set]
theorem mid_of {T T2 : TS} {i : Nat} {k n : Int} {l : List (Int × Int)} {told : List Int} {z : Int} (e1 : T2.picks = T.picks) (e2 : T2.used = T.used) (e3 : T2.ticks = T.ticks) (e4 : T2.count = T.count + 1) (e5 : T2.clock = T.ps.clock) (e6 : T2.draws = T.draws) (e7 : T2.drawn = if k = 5 then T.drawn + 1 else T.drawn)
    (e8 : T2.ts.map (fun t => (t.acts.drop t.pos, t.told)) = T.ps.tasks.set i (l, told ++ toldP T.ps k)) (e9 : T2.ts.map (·.wait) = (wakeP T.ps k n).set i z) : T2.ps = midP T.ps i k n l told z := by
  have d1 : T2.draws.drop T2.drawn = if k = 5 then T.ps.draws.tail else T.ps.draws := by
    rw [e6, e7]
    split
    · show _ = (T.draws.drop T.drawn).tail
      rw [List.tail_drop]
    · rfl
  have d2 : T2.drawn - T2.draws.length = if k = 5 then fuN T.ps.draws T.ps.fu else T.ps.fu := by
    rw [e6, e7]
    split
    · show _ = fuN (T.draws.drop T.drawn) (T.drawn - T.draws.length)
      by_cases hd : T.drawn < T.draws.length
      · rw [List.drop_eq_getElem_cons hd]
        show _ = T.drawn - T.draws.length
        omega
      · rw [List.drop_eq_nil_of_le (by omega)]
        show _ = T.drawn - T.draws.length + 1
        omega
    · rfl
  have d3 : T2.picks.drop T2.used = T.ps.picks := by rw [e1, e2]; rfl
  show PS.mk (T2.picks.drop T2.used) T2.ticks (T2.ts.map _) (T2.ts.map _) T2.count T2.clock (T2.draws.drop T2.drawn) (T2.drawn - T2.draws.length) = _
  rw [d1, d2, d3, e3, e4, e5, e8, e9]
  rfl
/-- What a task's place is, an act further. -/
theorem drop_act {t : TT} {k n : Int} (h : t.acts[t.pos]? = some (k, n)) : t.acts.drop t.pos = (k, n) :: t.acts.drop (t.pos + 1) := by
  have hj := (List.getElem?_eq_some_iff.1 h).1
  rw [List.drop_eq_getElem_cons hj]
  congr 1
  exact (List.getElem?_eq_some_iff.1 h).2
theorem rest_eq {t : TT} {k n : Int} (hp : t.pos < t.acts.length) (z : Int) (hz : z = if k = 2 ∧ chanB n = true then n else 0) : (if t.pos + 1 = t.acts.length then -1 else z) = restP k n (t.acts.drop (t.pos + 1)) := by
  unfold restP restI
  by_cases h1 : t.pos + 1 = t.acts.length
  · have h2 : (t.acts.drop (t.pos + 1)).length = 0 := by rw [List.length_drop]; omega
    simp [h1]
  · have h2 : (t.acts.drop (t.pos + 1)).length ≠ 0 := by rw [List.length_drop]; omega
    rw [if_neg h1, decide_eq_false h2, hz]
    simp only [h2, if_false]
    by_cases hk : k = 2
    · by_cases hc : chanB n = true
      · simp [hk, hc]
      · simp [hk, hc]
    · simp [hk, chanB]
/-- What a step makes of tasks and waits, no waking. -/
theorem mid_set {T : TS} {i : Nat} {t t2 : TT} {k n : Int} (hk : k ≠ 3) (h1 : t2.acts = t.acts) (h2 : t2.pos = t.pos + 1) (h3 : t2.told = t.told ++ toldP T.ps k) :
    (T.ts.set i t2).map (fun t => (t.acts.drop t.pos, t.told)) = T.ps.tasks.set i (t.acts.drop (t.pos + 1), t.told ++ toldP T.ps k) ∧ (T.ts.set i t2).map (·.wait) = (wakeP T.ps k n).set i t2.wait := by
  constructor
  · rw [List.map_set, h1, h2, h3]; rfl
  · rw [List.map_set]
    unfold wakeP
    rw [if_neg hk]
    rfl
/-- The same with waking. -/
theorem mid_wake {T : TS} {i : Nat} {t t2 : TT} {n : Int} (hwo : WOk T.ps) (h1 : t2.acts = t.acts) (h2 : t2.pos = t.pos + 1) (h3 : t2.told = t.told) :
    ((T.ts.set i t2).map (wkT n)).map (fun t => (t.acts.drop t.pos, t.told)) = T.ps.tasks.set i (t.acts.drop (t.pos + 1), t.told ++ toldP T.ps 3) ∧ ((T.ts.set i t2).map (wkT n)).map (·.wait) = (wakeP T.ps 3 n).set i (wkT n t2).wait := by
  constructor
  · rw [List.map_map]
    have : ((fun t : TT => (t.acts.drop t.pos, t.told)) ∘ wkT n) = (fun t : TT => (t.acts.drop t.pos, t.told)) := rfl
    rw [this, List.map_set, h1, h2, h3]
    have : toldP T.ps 3 = [] := rfl
    rw [this, List.append_nil]
    rfl
  · rw [List.map_map]
    have : ((·.wait) ∘ wkT n) = ((fun y : Int => if 0 < n ∧ y = n then 0 else y) ∘ (fun t : TT => t.wait)) := rfl
    rw [this, ← List.map_map, List.map_set, List.map_set]
    have e : wakeP T.ps 3 n = wakeL n T.ps.waits := rfl
    rw [e, ← wk_same hwo n]
    rfl
theorem close_set {T T2 : TS} {i : Nat} {t t2 : TT} {k n : Int} (hti : T.ts[i]? = some t) (hact : t.acts[t.pos]? = some (k, n)) (hk : k ≠ 3) (hts : T2.ts = T.ts.set i t2) (h1 : t2.acts = t.acts) (h2 : t2.pos = t.pos + 1) (h3 : t2.told = t.told ++ toldP T.ps k) (h4 : t2.wait = if k = 2 ∧ chanB n = true then n else 0)
    (e1 : T2.picks = T.picks) (e2 : T2.used = T.used) (e3 : T2.ticks = T.ticks) (e4 : T2.count = T.count + 1) (e5 : T2.clock = T.ps.clock) (e6 : T2.draws = T.draws) (e7 : T2.drawn = if k = 5 then T.drawn + 1 else T.drawn) (e8 : T2.vT = T.vT) :
    T2.ts[i]? = some t2 ∧ ({ T2 with ts := T2.ts.set i (fin t2) } : TS).ps = actP T.ps i ∧ TSame T T2 := by
  have hil := (List.getElem?_eq_some_iff.1 hti).1
  have hpl := (List.getElem?_eq_some_iff.1 hact).1
  have h5 : T2.ts[i]? = some t2 := by rw [hts, List.getElem?_set]; simp [hil]
  obtain ⟨m1, m2⟩ := mid_set (T := T) (i := i) (t := t) (t2 := t2) (k := k) (n := n) hk h1 h2 h3
  refine ⟨h5, act_cons hti (drop_act hact) h5 (mid_of (z := t2.wait) e1 e2 e3 e4 e5 e6 e7 (by rw [hts]; exact m1) (by rw [hts]; exact m2)) ?_, TSame.set hti hts h1 e6 e1 e2 e8⟩
  show (if t2.pos = t2.acts.length then -1 else t2.wait) = _
  rw [h1, h2]
  exact rest_eq hpl _ h4
theorem close_wake {T T2 : TS} {i : Nat} {t t2 : TT} {n : Int} (hwo : WOk T.ps) (hti : T.ts[i]? = some t) (hact : t.acts[t.pos]? = some (3, n)) (hts : T2.ts = (T.ts.set i t2).map (wkT n)) (h1 : t2.acts = t.acts) (h2 : t2.pos = t.pos + 1) (h3 : t2.told = t.told) (h4 : t2.wait = 0)
    (e1 : T2.picks = T.picks) (e2 : T2.used = T.used) (e3 : T2.ticks = T.ticks) (e4 : T2.count = T.count + 1) (e5 : T2.clock = T.ps.clock) (e6 : T2.draws = T.draws) (e7 : T2.drawn = T.drawn) (e8 : T2.vT = T.vT) :
    T2.ts[i]? = some (wkT n t2) ∧ ({ T2 with ts := T2.ts.set i (fin (wkT n t2)) } : TS).ps = actP T.ps i ∧ TSame T T2 := by
  have hil := (List.getElem?_eq_some_iff.1 hti).1
  have hpl := (List.getElem?_eq_some_iff.1 hact).1
  have h5 : T2.ts[i]? = some (wkT n t2) := by rw [hts, List.getElem?_map, List.getElem?_set]; simp [hil]
  obtain ⟨m1, m2⟩ := mid_wake (T := T) (i := i) (t := t) (t2 := t2) (n := n) hwo h1 h2 h3
  refine ⟨h5, act_cons hti (drop_act hact) h5 (mid_of (z := (wkT n t2).wait) e1 e2 e3 e4 e5 e6 (by rw [e7]; rfl) (by rw [hts]; exact m1) (by rw [hts]; exact m2)) ?_, ⟨?_, e6, e1, e2, e8⟩⟩
  · show (if t2.pos = t2.acts.length then -1 else (if 0 < n ∧ t2.wait = n then 0 else t2.wait)) = _
    rw [h1, h2, h4]
    have : (if 0 < n ∧ (0 : Int) = n then (0 : Int) else 0) = 0 := by split <;> rfl
    rw [this]
    exact rest_eq hpl _ rfl
  · rw [hts, List.map_map]
    show (T.ts.set i t2).map (·.acts) = _
    exact map_set_same hti h1
end Go.Proofs.Ytefmhghdehokcaa
