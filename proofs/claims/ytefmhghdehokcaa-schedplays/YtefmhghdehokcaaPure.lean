/-
  What a loop is, memory aside; a step of it.
-/
import Derived.Test.YtefmhghdehokcaaSany
namespace Go.Proofs.Ytefmhghdehokcaa
open Go.RowKit
/-- A loop as numbers alone: of each task the acts that are left, and what it took down. -/
structure PS where
  picks : List Int
  ticks : List Int
  tasks : List (List (Int × Int) × List Int)
  waits : List Int
  steps : Nat
  now : Int
  draws : List Int
  fu : Nat
def LS.ps (S : LS) : PS where
  picks := S.picks
  ticks := S.ticks
  tasks := S.tks.map (fun t => (t.acts, t.told))
  waits := S.waits
  steps := S.steps
  now := S.now
  draws := S.draws
  fu := S.fu
def PS.clock (P : PS) : Int := clockI P.ticks P.steps P.now
def toldP (P : PS) (k : Int) : List Int := if k = 4 then [P.clock] else if k = 5 then [drawI P.draws P.fu] else []
def wakeP (P : PS) (k x : Int) : List Int := if k = 3 then wakeL x P.waits else P.waits
def restP (k x : Int) (l : List (Int × Int)) : Int := restI (decide (l.length = 0)) (if k = 2 then (if l.length = 0 then 0 else x) else 0)
/-- A step of task i. -/
def actP (P : PS) (i : Nat) : PS :=
  match P.tasks.getD i ([], []) with
  | ([], _) => { P with steps := P.steps + 1, now := P.clock, waits := P.waits.set i (-1) }
  | ((k, x) :: l, told) => { P with steps := P.steps + 1, now := P.clock, tasks := P.tasks.set i (l, told ++ toldP P k), waits := (wakeP P k x).set i (restP k x l), draws := if k = 5 then P.draws.tail else P.draws, fu := if k = 5 then fuN P.draws P.fu else P.fu }
/-- Numbers stay small. -/
structure Bd (P : PS) : Prop where
  len : P.tasks.length ≤ 64
  wlen : P.waits.length = P.tasks.length
  acts : ∀ x ∈ P.tasks, x.1.length + x.2.length ≤ 10000000000000
  fu : P.fu ≤ P.steps
  draws : P.draws.length ≤ 65536
  tlen : P.ticks.length ≤ 65536
  tcs : ∀ x ∈ P.ticks, 0 ≤ x ∧ x < 2147483648
  now0 : 0 ≤ P.now
  now1 : P.now ≤ ((min P.steps P.ticks.length : Nat) : Int) * 2147483648
  pks : ∀ x ∈ P.picks, 0 ≤ x
theorem wakeP_len (P : PS) (k x : Int) : (wakeP P k x).length = P.waits.length := by
  unfold wakeP
  split
  · exact wakeL_len _ _
  · rfl
theorem clock_bd {P : PS} (h : Bd P) : 0 ≤ P.clock ∧ P.clock ≤ ((min (P.steps + 1) P.ticks.length : Nat) : Int) * 2147483648 := by
  have h1 := h.now0
  have h2 := h.now1
  unfold PS.clock clockI
  by_cases hi : P.steps < P.ticks.length
  · have h3 : 0 ≤ P.ticks.getD P.steps 0 ∧ P.ticks.getD P.steps 0 < 2147483648 := by
      rw [List.getD_eq_getElem?_getD, List.getElem?_eq_getElem hi]
      exact h.tcs _ (List.getElem_mem hi)
    rw [Nat.min_eq_left (by omega)] at h2 ⊢
    omega
  · rw [List.getD_eq_getElem?_getD, List.getElem?_eq_none (by omega)]
    rw [Nat.min_eq_right (by omega)] at h2 ⊢
    simp
    omega
theorem fuN_le (draws : List Int) (fu : Nat) : fuN draws fu ≤ fu + 1 := by
  unfold fuN
  split <;> omega
theorem toldP_le (P : PS) (k : Int) : (toldP P k).length ≤ 1 := by
  unfold toldP
  split
  · simp
  · split <;> simp
theorem Bd.act {P : PS} (h : Bd P) (i : Nat) : Bd (actP P i) := by
  have hc := clock_bd h
  unfold actP
  split
  · exact { len := h.len, wlen := by show (P.waits.set i (-1)).length = _; rw [List.length_set]; exact h.wlen, acts := h.acts, fu := Nat.le_succ_of_le h.fu, draws := h.draws, tlen := h.tlen, tcs := h.tcs, now0 := hc.1, now1 := hc.2, pks := h.pks }
  · rename_i k x l told he
    have hmem : P.tasks[i]? = some ((k, x) :: l, told) := by
      rw [List.getD_eq_getElem?_getD] at he
      cases hg : P.tasks[i]? with
      | none => rw [hg] at he; simp at he
      | some v => rw [hg] at he; simp at he; rw [he]
    have h0 := h.acts _ (List.mem_of_getElem? hmem)
    refine { len := ?_, wlen := ?_, acts := ?_, fu := ?_, draws := ?_, tlen := h.tlen, tcs := h.tcs, now0 := hc.1, now1 := hc.2, pks := h.pks }
    · show (P.tasks.set i _).length ≤ 64
      rw [List.length_set]; exact h.len
    · show ((wakeP P k x).set i _).length = (P.tasks.set i _).length
      rw [List.length_set, List.length_set, wakeP_len]; exact h.wlen
    · intro y hy
      have hy' : y ∈ P.tasks.set i (l, told ++ toldP P k) := hy
      rcases List.mem_or_eq_of_mem_set hy' with e | e
      · exact h.acts y e
      · subst e
        have h1 := toldP_le P k
        simp only [List.length_cons] at h0
        show l.length + (told ++ toldP P k).length ≤ 10000000000000
        rw [List.length_append]
        omega
    · show (if k = 5 then fuN P.draws P.fu else P.fu) ≤ P.steps + 1
      have h1 := fuN_le P.draws P.fu
      have h2 := h.fu
      split <;> omega
    · show (if k = 5 then P.draws.tail else P.draws).length ≤ 65536
      have h1 := h.draws
      split
      · rw [List.length_tail]; omega
      · exact h1
/-- The rows that a loop reads lie not below lo. -/
def LoS (lo : Nat) (S : LS) : Prop := AddrGe lo S.vp ∧ AddrGe lo S.vk ∧ AddrGe lo S.vd
/-- Where the rows lie, and which tasks there are, stays. -/
structure LoQ (S S' : LS) : Prop where
  lo : ∀ lo, LoS lo S → LoS lo S'
  qs : S'.tks.map (·.q) = S.tks.map (·.q)
theorem map_set_q {l : List Tk} {i : Nat} {t t' : Tk} (h : l[i]? = some t) (e : t'.q = t.q) : (l.set i t').map (·.q) = l.map (·.q) := by
  rw [List.map_set, e]
  refine List.ext_getElem? fun m => ?_
  rw [List.getElem?_set]
  split
  · rename_i e2
    subst e2
    rw [List.getElem?_map, h]
    simp [(List.getElem?_eq_some_iff.1 h).1]
  · rfl
/-- What a step adds to a loop's blocks is new. -/
def FootUp (w : World) (p : Nat) (S S' : LS) : Prop := ∀ b, Foot p S' b → Foot p S b ∨ w.heap.size ≤ b
theorem footUp_set {w : World} {p i : Nat} {S : LS} {t t' : Tk} (hti : S.tks[i]? = some t) (hq : t'.q = t.q) (hl : t'.vt.ownBlock = t.vt.ownBlock ∨ ∃ g, t'.vt.ownBlock = some g ∧ w.heap.size ≤ g) (S' : LS) (e1 : S'.vs = S.vs) (e2 : S'.vw = S.vw) (e3 : S'.tks = S.tks.set i t') : FootUp w p S S' := by
  intro b hb
  rcases hb with e | e | e | ⟨j, u, hj, e⟩
  · exact Or.inl (Or.inl e)
  · exact Or.inl (Or.inr (Or.inl (by rw [← e1]; exact e)))
  · exact Or.inl (Or.inr (Or.inr (Or.inl (by rw [← e2]; exact e))))
  · rw [e3, List.getElem?_set] at hj
    by_cases hij : i = j
    · rw [if_pos hij] at hj
      split at hj
      · cases hj
        rcases e with e | e
        · exact Or.inl (Or.inr (Or.inr (Or.inr ⟨i, t, hti, Or.inl (by rw [← hq]; exact e)⟩)))
        · rcases hl with h | ⟨g, h1, h2⟩
          · exact Or.inl (Or.inr (Or.inr (Or.inr ⟨i, t, hti, Or.inr (by rw [← h]; exact e)⟩)))
          · rw [h1] at e
            simp only [Option.some.injEq] at e
            exact Or.inr (by omega)
      · cases hj
    · rw [if_neg hij] at hj
      exact Or.inl (Or.inr (Or.inr (Or.inr ⟨j, u, hj, e⟩)))
theorem LA.wlen' {w : World} {p : Nat} {S : LS} (h : LA w p S) : S.waits.length = S.tks.length := by have := h.waits.1; simpa using this
theorem map_set_tk (l : List Tk) (i : Nat) (t : Tk) : (l.set i t).map (fun t => (t.acts, t.told)) = (l.map (fun t => (t.acts, t.told))).set i (t.acts, t.told) := List.map_set ..
theorem la_act (p i j : Nat) (pick : Int) (S : LS) (w : World) (h : LA w p S) (hb : Bd S.ps) (hst : S.steps < 10000000000000000) (hpk : 0 ≤ pick) (hj : pick.tmod ((readyL S.waits).length : Int) = (j : Int)) (hij : (readyL S.waits)[j]? = some i) :
    Calls Try.prog 18 #[.pointer (some ⟨p, 0, none⟩), .int .i64 pick] w fun r w' => r = .returned (.tuple #[.int .i64 (i : Nat), .bool true]) ∧ ∃ S', LA w' p S' ∧ S'.ps = actP S.ps i ∧ Kb (fun b => Foot p S b) w w' ∧ FootUp w p S S' ∧ LoQ S S' := by
  have hlen : S.tks.length ≤ 64 := by have := hb.len; simpa [LS.ps] using this
  have hi : i < S.tks.length := by
    have := List.mem_of_getElem? hij
    simp only [readyL, readyTo, List.mem_filter, List.mem_range] at this
    have := h.wlen'
    omega
  obtain ⟨t, ht⟩ : ∃ t, S.tks[i]? = some t := ⟨S.tks[i], List.getElem?_eq_getElem hi⟩
  have hmem : S.ps.tasks[i]? = some (t.acts, t.told) := by
    show (S.tks.map _)[i]? = _
    rw [List.getElem?_map, ht]; rfl
  have b1 := hb.acts _ (List.mem_of_getElem? hmem)
  have htl := hb.tlen
  have hgd : S.ps.tasks.getD i ([], []) = (t.acts, t.told) := by rw [List.getD_eq_getElem?_getD, hmem]; rfl
  have n0 := hb.now0
  have n1 := hb.now1
  have n2 : S.now < 1000000000000000 := by
    have e1 : S.now ≤ ((min S.steps S.ticks.length : Nat) : Int) * 2147483648 := n1
    have e2 : S.ticks.length ≤ 65536 := htl
    omega
  have b2' : t.told.length ≤ 10000000000000 := by
    have : t.acts.length + t.told.length ≤ 10000000000000 := b1
    omega
  have hfu : S.fu ≤ S.steps := hb.fu
  cases ha : t.acts with
  | nil =>
    have hE : actP S.ps i = { S.ps with steps := S.ps.steps + 1, now := S.ps.clock, waits := S.ps.waits.set i (-1) } := by
      unfold actP; rw [hgd, ha]
    refine (la_stepQ p i j S.fu pick S t [] t.told S.draws true 0 w h (by omega) (by omega) hpk hj hij ht hb.tcs n0 n2 (fun W1 h1 h2 h3 => ?_)).mono ?_
    · have hq := h1.hq
      rw [ha] at hq
      refine (actStep_done t.q t.aa t.ca t.vt _ W1 hq).mono ?_
      rintro r w2 ⟨rfl, k⟩
      have hps := (Array.getElem?_eq_some_iff.1 h2).1
      refine ⟨rfl, t, S.vd, rfl, ha, rfl, ?_, { hp := (k.block p hps).trans h2, tk := h1.kb (Kb.of_below (S := fun _ => False) k) (fun e => e) (fun _ _ e => e) (fun _ _ e => e), lies := Or.inl rfl, kb := Kb.of_below k, aab := fun ad e => ⟨ad, e, rfl⟩ }, fun _ h => h⟩
      exact h3.kb (by omega) (S := fun _ => False) (fun _ e => e.elim) (Kb.of_below k)
    · rintro r w' ⟨rfl, t', vd', e1, e2, e3, hL, hK, hl, hge⟩
      refine ⟨rfl, _, hL, ?_, hK, footUp_set ht e1 hl _ rfl rfl rfl, ⟨fun lo h => ⟨h.1, h.2.1, hge lo h.2.2⟩, map_set_q ht e1⟩⟩
      rw [hE]
      have : (S.tks.set i t').map (fun t => (t.acts, t.told)) = S.tks.map (fun t => (t.acts, t.told)) := by
        rw [map_set_tk, e2, e3, ← ha]
        refine List.ext_getElem? fun m => ?_
        rw [List.getElem?_set]
        split
        · rename_i e
          subst e
          rw [List.getElem?_map, ht]
          simp [hi]
        · rfl
      simp only [LS.ps, this]
      rfl
  | cons a l =>
    obtain ⟨k, x⟩ := a
    have b1' : l.length < 1000000000000000 := by
      have : t.acts.length + t.told.length ≤ 10000000000000 := b1
      rw [ha, List.length_cons] at this
      omega
    have hE : actP S.ps i = { S.ps with steps := S.ps.steps + 1, now := S.ps.clock, tasks := S.ps.tasks.set i (l, t.told ++ toldP S.ps k), waits := (wakeP S.ps k x).set i (restP k x l), draws := if k = 5 then S.ps.draws.tail else S.ps.draws, fu := if k = 5 then fuN S.ps.draws S.ps.fu else S.ps.fu } := by
      unfold actP; rw [hgd, ha]
    have fin : ∀ (w' : World) (t' : Tk) (vd' : Value) (dr : List Int) (fu : Nat) (ws : List Int), t'.q = t.q → t'.acts = l → t'.told = t.told ++ toldP S.ps k → dr = (if k = 5 then S.draws.tail else S.draws) → fu = (if k = 5 then fuN S.draws S.fu else S.fu) → ws = (wakeP S.ps k x).set i (restP k x l) →
        LA w' p { S with steps := S.steps + 1, now := clockI S.ticks S.steps S.now, vd := vd', draws := dr, fu := fu, tks := S.tks.set i t', waits := ws } → (t'.vt.ownBlock = t.vt.ownBlock ∨ ∃ g, t'.vt.ownBlock = some g ∧ w.heap.size ≤ g) → Kb (fun b => Foot p S b) w w' → (∀ lo, AddrGe lo S.vd → AddrGe lo vd') → ∃ S', LA w' p S' ∧ S'.ps = actP S.ps i ∧ Kb (fun b => Foot p S b) w w' ∧ FootUp w p S S' ∧ LoQ S S' := by
      intro w' t' vd' dr fu ws e1 e2 e3 e4 e5 e6 hL hl hK hge
      refine ⟨_, hL, ?_, hK, footUp_set ht e1 hl _ rfl rfl rfl, ⟨fun lo h => ⟨h.1, h.2.1, hge lo h.2.2⟩, map_set_q ht e1⟩⟩
      rw [hE]
      subst e4 e5 e6
      simp only [LS.ps, map_set_tk, e2, e3]
      rfl
    by_cases k2 : k = 2
    · subst k2
      refine (la_stepQ p i j S.fu pick S t l t.told S.draws (decide (l.length = 0)) (if l.length = 0 then 0 else x) w h (by omega) (by omega) hpk hj hij ht hb.tcs n0 n2 (fun W1 h1 h2 h3 => ?_)).mono ?_
      · refine (task_waitL p t x l _ W1 h1 ha (by omega) h2).mono ?_
        rintro r w2 ⟨rfl, t', e1, e2, e3, e4⟩
        exact ⟨rfl, t', S.vd, e1, e2, e3, h3.kb (Array.getElem?_eq_some_iff.1 h2).1 (fun b e => by
          rcases e with e | e | e
          · omega
          · have := h1.ge; omega
          · have := (h1.told.lt b e).1; omega) e4.kb, e4, fun _ h => h⟩
      · rintro r w' ⟨rfl, t', vd', e1, e2, e3, hL, hK, hl, hge⟩
        exact ⟨rfl, fin w' t' vd' _ _ _ e1 e2 (by rw [e3]; simp [toldP]) rfl rfl (by simp [wakeP, restP, LS.ps]) hL hl hK hge⟩
    · by_cases k3 : k = 3
      · subst k3
        refine (la_stepW p i j pick x S t l (decide (l.length = 0)) 0 w h (by omega) (by omega) hpk hj hij ht hb.tcs n0 n2 (fun W1 h1 h2 h3 => ?_)).mono ?_
        · refine (task_wakeL p t x l _ W1 h1 ha (by omega) h2).mono ?_
          rintro r w2 ⟨g, rfl, hg, hc, t', e1, e2, e3, e4⟩
          exact ⟨g, rfl, hg, hc, t', e1, e2, e3, e4⟩
        · rintro r w' ⟨rfl, t', e1, e2, e3, hL, hK, hl⟩
          exact ⟨rfl, fin w' t' S.vd _ _ _ e1 e2 (by rw [e3]; simp [toldP]) rfl rfl (by simp [wakeP, restP, LS.ps]) hL hl hK (fun _ h => h)⟩
      · by_cases k4 : k = 4
        · subst k4
          refine (la_stepQ p i j S.fu pick S t l (t.told ++ [clockI S.ticks S.steps S.now]) S.draws (decide (l.length = 0)) 0 w h (by omega) (by omega) hpk hj hij ht hb.tcs n0 n2 (fun W1 h1 h2 h3 => ?_)).mono ?_
          · refine (task_nowL p t x l _ _ _ _ _ _ _ _ W1 h1 ha (by omega) (by omega) h2).mono ?_
            rintro r w2 ⟨rfl, t', e1, e2, e3, e4⟩
            exact ⟨rfl, t', S.vd, e1, e2, e3, h3.kb (Array.getElem?_eq_some_iff.1 h2).1 (fun b e => by
              rcases e with e | e | e
              · omega
              · have := h1.ge; omega
              · have := (h1.told.lt b e).1; omega) e4.kb, e4, fun _ h => h⟩
          · rintro r w' ⟨rfl, t', vd', e1, e2, e3, hL, hK, hl, hge⟩
            exact ⟨rfl, fin w' t' vd' _ _ _ e1 e2 (by rw [e3]; rfl) rfl rfl (by simp [wakeP, restP, LS.ps]) hL hl hK hge⟩
        · by_cases k5 : k = 5
          · subst k5
            refine (la_stepQ p i j (fuN S.draws S.fu) pick S t l (t.told ++ [drawI S.draws S.fu]) S.draws.tail (decide (l.length = 0)) 0 w h (by omega) (by omega) hpk hj hij ht hb.tcs n0 n2 (fun W1 h1 h2 h3 => ?_)).mono ?_
            · refine (task_drawL p t x l _ _ _ _ _ _ S.vd S.draws S.fu W1 h1 ha (by omega) (by omega) h2 h3 hb.draws (by omega)).mono ?_
              rintro r w2 ⟨rfl, t', vd', e1, e2, e3, e5, e4, e6⟩
              exact ⟨rfl, t', vd', e1, e2, e3, e5, e4, e6⟩
            · rintro r w' ⟨rfl, t', vd', e1, e2, e3, hL, hK, hl, hge⟩
              exact ⟨rfl, fin w' t' vd' _ _ _ e1 e2 (by rw [e3]; rfl) rfl rfl (by simp [wakeP, restP, LS.ps]) hL hl hK hge⟩
          · refine (la_stepQ p i j S.fu pick S t l t.told S.draws (decide (l.length = 0)) 0 w h (by omega) (by omega) hpk hj hij ht hb.tcs n0 n2 (fun W1 h1 h2 h3 => ?_)).mono ?_
            · refine (task_goL p t k x l _ W1 h1 ha (by omega) k2 k3 k4 k5 h2).mono ?_
              rintro r w2 ⟨rfl, t', e1, e2, e3, e4⟩
              exact ⟨rfl, t', S.vd, e1, e2, e3, h3.kb (Array.getElem?_eq_some_iff.1 h2).1 (fun b e => by
                rcases e with e | e | e
                · omega
                · have := h1.ge; omega
                · have := (h1.told.lt b e).1; omega) e4.kb, e4, fun _ h => h⟩
            · rintro r w' ⟨rfl, t', vd', e1, e2, e3, hL, hK, hl, hge⟩
              exact ⟨rfl, fin w' t' vd' _ _ _ e1 e2 (by rw [e3]; simp [toldP, k4, k5]) (by rw [if_neg k5]) (by rw [if_neg k5]) (by simp [wakeP, restP, LS.ps, k2, k3]) hL hl hK hge⟩
end Go.Proofs.Ytefmhghdehokcaa
