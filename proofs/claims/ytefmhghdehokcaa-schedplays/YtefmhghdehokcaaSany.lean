/-
  A step of a loop with any number of tasks, whatever its task does.
-/
import Derived.Test.YtefmhghdehokcaaMstep
import Derived.Test.YtefmhghdehokcaaStepW
import Derived.Test.YtefmhghdehokcaaStepL
import Derived.Test.YtefmhghdehokcaaLows
namespace Go.Proofs.Ytefmhghdehokcaa
open Go.RowKit
/-- A step of task i leaves the others alone. -/
theorem la_nextW {w W1 w2 w' : World} {p i : Nat} {S : LS} {t t' : Tk} {now1 : Int} {draws' : List Int} {fu' : Nat} {vd' : Value} {ws' : List Int} (h : LA w p S) (hti : S.tks[i]? = some t) (k1 : Kb (fun b => b = p) w W1)
    (hS : Stepped p t t' W1 w2 #[S.vp, S.vk, S.vs, S.vw, .int .i64 (S.steps : Nat), .int .u64 now1, vd', .int .u64 (fu' : Nat)]) (hd : RowAt p w2 vd' (draws'.map nV)) (hq : t'.q = t.q)
    (hp' : w'.heap[p]? = some (.cells #[S.vp, S.vk, S.vs, S.vw, .int .i64 ((S.steps + 1 : Nat) : Int), .int .u64 now1, vd', .int .u64 (fu' : Nat)] 83 (0, 0))) (hw' : w'.ownsRow (p + 1) 3 1 S.vw S.tks.length (ws'.map iV)) (k3 : Kb (fun b => b = p ∨ S.vw.ownBlock = some b ∨ (w.heap.size ≤ b ∧ b < W1.heap.size)) w2 w') :
    LA w' p { S with steps := S.steps + 1, now := now1, vd := vd', draws := draws', fu := fu', tks := S.tks.set i t', waits := ws' } ∧ Kb (fun b => Foot p S b) w w' := by
  have hps := (Array.getElem?_eq_some_iff.1 h.hp).1
  obtain ⟨htk, haa⟩ := h.each i t hti
  have hqs := (Array.getElem?_eq_some_iff.1 htk.hq).1
  have hge := htk.ge
  have hvt : ∀ g, t.vt.ownBlock = some g → p + 1 ≤ g ∧ g < w.heap.size := fun g e => htk.told.lt g e
  have hvw : ∀ g, S.vw.ownBlock = some g → p + 1 ≤ g ∧ g < w.heap.size := fun g e => h.waits.lt g e
  have s1 := k1.size
  have s2 := hS.kb.size
  have keep : ∀ b : Nat, b < w.heap.size → b ≠ p → b ≠ t.q → t.vt.ownBlock ≠ some b → S.vw.ownBlock ≠ some b → w'.heap[b]? = w.heap[b]? := fun b hb h1 h2 h3 h4 => by
    refine (k3.block b (by omega) ?_).trans ((hS.kb.block b (by omega) ?_).trans (k1.block b hb h1))
    · rintro (e | e | e)
      · exact h1 e
      · exact h4 e
      · omega
    · rintro (e | e | e)
      · exact h1 e
      · exact h2 e
      · exact h3 e
  have kall : Kb (fun b => Foot p S b) w w' := ⟨k3.os.trans (hS.kb.os.trans k1.os), k3.tape.trans (hS.kb.tape.trans k1.tape), k3.output.trans (hS.kb.output.trans k1.output), by have := k3.size; omega, fun b hb hn => keep b hb (fun e => hn (Or.inl e)) (fun e => hn (Or.inr (Or.inr (Or.inr ⟨i, t, hti, Or.inl e⟩)))) (fun e => hn (Or.inr (Or.inr (Or.inr ⟨i, t, hti, Or.inr e⟩)))) (fun e => hn (Or.inr (Or.inr (Or.inl e))))⟩
  have low : ∀ b : Nat, b < p → w'.heap[b]? = w.heap[b]? := fun b hb => keep b (by omega) (by omega) (by omega) (fun e => by have := (hvt b e).1; omega) (fun e => by have := (hvw b e).1; omega)
  have bel : Below p w w' := ⟨kall.os, kall.tape, kall.output, kall.size, low⟩
  have hlen : (S.tks.set i t').length = S.tks.length := List.length_set
  have hil := (List.getElem?_eq_some_iff.1 hti).1
  have row : ∀ v l, RowAt p w v l → RowAt p w' v l := fun v l hr => by
    obtain ⟨a, c, e1, e2, e3⟩ := hr
    exact ⟨a, c, e1, e2.below low, e3⟩
  have tk' : TkAt (p + 1) w' t' ∧ (∀ ad, t'.aa = some ad → ad.block < w'.heap.size ∧ ∃ c f, w'.heap[ad.block]? = some (.cells c 54 f)) := by
    refine ⟨hS.tk.kb k3 ?_ ?_ ?_, ?_⟩
    · rw [hq]
      rintro (e | e | e)
      · omega
      · exact row_type h.waits htk.hq (by decide) e
      · omega
    · intro g hg
      rcases hS.lies with e | ⟨g', e1, e2⟩
      · have hg' : t.vt.ownBlock = some g := by rw [← e]; exact hg
        obtain ⟨c, hc⟩ := row_block htk.told hg'
        rintro (e | e | e)
        · have := (hvt g hg').1; omega
        · exact row_type h.waits hc (by decide) e
        · have := (hvt g hg').2; omega
      · have e3 : g' = g := by rw [e1] at hg; simpa using hg
        rintro (e | e | e)
        · omega
        · have := (hvw g e).2; omega
        · omega
    · intro ad had
      obtain ⟨ad0, h1, h2⟩ := hS.aab ad had
      rw [← h2]
      obtain ⟨hb, c, f, hc⟩ := haa ad0 h1
      rintro (e | e | e)
      · rw [e, h.hp] at hc; simp at hc
      · exact row_type h.waits hc (by decide) e
      · omega
    · intro ad had
      obtain ⟨ad0, h1, h2⟩ := hS.aab ad had
      rw [← h2]
      obtain ⟨hb, c, f, hc⟩ := haa ad0 h1
      refine ⟨by have := kall.size; omega, c, f, (keep _ hb (fun e => ?_) (fun e => ?_) (row_type htk.told hc (by decide)) (row_type h.waits hc (by decide))).trans hc⟩
      · rw [e, h.hp] at hc; simp at hc
      · rw [e, htk.hq] at hc; simp at hc
  refine ⟨{ hp := hp', picks := row _ _ h.picks, ticks := row _ _ h.ticks, draws := ?_, tasks := ?_, waits := by rw [hlen]; exact hw', each := ?_, apart := ?_ }, kall⟩
  · exact hd.kb (by omega) (fun b e => by
      rcases e with e | e | e
      · omega
      · have := (hvw b e).1; omega
      · omega) k3
  · show w'.ownsRow (p + 1) 86 1 S.vs (S.tks.set i t').length ((S.tks.set i t').map tkV)
    have e : (S.tks.set i t').map tkV = S.tks.map tkV := by
      rw [List.map_set, show tkV t' = tkV t by simp [tkV, hq]]
      refine List.ext_getElem? fun j => ?_
      rw [List.getElem?_set]
      split
      · rename_i e
        subst e
        rw [List.getElem?_map, hti]
        simp [hil]
      · rfl
    rw [hlen, e]
    refine owns_same h.tasks (fun g hg => ?_)
    obtain ⟨c, hc⟩ := row_block h.tasks hg
    exact keep g (h.tasks.lt g hg).2 (by have := (h.tasks.lt g hg).1; omega) (fun e => by rw [e, htk.hq] at hc; simp at hc) (row_type htk.told hc (by decide)) (row_type h.waits hc (by decide))
  · intro j u hj
    rw [List.getElem?_set] at hj
    by_cases hij : i = j
    · rw [if_pos hij, if_pos (by omega)] at hj
      cases hj
      exact tk'
    · rw [if_neg hij] at hj
      obtain ⟨hu, hua⟩ := h.each j u hj
      obtain ⟨a1, a2⟩ := h.apart i j t u hij hti hj
      have hus := (Array.getElem?_eq_some_iff.1 hu.hq).1
      have kp : Kb (fun b => ¬ (b < w.heap.size ∧ b ≠ p ∧ b ≠ t.q ∧ t.vt.ownBlock ≠ some b ∧ S.vw.ownBlock ≠ some b)) w w' := ⟨kall.os, kall.tape, kall.output, kall.size, fun b hb hn => by
        have := Classical.not_not.1 hn
        exact keep b hb this.2.1 this.2.2.1 this.2.2.2.1 this.2.2.2.2⟩
      have ua : ∀ ad, u.aa = some ad → ad.block < w.heap.size ∧ ad.block ≠ p ∧ ad.block ≠ t.q ∧ t.vt.ownBlock ≠ some ad.block ∧ S.vw.ownBlock ≠ some ad.block := fun ad e => by
        obtain ⟨hb, c, f, hc⟩ := hua ad e
        exact ⟨hb, fun e => by rw [e, h.hp] at hc; simp at hc, fun e => by rw [e, htk.hq] at hc; simp at hc, row_type htk.told hc (by decide), row_type h.waits hc (by decide)⟩
      refine ⟨hu.kb kp (fun hn => hn ⟨hus, by have := hu.ge; omega, fun e => a1 e.symm, row_type htk.told hu.hq (by decide), row_type h.waits hu.hq (by decide)⟩) (fun g hg hn => ?_) (fun ad e hn => hn (ua ad e)), fun ad e => ?_⟩
      · obtain ⟨c, hc⟩ := row_block hu.told hg
        exact hn ⟨(hu.told.lt g hg).2, by have := (hu.told.lt g hg).1; omega, fun e => (by rw [e, htk.hq] at hc; simp at hc), fun e => a2 g e hg, row_type h.waits hc (by decide)⟩
      · obtain ⟨hb, c, f, hc⟩ := hua ad e
        obtain ⟨_, b1, b2, b3, b4⟩ := ua ad e
        exact ⟨by have := kall.size; omega, c, f, (keep _ hb b1 b2 b3 b4).trans hc⟩
  · intro j k u v hjk hj hk
    rw [List.getElem?_set] at hj hk
    have news : ∀ u : Tk, (∃ j : Nat, i ≠ j ∧ S.tks[j]? = some u) → t'.q ≠ u.q ∧ (∀ g, t'.vt.ownBlock = some g → u.vt.ownBlock ≠ some g) := fun u ⟨j, hij, hj⟩ => by
      obtain ⟨a1, a2⟩ := h.apart i j t u hij hti hj
      refine ⟨by rw [hq]; exact a1, fun g hg hu => ?_⟩
      rcases hS.lies with e | ⟨g', e1, e2⟩
      · exact a2 g (by rw [← e]; exact hg) hu
      · have e3 : g' = g := by rw [e1] at hg; simpa using hg
        have := ((h.each j u hj).1.told.lt g hu).2
        omega
    by_cases hij : i = j
    · rw [if_pos hij, if_pos (by omega)] at hj
      cases hj
      rw [if_neg (by omega)] at hk
      exact news v ⟨k, by omega, hk⟩
    · rw [if_neg hij] at hj
      by_cases hik : i = k
      · rw [if_pos hik, if_pos (by omega)] at hk
        cases hk
        obtain ⟨b1, b2⟩ := news u ⟨j, hij, hj⟩
        exact ⟨fun e => b1 e.symm, fun g hg hg2 => b2 g hg2 hg⟩
      · rw [if_neg hik] at hk
        exact h.apart j k u v hjk hj hk
/-- What a task's step may ask of its loop, and tell. -/
def CsOf (S : LS) (vd : Value) (fu : Nat) : Array Value := #[S.vp, S.vk, S.vs, S.vw, .int .i64 (S.steps : Nat), .int .u64 (clockI S.ticks S.steps S.now), vd, .int .u64 (fu : Nat)]
theorem la_stepQ (p i j fu' : Nat) (pick : Int) (S : LS) (t : Tk) (l : List (Int × Int)) (told' draws' : List Int) (d : Bool) (wt : Int) (w : World) (h : LA w p S) (hn : S.tks.length ≤ 100) (hst : S.steps < 100000000000000000) (hpk : 0 ≤ pick) (hj : pick.tmod ((readyL S.waits).length : Int) = (j : Int)) (hij : (readyL S.waits)[j]? = some i) (hti : S.tks[i]? = some t)
    (htk : ∀ x ∈ S.ticks, 0 ≤ x ∧ x < 2147483648) (hn0 : 0 ≤ S.now) (hn1 : S.now < 1000000000000000)
    (HTK : ∀ W1, TkAt (p + 1) W1 t → W1.heap[p]? = some (.cells (CsOf S S.vd S.fu) 83 (0, 0)) → RowAt p W1 S.vd (S.draws.map nV) → Calls Try.prog 24 #[.pointer (some ⟨t.q, 0, none⟩), .pointer (some ⟨p, 5, none⟩)] W1 fun r w2 => r = .returned (.agg #[.bool d, .int .i64 wt, .slice none 0 0]) ∧ ∃ t' vd', t'.q = t.q ∧ t'.acts = l ∧ t'.told = told' ∧ RowAt p w2 vd' (draws'.map nV) ∧ Stepped p t t' W1 w2 (CsOf S vd' fu') ∧ (∀ lo, AddrGe lo S.vd → AddrGe lo vd')) :
    Calls Try.prog 18 #[.pointer (some ⟨p, 0, none⟩), .int .i64 pick] w fun r w' => r = .returned (.tuple #[.int .i64 (i : Nat), .bool true]) ∧ ∃ t' vd', t'.q = t.q ∧ t'.acts = l ∧ t'.told = told' ∧ LA w' p { S with steps := S.steps + 1, now := clockI S.ticks S.steps S.now, vd := vd', draws := draws', fu := fu', tks := S.tks.set i t', waits := S.waits.set i (restI d wt) } ∧ Kb (fun b => Foot p S b) w w' ∧ (t'.vt.ownBlock = t.vt.ownBlock ∨ ∃ g, t'.vt.ownBlock = some g ∧ w.heap.size ≤ g) ∧ (∀ lo, AddrGe lo S.vd → AddrGe lo vd') := by
  have hps := (Array.getElem?_eq_some_iff.1 h.hp).1
  obtain ⟨htt, haa⟩ := h.each i t hti
  have hqs := (Array.getElem?_eq_some_iff.1 htt.hq).1
  have hge := htt.ge
  have hvt : ∀ g, t.vt.ownBlock = some g → p + 1 ≤ g ∧ g < w.heap.size := fun g e => htt.told.lt g e
  have hvw : ∀ g, S.vw.ownBlock = some g → p + 1 ≤ g ∧ g < w.heap.size := fun g e => h.waits.lt g e
  obtain ⟨ak, ck, hvk, hva, hck, _⟩ := h.ticks
  rw [List.length_map] at hvk hck
  have hp := h.hp
  rw [hvk] at hp
  have := step_quietL p S.tks.length i j pick S.vp S.vs S.vw S.vd ak S.ticks.length ck S.steps S.fu fu' S.now (clockI S.ticks S.steps S.now) S.waits S.tks t d wt w
    (fun W1 w2 vd' => (∀ lo, AddrGe lo S.vd → AddrGe lo vd') ∧ Kb (fun b => b = p) w W1 ∧ RowAt p w2 vd' (draws'.map nV) ∧ ∃ t', t'.q = t.q ∧ t'.acts = l ∧ t'.told = told' ∧ Stepped p t t' W1 w2 (CsOf S vd' fu'))
    hp (by
      by_cases hs : S.steps < S.ticks.length
      · right
        have hx : S.ticks[S.steps]? = some (S.ticks.getD S.steps 0) := by rw [List.getD_eq_getElem?_getD, List.getElem?_eq_getElem hs]; rfl
        obtain ⟨b, off, e1, e2, e3⟩ := hva S.steps (iV (S.ticks.getD S.steps 0)) (by rw [List.getElem?_map, hx]; rfl)
        obtain ⟨b1, b2⟩ := htk _ (List.mem_of_getElem? hx)
        exact ⟨hs, b, off, _, e1, e2, e3, b1, b2, hn0, hn1, rfl⟩
      · left
        refine ⟨by omega, ?_⟩
        rw [clockI, List.getD_eq_getElem?_getD, List.getElem?_eq_none (by omega)]
        simp) hst h.waits h.tasks hn hpk hj hij hti
    (fun W1 k1 hp1 => by
      have tk1 := htt.kb k1 (by omega) (fun g e => by have := (hvt g e).1; omega) (fun ad e e2 => by
        obtain ⟨_, c, f, hc⟩ := haa ad e
        have e3 : ad.block = p := e2
        rw [e3, h.hp] at hc
        simp at hc)
      rw [← hvk] at hp1
      refine (HTK W1 tk1 hp1 (h.draws.kb hps (fun b e => by omega) k1)).mono ?_
      rintro r w2 ⟨rfl, t', vd', h1, h2, h3, h5, h4, h6⟩
      exact ⟨rfl, vd', h6, k1, h5, t', h1, h2, h3, h4⟩)
    (fun W1 w2 v ⟨_, k1, _, t', h1, h2, h3, h4⟩ => by
      have s1 := k1.size
      refine ⟨by rw [← hvk]; exact h4.hp, ?_, h4.kb.size, fun b hb1 hb2 => h4.kb.block b hb2 ?_⟩
      · refine owns_same h.waits (fun g e => ?_)
        obtain ⟨c, hc⟩ := row_block h.waits e
        refine (h4.kb.block g (by have := (hvw g e).2; omega) ?_).trans (k1.block g (hvw g e).2 (by have := (hvw g e).1; omega))
        rintro (e2 | e2 | e2)
        · have := (hvw g e).1; omega
        · rw [e2, htt.hq] at hc; simp at hc
        · exact row_type htt.told hc (by decide) e2
      · rintro (e2 | e2 | e2)
        · omega
        · omega
        · have := (hvt b e2).2; omega)
  refine this.mono ?_
  rintro r w' ⟨rfl, W1, w2, v, k1, ⟨hge, _, hd2, t', h1, h2, h3, h4⟩, hp', hw', k3⟩
  rw [← hvk] at hp'
  obtain ⟨hL, hB⟩ := la_nextW h hti k1 h4 hd2 h1 hp' hw' k3
  exact ⟨rfl, t', v, h1, h2, h3, hL, hB, h4.lies.imp id (fun ⟨g, e1, e2⟩ => ⟨g, e1, Nat.le_trans k1.size e2⟩), hge⟩
theorem la_stepW (p i j : Nat) (pick xw : Int) (S : LS) (t : Tk) (l : List (Int × Int)) (d : Bool) (wt : Int) (w : World) (h : LA w p S) (hn : S.tks.length ≤ 100) (hst : S.steps < 100000000000000000) (hpk : 0 ≤ pick) (hj : pick.tmod ((readyL S.waits).length : Int) = (j : Int)) (hij : (readyL S.waits)[j]? = some i) (hti : S.tks[i]? = some t)
    (htk : ∀ x ∈ S.ticks, 0 ≤ x ∧ x < 2147483648) (hn0 : 0 ≤ S.now) (hn1 : S.now < 1000000000000000)
    (HTK : ∀ W1, TkAt (p + 1) W1 t → W1.heap[p]? = some (.cells (CsOf S S.vd S.fu) 83 (0, 0)) → RowAt p W1 S.vd (S.draws.map nV) → Calls Try.prog 24 #[.pointer (some ⟨t.q, 0, none⟩), .pointer (some ⟨p, 5, none⟩)] W1 fun r w2 => ∃ gk, r = .returned (.agg #[.bool d, .int .i64 wt, .slice (some ⟨gk, 0, none⟩) 1 1]) ∧ W1.heap.size ≤ gk ∧ w2.cell? ⟨gk, 0, none⟩ = some (.int .i64 xw) ∧ ∃ t', t'.q = t.q ∧ t'.acts = l ∧ t'.told = t.told ∧ Stepped p t t' W1 w2 (CsOf S S.vd S.fu)) :
    Calls Try.prog 18 #[.pointer (some ⟨p, 0, none⟩), .int .i64 pick] w fun r w' => r = .returned (.tuple #[.int .i64 (i : Nat), .bool true]) ∧ ∃ t', t'.q = t.q ∧ t'.acts = l ∧ t'.told = t.told ∧ LA w' p { S with steps := S.steps + 1, now := clockI S.ticks S.steps S.now, tks := S.tks.set i t', waits := (wakeL xw S.waits).set i (restI d wt) } ∧ Kb (fun b => Foot p S b) w w' ∧ (t'.vt.ownBlock = t.vt.ownBlock ∨ ∃ g, t'.vt.ownBlock = some g ∧ w.heap.size ≤ g) := by
  have hps := (Array.getElem?_eq_some_iff.1 h.hp).1
  obtain ⟨htt, haa⟩ := h.each i t hti
  have hqs := (Array.getElem?_eq_some_iff.1 htt.hq).1
  have hge := htt.ge
  have hvt : ∀ g, t.vt.ownBlock = some g → p + 1 ≤ g ∧ g < w.heap.size := fun g e => htt.told.lt g e
  have hvw : ∀ g, S.vw.ownBlock = some g → p + 1 ≤ g ∧ g < w.heap.size := fun g e => h.waits.lt g e
  obtain ⟨ak, ck, hvk, hva, hck, _⟩ := h.ticks
  rw [List.length_map] at hvk hck
  have hp := h.hp
  rw [hvk] at hp
  have := step_wake p S.tks.length i j pick xw S.vp S.vs S.vw S.vd ak S.ticks.length ck S.steps S.fu S.fu S.now (clockI S.ticks S.steps S.now) S.waits S.tks t d wt w
    (fun W1 w2 vd' => vd' = S.vd ∧ Kb (fun b => b = p) w W1 ∧ ∃ t', t'.q = t.q ∧ t'.acts = l ∧ t'.told = t.told ∧ Stepped p t t' W1 w2 (CsOf S S.vd S.fu))
    hp (by
      by_cases hs : S.steps < S.ticks.length
      · right
        have hx : S.ticks[S.steps]? = some (S.ticks.getD S.steps 0) := by rw [List.getD_eq_getElem?_getD, List.getElem?_eq_getElem hs]; rfl
        obtain ⟨b, off, e1, e2, e3⟩ := hva S.steps (iV (S.ticks.getD S.steps 0)) (by rw [List.getElem?_map, hx]; rfl)
        obtain ⟨b1, b2⟩ := htk _ (List.mem_of_getElem? hx)
        exact ⟨hs, b, off, _, e1, e2, e3, b1, b2, hn0, hn1, rfl⟩
      · left
        refine ⟨by omega, ?_⟩
        rw [clockI, List.getD_eq_getElem?_getD, List.getElem?_eq_none (by omega)]
        simp) hst h.waits h.tasks hn hpk hj hij hti
    (fun W1 k1 hp1 => by
      have tk1 := htt.kb k1 (by omega) (fun g e => by have := (hvt g e).1; omega) (fun ad e e2 => by
        obtain ⟨_, c, f, hc⟩ := haa ad e
        have e3 : ad.block = p := e2
        rw [e3, h.hp] at hc
        simp at hc)
      rw [← hvk] at hp1
      refine (HTK W1 tk1 hp1 (h.draws.kb hps (fun b e => by omega) k1)).mono ?_
      rintro r w2 ⟨gk, rfl, h6, h7, t', h1, h2, h3, h4⟩
      exact ⟨gk, rfl, h6, h7, S.vd, rfl, k1, t', h1, h2, h3, h4⟩)
    (fun W1 w2 v ⟨hv, k1, t', h1, h2, h3, h4⟩ => by
      subst hv
      have s1 := k1.size
      refine ⟨by rw [← hvk]; exact h4.hp, ?_, h4.kb.size, fun b hb1 hb2 => h4.kb.block b hb2 ?_⟩
      · refine owns_same h.waits (fun g e => ?_)
        obtain ⟨c, hc⟩ := row_block h.waits e
        refine (h4.kb.block g (by have := (hvw g e).2; omega) ?_).trans (k1.block g (hvw g e).2 (by have := (hvw g e).1; omega))
        rintro (e2 | e2 | e2)
        · have := (hvw g e).1; omega
        · rw [e2, htt.hq] at hc; simp at hc
        · exact row_type htt.told hc (by decide) e2
      · rintro (e2 | e2 | e2)
        · omega
        · omega
        · have := (hvt b e2).2; omega)
  refine this.mono ?_
  rintro r w' ⟨rfl, W1, w2, v, k1, ⟨hv, _, t', h1, h2, h3, h4⟩, hp', hw', k3⟩
  subst hv
  rw [← hvk] at hp'
  have hd2 : RowAt p w2 S.vd (S.draws.map nV) := (h.draws.kb hps (S := fun b => b = p) (fun b e => by omega) k1).kb (by have := k1.size; omega) (fun b e => by
    rcases e with e | e | e
    · omega
    · omega
    · have := (hvt b e).1; omega) h4.kb
  obtain ⟨hL, hB⟩ := la_nextW h hti k1 h4 hd2 h1 hp' hw' k3
  exact ⟨rfl, t', h1, h2, h3, hL, hB, h4.lies.imp id (fun ⟨g, e1, e2⟩ => ⟨g, e1, Nat.le_trans k1.size e2⟩)⟩
end Go.Proofs.Ytefmhghdehokcaa
