/-
  A loop with any number of tasks.
-/
import Derived.Test.YtefmhghdehokcaaOne
import Derived.Test.YtefmhghdehokcaaTasks
namespace Go.Proofs.Ytefmhghdehokcaa
open Go.RowKit
/-- A loop and its tasks in memory, task by task. -/
structure LA (w : World) (p : Nat) (S : LS) : Prop where
  hp : w.heap[p]? = some (.cells #[S.vp, S.vk, S.vs, S.vw, .int .i64 (S.steps : Nat), .int .u64 S.now, S.vd, .int .u64 (S.fu : Nat)] 83 (0, 0))
  picks : RowAt p w S.vp (S.picks.map iV)
  ticks : RowAt p w S.vk (S.ticks.map iV)
  draws : RowAt p w S.vd (S.draws.map nV)
  tasks : w.ownsRow (p + 1) 86 1 S.vs S.tks.length (S.tks.map tkV)
  waits : w.ownsRow (p + 1) 3 1 S.vw S.tks.length (S.waits.map iV)
  each : ∀ (i : Nat) (t : Tk), S.tks[i]? = some t → TkAt (p + 1) w t ∧ (∀ ad, t.aa = some ad → ad.block < w.heap.size ∧ ∃ c f, w.heap[ad.block]? = some (.cells c 54 f))
  apart : ∀ (i j : Nat) (t t' : Tk), i ≠ j → S.tks[i]? = some t → S.tks[j]? = some t' → t.q ≠ t'.q ∧ ∀ g, t.vt.ownBlock = some g → t'.vt.ownBlock ≠ some g
/-- The blocks that a loop has for its own. -/
def Foot (p : Nat) (S : LS) (b : Nat) : Prop := b = p ∨ S.vs.ownBlock = some b ∨ S.vw.ownBlock = some b ∨ ∃ (i : Nat) (t : Tk), S.tks[i]? = some t ∧ (b = t.q ∨ t.vt.ownBlock = some b)
theorem LA.below {w w' : World} {p : Nat} {S : LS} (h : LA w p S) (k : Below w.heap.size w w') : LA w' p S := by
  have hps := (Array.getElem?_eq_some_iff.1 h.hp).1
  have kb : Kb (fun _ => False) w w' := Kb.of_below k
  exact {
    hp := (k.block p hps).trans h.hp
    picks := h.picks.kb hps (fun _ e => e.elim) kb
    ticks := h.ticks.kb hps (fun _ e => e.elim) kb
    draws := h.draws.kb hps (fun _ e => e.elim) kb
    tasks := owns_same h.tasks (fun g e => k.block g (h.tasks.lt g e).2)
    waits := owns_same h.waits (fun g e => k.block g (h.waits.lt g e).2)
    each := fun i t hi => ⟨(h.each i t hi).1.kb kb (fun e => e) (fun _ _ e => e) (fun _ _ e => e), fun ad e => by
      obtain ⟨h1, c, f, h2⟩ := (h.each i t hi).2 ad e
      exact ⟨Nat.lt_of_lt_of_le h1 k.size, c, f, (k.block _ h1).trans h2⟩⟩
    apart := h.apart }
/-- A step of task i leaves the others alone. -/
theorem la_next {w W1 w2 w' : World} {p i : Nat} {S : LS} {t t' : Tk} {now1 : Int} {draws' : List Int} {fu' : Nat} {vd' : Value} {rs : Int} (h : LA w p S) (hti : S.tks[i]? = some t) (k1 : Kb (fun b => b = p) w W1)
    (hS : Stepped p t t' W1 w2 #[S.vp, S.vk, S.vs, S.vw, .int .i64 (S.steps : Nat), .int .u64 now1, vd', .int .u64 (fu' : Nat)]) (hd : RowAt p w2 vd' (draws'.map nV)) (hq : t'.q = t.q)
    (hp' : w'.heap[p]? = some (.cells #[S.vp, S.vk, S.vs, S.vw, .int .i64 ((S.steps + 1 : Nat) : Int), .int .u64 now1, vd', .int .u64 (fu' : Nat)] 83 (0, 0))) (hw' : w'.ownsRow (p + 1) 3 1 S.vw S.tks.length ((S.waits.set i rs).map iV)) (k3 : Kb (fun b => b = p ∨ S.vw.ownBlock = some b ∨ (w.heap.size ≤ b ∧ b < W1.heap.size)) w2 w') :
    LA w' p { S with steps := S.steps + 1, now := now1, vd := vd', draws := draws', fu := fu', tks := S.tks.set i t', waits := S.waits.set i rs } ∧ Kb (fun b => Foot p S b) w w' := by
  have hps := (Array.getElem?_eq_some_iff.1 h.hp).1
  obtain ⟨htk, haa⟩ := h.each i t hti
  have hqs := (Array.getElem?_eq_some_iff.1 htk.hq).1
  have hge := htk.ge
  have hvt : ∀ g, t.vt.ownBlock = some g → p + 1 ≤ g ∧ g < w.heap.size := fun g e => htk.told.lt g e
  have hvw : ∀ g, S.vw.ownBlock = some g → p + 1 ≤ g ∧ g < w.heap.size := fun g e => h.waits.lt g e
  have s1 := k1.size
  have s2 := hS.kb.size
  have keep : ∀ b : Nat, b < w.heap.size → b ≠ p → b ≠ t.q → t.vt.ownBlock ≠ some b → S.vw.ownBlock ≠ some b → w'.heap[b]? = w.heap[b]? := fun b hb h1 h2 h3 h4 => by
    refine (k3.block b (by omega) ?_).trans ((hS.kb.block b (by omega) ?_).trans (k1.block b hb h1))
    · rintro (e | e | e)
      · exact h1 e
      · exact h4 e
      · omega
    · rintro (e | e | e)
      · exact h1 e
      · exact h2 e
      · exact h3 e
  have kall : Kb (fun b => Foot p S b) w w' := ⟨k3.os.trans (hS.kb.os.trans k1.os), k3.tape.trans (hS.kb.tape.trans k1.tape), k3.output.trans (hS.kb.output.trans k1.output), by have := k3.size; omega, fun b hb hn => keep b hb (fun e => hn (Or.inl e)) (fun e => hn (Or.inr (Or.inr (Or.inr ⟨i, t, hti, Or.inl e⟩)))) (fun e => hn (Or.inr (Or.inr (Or.inr ⟨i, t, hti, Or.inr e⟩)))) (fun e => hn (Or.inr (Or.inr (Or.inl e))))⟩
  have low : ∀ b : Nat, b < p → w'.heap[b]? = w.heap[b]? := fun b hb => keep b (by omega) (by omega) (by omega) (fun e => by have := (hvt b e).1; omega) (fun e => by have := (hvw b e).1; omega)
  have bel : Below p w w' := ⟨kall.os, kall.tape, kall.output, kall.size, low⟩
  have hlen : (S.tks.set i t').length = S.tks.length := List.length_set
  have hil := (List.getElem?_eq_some_iff.1 hti).1
  have row : ∀ v l, RowAt p w v l → RowAt p w' v l := fun v l hr => by
    obtain ⟨a, c, e1, e2, e3⟩ := hr
    exact ⟨a, c, e1, e2.below low, e3⟩
  have tk' : TkAt (p + 1) w' t' ∧ (∀ ad, t'.aa = some ad → ad.block < w'.heap.size ∧ ∃ c f, w'.heap[ad.block]? = some (.cells c 54 f)) := by
    refine ⟨hS.tk.kb k3 ?_ ?_ ?_, ?_⟩
    · rw [hq]
      rintro (e | e | e)
      · omega
      · exact row_type h.waits htk.hq (by decide) e
      · omega
    · intro g hg
      rcases hS.lies with e | ⟨g', e1, e2⟩
      · have hg' : t.vt.ownBlock = some g := by rw [← e]; exact hg
        obtain ⟨c, hc⟩ := row_block htk.told hg'
        rintro (e | e | e)
        · have := (hvt g hg').1; omega
        · exact row_type h.waits hc (by decide) e
        · have := (hvt g hg').2; omega
      · have e3 : g' = g := by rw [e1] at hg; simpa using hg
        rintro (e | e | e)
        · omega
        · have := (hvw g e).2; omega
        · omega
    · intro ad had
      obtain ⟨ad0, h1, h2⟩ := hS.aab ad had
      rw [← h2]
      obtain ⟨hb, c, f, hc⟩ := haa ad0 h1
      rintro (e | e | e)
      · rw [e, h.hp] at hc; simp at hc
      · exact row_type h.waits hc (by decide) e
      · omega
    · intro ad had
      obtain ⟨ad0, h1, h2⟩ := hS.aab ad had
      rw [← h2]
      obtain ⟨hb, c, f, hc⟩ := haa ad0 h1
      refine ⟨by have := kall.size; omega, c, f, (keep _ hb (fun e => ?_) (fun e => ?_) (row_type htk.told hc (by decide)) (row_type h.waits hc (by decide))).trans hc⟩
      · rw [e, h.hp] at hc; simp at hc
      · rw [e, htk.hq] at hc; simp at hc
  refine ⟨{ hp := hp', picks := row _ _ h.picks, ticks := row _ _ h.ticks, draws := ?_, tasks := ?_, waits := by rw [hlen]; exact hw', each := ?_, apart := ?_ }, kall⟩
  · exact hd.kb (by omega) (fun b e => by
      rcases e with e | e | e
      · omega
      · have := (hvw b e).1; omega
      · omega) k3
  · show w'.ownsRow (p + 1) 86 1 S.vs (S.tks.set i t').length ((S.tks.set i t').map tkV)
    have e : (S.tks.set i t').map tkV = S.tks.map tkV := by
      rw [List.map_set, show tkV t' = tkV t by simp [tkV, hq]]
      refine List.ext_getElem? fun j => ?_
      rw [List.getElem?_set]
      split
      · rename_i e
        subst e
        rw [List.getElem?_map, hti]
        simp [hil]
      · rfl
    rw [hlen, e]
    refine owns_same h.tasks (fun g hg => ?_)
    obtain ⟨c, hc⟩ := row_block h.tasks hg
    exact keep g (h.tasks.lt g hg).2 (by have := (h.tasks.lt g hg).1; omega) (fun e => by rw [e, htk.hq] at hc; simp at hc) (row_type htk.told hc (by decide)) (row_type h.waits hc (by decide))
  · intro j u hj
    rw [List.getElem?_set] at hj
    by_cases hij : i = j
    · rw [if_pos hij, if_pos (by omega)] at hj
      cases hj
      exact tk'
    · rw [if_neg hij] at hj
      obtain ⟨hu, hua⟩ := h.each j u hj
      obtain ⟨a1, a2⟩ := h.apart i j t u hij hti hj
      have hus := (Array.getElem?_eq_some_iff.1 hu.hq).1
      have kp : Kb (fun b => ¬ (b < w.heap.size ∧ b ≠ p ∧ b ≠ t.q ∧ t.vt.ownBlock ≠ some b ∧ S.vw.ownBlock ≠ some b)) w w' := ⟨kall.os, kall.tape, kall.output, kall.size, fun b hb hn => by
        have := Classical.not_not.1 hn
        exact keep b hb this.2.1 this.2.2.1 this.2.2.2.1 this.2.2.2.2⟩
      have ua : ∀ ad, u.aa = some ad → ad.block < w.heap.size ∧ ad.block ≠ p ∧ ad.block ≠ t.q ∧ t.vt.ownBlock ≠ some ad.block ∧ S.vw.ownBlock ≠ some ad.block := fun ad e => by
        obtain ⟨hb, c, f, hc⟩ := hua ad e
        exact ⟨hb, fun e => by rw [e, h.hp] at hc; simp at hc, fun e => by rw [e, htk.hq] at hc; simp at hc, row_type htk.told hc (by decide), row_type h.waits hc (by decide)⟩
      refine ⟨hu.kb kp (fun hn => hn ⟨hus, by have := hu.ge; omega, fun e => a1 e.symm, row_type htk.told hu.hq (by decide), row_type h.waits hu.hq (by decide)⟩) (fun g hg hn => ?_) (fun ad e hn => hn (ua ad e)), fun ad e => ?_⟩
      · obtain ⟨c, hc⟩ := row_block hu.told hg
        exact hn ⟨(hu.told.lt g hg).2, by have := (hu.told.lt g hg).1; omega, fun e => (by rw [e, htk.hq] at hc; simp at hc), fun e => a2 g e hg, row_type h.waits hc (by decide)⟩
      · obtain ⟨hb, c, f, hc⟩ := hua ad e
        obtain ⟨_, b1, b2, b3, b4⟩ := ua ad e
        exact ⟨by have := kall.size; omega, c, f, (keep _ hb b1 b2 b3 b4).trans hc⟩
  · intro j k u v hjk hj hk
    rw [List.getElem?_set] at hj hk
    have news : ∀ u : Tk, (∃ j : Nat, i ≠ j ∧ S.tks[j]? = some u) → t'.q ≠ u.q ∧ (∀ g, t'.vt.ownBlock = some g → u.vt.ownBlock ≠ some g) := fun u ⟨j, hij, hj⟩ => by
      obtain ⟨a1, a2⟩ := h.apart i j t u hij hti hj
      refine ⟨by rw [hq]; exact a1, fun g hg hu => ?_⟩
      rcases hS.lies with e | ⟨g', e1, e2⟩
      · exact a2 g (by rw [← e]; exact hg) hu
      · have e3 : g' = g := by rw [e1] at hg; simpa using hg
        have := ((h.each j u hj).1.told.lt g hu).2
        omega
    by_cases hij : i = j
    · rw [if_pos hij, if_pos (by omega)] at hj
      cases hj
      rw [if_neg (by omega)] at hk
      exact news v ⟨k, by omega, hk⟩
    · rw [if_neg hij] at hj
      by_cases hik : i = k
      · rw [if_pos hik, if_pos (by omega)] at hk
        cases hk
        obtain ⟨b1, b2⟩ := news u ⟨j, hij, hj⟩
        exact ⟨fun e => b1 e.symm, fun g hg hg2 => b2 g hg2 hg⟩
      · rw [if_neg hik] at hk
        exact h.apart j k u v hjk hj hk
end Go.Proofs.Ytefmhghdehokcaa
