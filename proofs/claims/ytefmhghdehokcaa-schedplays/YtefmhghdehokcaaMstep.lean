/-
  A step of a loop with any number of tasks, whose task takes nothing down and wakes nobody.
-/
import Derived.Test.YtefmhghdehokcaaMany
namespace Go.Proofs.Ytefmhghdehokcaa
open Go.RowKit
/-- What the clock is behind a step. -/
def clockI (ticks : List Int) (st : Nat) (now : Int) : Int := now + ticks.getD st 0
theorem la_step (p i j : Nat) (pick : Int) (S : LS) (t : Tk) (l : List (Int × Int)) (d : Bool) (wt : Int) (w : World) (h : LA w p S) (hn : S.tks.length ≤ 100) (hst : S.steps < 1000000) (hpk : 0 ≤ pick) (hj : pick.tmod ((readyL S.waits).length : Int) = (j : Int)) (hij : (readyL S.waits)[j]? = some i) (hti : S.tks[i]? = some t)
    (htk : ∀ x ∈ S.ticks, 0 ≤ x ∧ x < 2147483648) (hn0 : 0 ≤ S.now) (hn1 : S.now < 1000000000000000)
    (HTK : ∀ W1 cs, TkAt (p + 1) W1 t → W1.heap[p]? = some (.cells cs 83 (0, 0)) → Calls Try.prog 24 #[.pointer (some ⟨t.q, 0, none⟩), .pointer (some ⟨p, 5, none⟩)] W1 fun r w2 => r = .returned (.agg #[.bool d, .int .i64 wt, .slice none 0 0]) ∧ ∃ t', t'.q = t.q ∧ t'.acts = l ∧ t'.told = t.told ∧ Stepped p t t' W1 w2 cs) :
    Calls Try.prog 18 #[.pointer (some ⟨p, 0, none⟩), .int .i64 pick] w fun r w' => r = .returned (.tuple #[.int .i64 (i : Nat), .bool true]) ∧ ∃ t', t'.q = t.q ∧ t'.acts = l ∧ t'.told = t.told ∧ LA w' p { S with steps := S.steps + 1, now := clockI S.ticks S.steps S.now, tks := S.tks.set i t', waits := S.waits.set i (restI d wt) } ∧ Kb (fun b => Foot p S b) w w' := by
  have hps := (Array.getElem?_eq_some_iff.1 h.hp).1
  obtain ⟨htt, haa⟩ := h.each i t hti
  have hqs := (Array.getElem?_eq_some_iff.1 htt.hq).1
  have hge := htt.ge
  have hvt : ∀ g, t.vt.ownBlock = some g → p + 1 ≤ g ∧ g < w.heap.size := fun g e => htt.told.lt g e
  have hvw : ∀ g, S.vw.ownBlock = some g → p + 1 ≤ g ∧ g < w.heap.size := fun g e => h.waits.lt g e
  obtain ⟨ak, ck, hvk, hva, hck, _⟩ := h.ticks
  rw [List.length_map] at hvk hck
  have hp := h.hp
  rw [hvk] at hp
  have hnw : clockI S.ticks S.steps S.now = clockI S.ticks S.steps S.now := rfl
  have := step_quiet p S.tks.length i j pick S.vp S.vs S.vw S.vd ak S.ticks.length ck S.steps S.fu S.fu S.now (clockI S.ticks S.steps S.now) S.waits S.tks t d wt w
    (fun W1 w2 v => v = S.vd ∧ Kb (fun b => b = p) w W1 ∧ ∃ t', t'.q = t.q ∧ t'.acts = l ∧ t'.told = t.told ∧ Stepped p t t' W1 w2 #[S.vp, S.vk, S.vs, S.vw, .int .i64 (S.steps : Nat), .int .u64 (clockI S.ticks S.steps S.now), S.vd, .int .u64 (S.fu : Nat)])
    hp (by
      by_cases hs : S.steps < S.ticks.length
      · right
        have hx : S.ticks[S.steps]? = some (S.ticks.getD S.steps 0) := by rw [List.getD_eq_getElem?_getD, List.getElem?_eq_getElem hs]; rfl
        obtain ⟨b, off, e1, e2, e3⟩ := hva S.steps (iV (S.ticks.getD S.steps 0)) (by rw [List.getElem?_map, hx]; rfl)
        obtain ⟨b1, b2⟩ := htk _ (List.mem_of_getElem? hx)
        exact ⟨hs, b, off, _, e1, e2, e3, b1, b2, hn0, hn1, rfl⟩
      · left
        refine ⟨by omega, ?_⟩
        rw [clockI, List.getD_eq_getElem?_getD, List.getElem?_eq_none (by omega)]
        simp) hst h.waits h.tasks hn hpk hj hij hti
    (fun W1 k1 hp1 => by
      have tk1 := htt.kb k1 (by omega) (fun g e => by have := (hvt g e).1; omega) (fun ad e e2 => by
        obtain ⟨_, c, f, hc⟩ := haa ad e
        have e3 : ad.block = p := e2
        rw [e3, h.hp] at hc
        simp at hc)
      rw [← hvk] at hp1
      refine (HTK W1 _ tk1 hp1).mono ?_
      rintro r w2 ⟨rfl, t', h1, h2, h3, h4⟩
      exact ⟨rfl, S.vd, rfl, k1, t', h1, h2, h3, h4⟩)
    (fun W1 w2 v ⟨hv, k1, t', h1, h2, h3, h4⟩ => by
      subst hv
      have s1 := k1.size
      refine ⟨by rw [← hvk]; exact h4.hp, ?_, h4.kb.size, fun b hb1 hb2 => h4.kb.block b hb2 ?_⟩
      · refine owns_same h.waits (fun g e => ?_)
        obtain ⟨c, hc⟩ := row_block h.waits e
        refine (h4.kb.block g (by have := (hvw g e).2; omega) ?_).trans (k1.block g (hvw g e).2 (by have := (hvw g e).1; omega))
        rintro (e2 | e2 | e2)
        · have := (hvw g e).1; omega
        · rw [e2, htt.hq] at hc; simp at hc
        · exact row_type htt.told hc (by decide) e2
      · rintro (e2 | e2 | e2)
        · omega
        · omega
        · have := (hvt b e2).2; omega)
  refine this.mono ?_
  rintro r w' ⟨rfl, W1, w2, v, k1, ⟨hv, _, t', h1, h2, h3, h4⟩, hp', hw', k3⟩
  subst hv
  rw [← hvk] at hp'
  have hd2 : RowAt p w2 S.vd (S.draws.map nV) := (h.draws.kb hps (S := fun b => b = p) (fun b e => by omega) k1).kb (by have := k1.size; omega) (fun b e => by
    rcases e with e | e | e
    · omega
    · omega
    · have := (hvt b e).1; omega) h4.kb
  obtain ⟨hL, hB⟩ := la_next h hti k1 h4 hd2 h1 hp' hw' k3
  exact ⟨rfl, t', h1, h2, h3, hL, hB⟩
end Go.Proofs.Ytefmhghdehokcaa
