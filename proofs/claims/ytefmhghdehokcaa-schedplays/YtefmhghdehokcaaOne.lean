/-
  A loop with one task.
-/
import Derived.Test.YtefmhghdehokcaaAdd
import Derived.Test.YtefmhghdehokcaaStep
namespace Go.Proofs.Ytefmhghdehokcaa
open Go.RowKit
/-- A loop with one tick, 3, and one task. -/
structure L1 (w : World) (p : Nat) (st : Nat) (now : Int) (draws : List Int) (fu : Nat) (wt : Int) (t : Tk) (b2 ck : Nat) (vs vw vd : Value) : Prop where
  hp : w.heap[p]? = some (.cells #[.slice none 0 0, .slice (some ⟨b2, 0, none⟩) 1 ck, vs, vw, .int .i64 (st : Nat), .int .u64 now, vd, .int .u64 (fu : Nat)] 83 (0, 0))
  tick : b2 < p ∧ w.cell? ⟨b2, 0, none⟩ = some (.int .i64 3)
  draws : RowAt p w vd (draws.map nV)
  tasks : w.ownsRow (p + 1) 86 1 vs 1 [tkV t]
  waits : w.ownsRow (p + 1) 3 1 vw 1 [iV wt]
  tk : TkAt (p + 1) w t
section
variable {w w' : World} {p st : Nat} {now : Int} {draws : List Int} {fu : Nat} {wt : Int} {t : Tk} {b2 ck : Nat} {vs vw vd : Value}
theorem TkAt.kb {B : Nat} {S : Nat → Prop} (h : TkAt B w t) (k : Kb S w w') (h1 : ¬ S t.q) (h2 : ∀ g, t.vt.ownBlock = some g → ¬ S g) (h3 : ∀ ad, t.aa = some ad → ¬ S ad.block) : TkAt B w' t where
  hq := (k.block _ (Array.getElem?_eq_some_iff.1 h.hq).1 h1).trans h.hq
  ge := h.ge
  acts := fun j x hj => by
    obtain ⟨b, off, e, ⟨c, f, hc⟩, e1, e2⟩ := h.acts j x hj
    have hb := k.block b (Array.getElem?_eq_some_iff.1 hc).1 (h3 _ e)
    refine ⟨b, off, e, ⟨c, f, hb.trans hc⟩, ?_, ?_⟩
    · simp only [World.cell?] at e1 ⊢; rw [hb]; exact e1
    · simp only [World.cell?] at e2 ⊢; rw [hb]; exact e2
  len := h.len
  nil := h.nil
  told := owns_same h.told (fun g e => k.block g (h.told.lt g e).2 (h2 g e))
theorem L1.below (h : L1 w p st now draws fu wt t b2 ck vs vw vd) (k : Below w.heap.size w w') : L1 w' p st now draws fu wt t b2 ck vs vw vd := by
  have hps := (Array.getElem?_eq_some_iff.1 h.hp).1
  exact {
    hp := (k.block p hps).trans h.hp
    tick := ⟨h.tick.1, (k.cell (p := ⟨b2, 0, none⟩) (World.block_lt_of_cell? w _ h.tick.2)).trans h.tick.2⟩
    draws := h.draws.kb hps (S := fun _ => False) (fun _ e => e.elim) (Kb.of_below k)
    tasks := owns_same h.tasks (fun g e => k.block g (h.tasks.lt g e).2)
    waits := owns_same h.waits (fun g e => k.block g (h.waits.lt g e).2)
    tk := h.tk.kb (Kb.of_below (S := fun _ => False) k) (fun e => e) (fun _ _ e => e) (fun _ _ e => e) }
end
theorem ready_one : readyL [0] = [0] := by decide
theorem row_type {W : World} {B n : Nat} {e : TypeId} {v : Value} {xs : List Value} (h : W.ownsRow B e 1 v n xs) {b : Nat} {c : Array Value} {ty : TypeId} {f : Nat × Nat} (hb : W.heap[b]? = some (.cells c ty f)) (hne : ty ≠ e) : v.ownBlock ≠ some b := fun eq => by
  rcases h.2 with ⟨ev, _⟩ | ⟨g', cap', cur, ev, _, hh, _⟩
  · rw [ev] at eq; cases eq
  · rw [ev] at eq
    simp only [Value.ownBlock, Option.some.injEq] at eq
    subst eq
    rw [hb] at hh
    simp at hh
    exact hne hh.2.1
theorem row_block {W : World} {B n : Nat} {e : TypeId} {v : Value} {xs : List Value} (h : W.ownsRow B e 1 v n xs) {b : Nat} (hb : v.ownBlock = some b) : ∃ c, W.heap[b]? = some (.cells c e (0, 0)) := by
  rcases h.2 with ⟨ev, _⟩ | ⟨g', cap', cur, ev, _, hh, _⟩
  · rw [ev] at hb; cases hb
  · rw [ev] at hb
    simp only [Value.ownBlock, Option.some.injEq] at hb
    subst hb
    exact ⟨cur, hh⟩
/-- How a step of the task leaves the loop. -/
theorem l1_next {w W1 w2 w' : World} {p st : Nat} {now now1 : Int} {draws draws' : List Int} {fu fu' : Nat} {t t' : Tk} {b2 ck : Nat} {vs vw vd vd' : Value} {wt : Int} (h : L1 w p st now draws fu 0 t b2 ck vs vw vd) (k1 : Kb (fun b => b = p) w W1)
    (hS : Stepped p t t' W1 w2 #[.slice none 0 0, .slice (some ⟨b2, 0, none⟩) 1 ck, vs, vw, .int .i64 (st : Nat), .int .u64 now1, vd', .int .u64 (fu' : Nat)]) (hd : RowAt p w2 vd' (draws'.map nV)) (hq : t'.q = t.q)
    (hp' : w'.heap[p]? = some (.cells #[.slice none 0 0, .slice (some ⟨b2, 0, none⟩) 1 ck, vs, vw, .int .i64 ((st + 1 : Nat) : Int), .int .u64 now1, vd', .int .u64 (fu' : Nat)] 83 (0, 0))) (hw' : w'.ownsRow (p + 1) 3 1 vw 1 (([0].set 0 wt).map iV)) (k3 : Kb (fun b => b = p ∨ vw.ownBlock = some b ∨ (w.heap.size ≤ b ∧ b < W1.heap.size)) w2 w') (hne : t.acts ≠ []) :
    L1 w' p (st + 1) now1 draws' fu' wt t' b2 ck vs vw vd' ∧ Below p w w' := by
  have hps := (Array.getElem?_eq_some_iff.1 h.hp).1
  have hqs := (Array.getElem?_eq_some_iff.1 h.tk.hq).1
  have hge := h.tk.ge
  have hvt : ∀ g, t.vt.ownBlock = some g → p + 1 ≤ g ∧ g < w.heap.size := fun g e => h.tk.told.lt g e
  have hvw : ∀ g, vw.ownBlock = some g → p + 1 ≤ g ∧ g < w.heap.size := fun g e => h.waits.lt g e
  have s1 := k1.size
  have s2 := hS.kb.size
  have HA : ∀ ad0, t.aa = some ad0 → ad0.block < w.heap.size ∧ ∃ c f, w.heap[ad0.block]? = some (.cells c 54 f) := fun ad0 e => by
    cases hc : t.acts with
    | nil => exact absurd hc hne
    | cons x l =>
      obtain ⟨b, off, e2, ⟨c, f, hcf⟩, _⟩ := h.tk.acts 0 x (by rw [hc]; rfl)
      rw [e] at e2
      cases e2
      exact ⟨(Array.getElem?_eq_some_iff.1 hcf).1, c, f, hcf⟩
  have keep : ∀ b, b < w.heap.size → b ≠ p → b ≠ t.q → t.vt.ownBlock ≠ some b → vw.ownBlock ≠ some b → w'.heap[b]? = w.heap[b]? := fun b hb h1 h2 h3 h4 => by
    refine (k3.block b (by omega) ?_).trans ((hS.kb.block b (by omega) ?_).trans (k1.block b hb h1))
    · rintro (e | e | e)
      · exact h1 e
      · exact h4 e
      · omega
    · rintro (e | e | e)
      · exact h1 e
      · exact h2 e
      · exact h3 e
  have low : ∀ b, b < p → w'.heap[b]? = w.heap[b]? := fun b hb => keep b (by omega) (by omega) (by omega) (fun e => by have := (hvt b e).1; omega) (fun e => by have := (hvw b e).1; omega)
  have bel : Below p w w' := ⟨k3.os.trans (hS.kb.os.trans k1.os), k3.tape.trans (hS.kb.tape.trans k1.tape), k3.output.trans (hS.kb.output.trans k1.output), by have := k3.size; omega, low⟩
  refine ⟨{ hp := hp', tick := ⟨h.tick.1, (bel.cell (p := ⟨b2, 0, none⟩) h.tick.1).trans h.tick.2⟩, draws := ?_, tasks := ?_, waits := hw', tk := ?_ }, bel⟩
  · exact hd.kb (by omega) (fun b e => by
      rcases e with e | e | e
      · omega
      · have := (hvw b e).1; omega
      · omega) k3
  · have e : tkV t' = tkV t := by simp [tkV, hq]
    rw [e]
    refine owns_same h.tasks (fun g hg => ?_)
    obtain ⟨c, hc⟩ := row_block h.tasks hg
    exact keep g (h.tasks.lt g hg).2 (by have := (h.tasks.lt g hg).1; omega) (fun e => by rw [e, h.tk.hq] at hc; simp at hc) (row_type h.tk.told hc (by decide)) (row_type h.waits hc (by decide))
  · refine hS.tk.kb k3 ?_ ?_ ?_
    · rw [hq]
      rintro (e | e | e)
      · omega
      · exact row_type h.waits h.tk.hq (by decide) e
      · omega
    · intro g hg
      rcases hS.lies with e | ⟨g', e1, e2⟩
      · have hg' : t.vt.ownBlock = some g := by rw [← e]; exact hg
        obtain ⟨c, hc⟩ := row_block h.tk.told hg'
        rintro (e | e | e)
        · have := (hvt g hg').1; omega
        · exact row_type h.waits hc (by decide) e
        · have := (hvt g hg').2; omega
      · have e3 : g' = g := by rw [e1] at hg; simpa using hg
        rintro (e | e | e)
        · omega
        · have := (hvw g e).2; omega
        · omega
    · intro ad had
      obtain ⟨ad0, h1, h2⟩ := hS.aab ad had
      rw [← h2]
      obtain ⟨hb, hty⟩ := HA ad0 h1
      rintro (e | e | e)
      · rw [e] at hty; obtain ⟨c, f, hc⟩ := hty; rw [h.hp] at hc; simp at hc
      · obtain ⟨c, f, hc⟩ := hty; exact row_type h.waits hc (by decide) e
      · omega
end Go.Proofs.Ytefmhghdehokcaa
