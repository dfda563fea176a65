/-
  A loop and its twin, side by side; the calls of both.
-/
import Derived.Test.YtefmhghdehokcaaSides
import Derived.Test.YtefmhghdehokcaaSame
namespace Go.Proofs.Ytefmhghdehokcaa
open Go.RowKit
/-- What is done elsewhere leaves a loop as it is. -/
theorem LA.keep {w w' : World} {p : Nat} {S : LS} {D : Nat → Prop} (h : LA w p S) (k : Kb D w w') (h1 : ∀ k, D k → ¬ Foot p S k) (h2 : ∀ k, D k → p ≤ k) (h3 : ∀ (k : Nat), D k → ∀ c f, w.heap[k]? ≠ some (.cells c 54 f)) : LA w' p S := by
  have hps := h.ps
  have row : ∀ v l, RowAt p w v l → RowAt p w' v l := fun v l hr => hr.kb hps (fun b e => h2 b e) k
  refine { hp := (k.block p hps (fun e => h1 p e (Or.inl rfl))).trans h.hp, picks := row _ _ h.picks, ticks := row _ _ h.ticks, draws := row _ _ h.draws, tasks := owns_same h.tasks (fun g e => k.block g (h.tasks.lt g e).2 (fun e2 => h1 g e2 (Or.inr (Or.inl e)))), waits := owns_same h.waits (fun g e => k.block g (h.waits.lt g e).2 (fun e2 => h1 g e2 (Or.inr (Or.inr (Or.inl e))))), each := ?_, apart := h.apart }
  intro i t hi
  obtain ⟨ht, hta⟩ := h.each i t hi
  have nb : ∀ ad, t.aa = some ad → ¬ D ad.block := fun ad e e2 => by
    obtain ⟨_, c, f, hc⟩ := hta ad e
    exact h3 _ e2 _ _ hc
  refine ⟨ht.kb k (fun e => h1 _ e (Or.inr (Or.inr (Or.inr ⟨i, t, hi, Or.inl rfl⟩)))) (fun g hg e => h1 _ e (Or.inr (Or.inr (Or.inr ⟨i, t, hi, Or.inr hg⟩)))) nb, fun ad e => ?_⟩
  obtain ⟨hb, c, f, hc⟩ := hta ad e
  exact ⟨Nat.lt_of_lt_of_le hb k.size, c, f, (k.block _ hb (nb ad e)).trans hc⟩
theorem LA.foot_lt {w : World} {p : Nat} {S : LS} (h : LA w p S) {b : Nat} (hf : Foot p S b) : b < w.heap.size := by
  obtain ⟨_, c, ty, e, _⟩ := h.foot hf
  exact (Array.getElem?_eq_some_iff.1 e).1
def qV (t : Tk) : Value := .pointer (some ⟨t.q, 0, none⟩)
/-- A loop, its tasks and its twin. -/
structure PB (w : World) (b p x lo : Nat) (va : Value) (S : LS) (T : TS) : Prop where
  hb : w.heap[b]? = some (.cells #[.pointer (some ⟨p, 0, none⟩), va, .pointer (some ⟨x, 0, none⟩)] 43 (0, 0))
  oa : w.ownsRow (p + 1) 58 1 va S.tks.length (S.tks.map qV)
  la : LA w p S
  tw : TW w lo x T
  tok : TOk T
  pl : T.picks.length ≤ 65536
  ul : T.used ≤ T.picks.length
  pb : p < b
  px : p < x
  lop : lo ≤ p
  tge : ∀ k, TFoot x T k → p ≤ k
  apart : ∀ k, Foot p S k → ¬ TFoot x T k
/-- Not below lo, and no call's own block. -/
def D35 (lo : Nat) (w : World) (k : Nat) : Prop := lo ≤ k ∧ ∀ c f, w.heap[k]? ≠ some (.cells c 35 f)
theorem d35_of {lo k : Nat} {w : World} {c : Array Value} {ty : TypeId} {f : Nat × Nat} (hl : lo ≤ k) (h : w.heap[k]? = some (.cells c ty f)) (hn : ty ≠ 35) : D35 lo w k := ⟨hl, fun c' f' e => by
  rw [h] at e
  simp only [Option.some.injEq, Obj.cells.injEq] at e
  exact hn e.2.1⟩
theorem d35_la {w : World} {p lo : Nat} {S : LS} (h : LA w p S) (hlo : lo ≤ p) {k : Nat} (e : Foot p S k) : D35 lo w k := by
  have hk : lo ≤ k := by have := (h.foot e).1; omega
  rcases e with e | e | e | ⟨i, t, hi, e | e⟩
  · rw [e]; exact d35_of hlo h.hp (by decide)
  · obtain ⟨c, hc⟩ := row_block h.tasks e
    exact d35_of hk hc (by decide)
  · obtain ⟨c, hc⟩ := row_block h.waits e
    exact d35_of hk hc (by decide)
  · rw [e] at hk ⊢; exact d35_of hk (h.each i t hi).1.hq (by decide)
  · obtain ⟨c, hc⟩ := row_block (h.each i t hi).1.told e
    exact d35_of hk hc (by decide)
theorem d35_tw {w : World} {x lo : Nat} {T : TS} (h : TW w lo x T) {k : Nat} (e : TFoot x T k) : D35 lo w k := by
  obtain ⟨h1, _, c, ty, h2, h3⟩ := h.foot e
  exact d35_of h1 h2 (by rcases h3 with q | q | q | q <;> (rw [q]; decide))
theorem qV_same {S S' : LS} (h : LoQ S S') : S'.tks.map qV = S.tks.map qV := by
  have e : ∀ l : List Tk, l.map qV = (l.map (·.q)).map (fun q => Value.pointer (some ⟨q, 0, none⟩)) := fun l => by rw [List.map_map]; rfl
  rw [e, e, h.qs]
theorem PB.turnS {w w' : World} {b p x lo : Nat} {va : Value} {S S' : LS} {T : TS} {P : PS} (h : PB w b p x lo va S T) (k : LAt p S w P w' S') : PB w' b p x lo va S' T := by
  have ne : ∀ (g : Nat) c ty f, w.heap[g]? = some (.cells c ty f) → ty = 43 ∨ ty = 58 → ¬ Foot p S g := fun g c ty f hg hty e => by
    obtain ⟨_, c', ty', e1, n1, _, n3, _⟩ := h.la.foot e
    rw [hg] at e1
    simp only [Option.some.injEq, Obj.cells.injEq] at e1
    rcases hty with q | q <;> (rw [q] at e1; first | exact n1 e1.2.1.symm | exact n3 e1.2.1.symm)
  have hlen : S'.tks.length = S.tks.length := by have := congrArg List.length k.los.qs; simpa using this
  refine { hb := (k.kb.block b (Array.getElem?_eq_some_iff.1 h.hb).1 (ne _ _ _ _ h.hb (Or.inl rfl))).trans h.hb, oa := ?_, la := k.la, tw := h.tw.kb k.kb (fun g e => by have := (h.la.foot e).1; have := h.lop; omega) h.apart, tok := h.tok, pl := h.pl, ul := h.ul, pb := h.pb, px := h.px, lop := h.lop, tge := h.tge, apart := fun g e1 e2 => ?_ }
  · rw [hlen, qV_same k.los]
    exact owns_same h.oa (fun g e => by
      obtain ⟨c, hc⟩ := row_block h.oa e
      exact k.kb.block g (h.oa.lt g e).2 (ne _ _ _ _ hc (Or.inr rfl)))
  · rcases k.up g e1 with e | e
    · exact h.apart g e e2
    · have := (h.tw.foot e2).2.1
      omega
theorem PB.turnT {w w' : World} {b p x lo : Nat} {va : Value} {S : LS} {T T' : TS} {P : PS} (h : PB w b p x lo va S T) (k : TAt lo x T w P w' T') : PB w' b p x lo va S T' := by
  have ne : ∀ (g : Nat) c ty f, w.heap[g]? = some (.cells c ty f) → ty = 43 ∨ ty = 58 ∨ ty = 54 → ¬ TFoot x T g := fun g c ty f hg hty e => by
    obtain ⟨_, _, c', ty', e1, n⟩ := h.tw.foot e
    rw [hg] at e1
    simp only [Option.some.injEq, Obj.cells.injEq] at e1
    have := e1.2.1
    rcases hty with q | q | q <;> rcases n with n | n | n | n <;> (rw [q, n] at this; exact absurd this (by decide))
  refine { hb := (k.kb.block b (Array.getElem?_eq_some_iff.1 h.hb).1 (ne _ _ _ _ h.hb (Or.inl rfl))).trans h.hb, oa := ?_, la := h.la.keep k.kb (fun g e1 e2 => h.apart g e2 e1) h.tge (fun g e c f hc => ne _ _ _ _ hc (Or.inr (Or.inr rfl)) e), tw := k.tw, tok := tok_of h.tok k.acts k.draws, pl := by rw [k.picks]; exact h.pl, ul := k.used, pb := h.pb, px := h.px, lop := h.lop, tge := fun g e => ?_, apart := fun g e1 e2 => ?_ }
  · exact owns_same h.oa (fun g e => by
      obtain ⟨c, hc⟩ := row_block h.oa e
      exact k.kb.block g (h.oa.lt g e).2 (ne _ _ _ _ hc (Or.inr (Or.inl rfl))))
  · rcases k.up g e with e | e
    · exact h.tge g e
    · have := h.la.ps
      omega
  · rcases k.up g e2 with e | e
    · exact h.apart g e1 e
    · have := h.la.foot_lt e1
      omega
theorem PB.below {w w' : World} {b p x lo : Nat} {va : Value} {S : LS} {T : TS} (h : PB w b p x lo va S T) (k : Below w.heap.size w w') : PB w' b p x lo va S T :=
  { hb := (k.block b (Array.getElem?_eq_some_iff.1 h.hb).1).trans h.hb, oa := owns_same h.oa (fun g e => k.block g (h.oa.lt g e).2), la := h.la.below k, tw := h.tw.below k, tok := h.tok, pl := h.pl, ul := h.ul, pb := h.pb, px := h.px, lop := h.lop, tge := h.tge, apart := h.apart }
/-- Both stand the same. -/
structure PX (w : World) (b p x lo : Nat) (st : Nat) : Prop where
  ex : ∃ va S T, PB w b p x lo va S T ∧ T.ps = S.ps ∧ Bd S.ps ∧ WOk S.ps ∧ S.steps ≤ st
theorem PX.below {w w' : World} {b p x lo st : Nat} (h : PX w b p x lo st) (k : Below w.heap.size w w') : PX w' b p x lo st := by
  obtain ⟨va, S, T, h1, h2⟩ := h.ex
  exact ⟨va, S, T, h1.below k, h2⟩
theorem PX.at43 {w : World} {b p x lo st : Nat} (h : PX w b p x lo st) : ∃ va, w.heap[b]? = some (.cells #[.pointer (some ⟨p, 0, none⟩), va, .pointer (some ⟨x, 0, none⟩)] 43 (0, 0)) := by
  obtain ⟨va, S, T, h1, _⟩ := h.ex
  exact ⟨va, h1.hb⟩
/-- The pointers of both, while one of them has gone ahead. -/
def PtAt (w : World) (b p x : Nat) : Prop := ∃ va, w.heap[b]? = some (.cells #[.pointer (some ⟨p, 0, none⟩), va, .pointer (some ⟨x, 0, none⟩)] 43 (0, 0))
theorem lat_refl {w : World} {p : Nat} {S : LS} (h : LA w p S) : LAt p S w S.ps w S := ⟨h, rfl, Kb.refl _ _, fun _ e => Or.inl e, ⟨fun _ e => e, rfl⟩⟩
theorem tat_refl {w : World} {lo x : Nat} {T : TS} (h : TW w lo x T) (hu : T.used ≤ T.picks.length) : TAt lo x T w T.ps w T := ⟨h, rfl, Kb.refl _ _, TFootUp.refl _ _ _, rfl, rfl, rfl, hu⟩
theorem PX.next {w : World} {b p x lo st : Nat} (h : PX w b p x lo st) (hst : st < 8000000000000000) :
    ∃ (N : Nat) (B : Bool), Calls Try.prog 13 #[.pointer (some ⟨p, 0, none⟩)] w fun r w1 => r = .returned (.tuple #[.int .i64 (N : Nat), .bool B]) ∧ PtAt w1 b p x ∧ Kb (D35 lo w) w w1 ∧ ∀ W, Below w1.heap.size w1 W → Calls Try.prog 36 #[.pointer (some ⟨x, 0, none⟩)] W fun r w2 => r = .returned (.tuple #[.int .i64 (N : Nat), .bool B]) ∧ Kb (D35 lo W) W w2 ∧ PX w2 b p x lo (st + 1) := by
  obtain ⟨va, S, T, h1, h2, h3, h4, h5⟩ := h.ex
  refine ⟨nextN S.ps, nextB S.ps, (lat_next p S S S.ps w w (lat_refl h1.la) h3 (by show S.steps < _; omega)).mono ?_⟩
  rintro r w1 ⟨rfl, S1, k1⟩
  have g1 := h1.turnS k1
  refine ⟨rfl, ⟨va, g1.hb⟩, k1.kb.mono (fun g e => d35_la h1.la h1.lop e), fun W kW => ?_⟩
  replace g1 := g1.below kW
  have hc : T.ps.steps = S.ps.steps := by rw [h2]
  have := tat_next lo x T T T.ps W W (tat_refl g1.tw g1.ul) (by rw [h2]; exact h3) g1.tok g1.pl (by rw [h2]; exact h4) (by rw [hc]; show S.steps < _; omega)
  rw [h2] at this
  refine this.mono ?_
  rintro r w2 ⟨rfl, T2, k2⟩
  have k2' : TAt lo x T W (nextP S.ps) w2 T2 := k2
  refine ⟨rfl, k2'.kb.mono (fun g e => d35_tw g1.tw e), ⟨va, S1, T2, g1.turnT k2', by rw [k2'.ps, k1.ps], by rw [k1.ps]; exact h3.next, by rw [k1.ps]; exact nextP_wok h4, ?_⟩⟩
  have q1 := nextP_steps S.ps
  rw [← k1.ps] at q1
  have q2 : S1.ps.steps = S1.steps := rfl
  have q3 : S.ps.steps = S.steps := rfl
  omega
theorem itP_bd_wok {P : PS} (h : Bd P) (k : WOk P) (n : Nat) : Bd (itP P n) ∧ WOk (itP P n) := ⟨Bd.it h n, itP_wok k n⟩
theorem PX.run {w : World} {b p x lo st : Nat} (most : Int) (h : PX w b p x lo st) (hst : st < 8000000000000000) (hm : most ≤ 1000) :
    Calls Try.prog 26 #[.pointer (some ⟨p, 0, none⟩), .int .i64 most] w fun r w1 => ∃ N : Nat, r = .returned (.int .i64 (N : Nat)) ∧ PtAt w1 b p x ∧ Kb (D35 lo w) w w1 ∧ ∀ W, Below w1.heap.size w1 W → Calls Try.prog 37 #[.pointer (some ⟨x, 0, none⟩), .int .i64 most] W fun r w2 => r = .returned (.int .i64 (N : Nat)) ∧ Kb (D35 lo W) W w2 ∧ PX w2 b p x lo (st + 1000) := by
  obtain ⟨va, S, T, h1, h2, h3, h4, h5⟩ := h.ex
  refine (lrun p most S w h1.la h3 (by omega) hm).mono ?_
  rintro r w1 ⟨N, rfl, n1, S1, k1⟩
  have g1 := h1.turnS k1
  refine ⟨N, rfl, ⟨va, g1.hb⟩, k1.kb.mono (fun g e => d35_la h1.la h1.lop e), fun W kW => ?_⟩
  replace g1 := g1.below kW
  have hc : T.ps.steps = S.ps.steps := by rw [h2]
  have hc' : T.count = S.steps := hc
  refine (trun lo x most T W g1.tw (by rw [h2]; exact h3) g1.tok g1.pl g1.ul (by rw [h2]; exact h4) (by omega) hm).mono ?_
  rintro r w2 ⟨M, rfl, n2, T2, k2⟩
  rw [h2] at n2 k2
  have e := n2.same n1
  subst e
  refine ⟨rfl, k2.kb.mono (fun g e => d35_tw g1.tw e), ⟨va, S1, T2, g1.turnT k2, by rw [k2.ps, k1.ps], by rw [k1.ps]; exact Bd.it h3 _, by rw [k1.ps]; exact itP_wok h4 _, ?_⟩⟩
  have q1 := itP_steps S.ps M
  rw [← k1.ps] at q1
  have q2 : S1.ps.steps = S1.steps := rfl
  have q3 : S.ps.steps = S.steps := rfl
  have q4 := n1.1
  omega
theorem wk_count {T : TS} (h : WOk T.ps) (ch : Int) : wkN ch T.ts T.ts.length = wakeN ch T.ps.waits := by
  have e : ∀ l : List TT, (∀ t ∈ l, t.wait = -1 ∨ (0 ≤ t.wait ∧ t.wait ≤ 1024)) → (l.filter (fun t => decide (0 < ch ∧ t.wait = ch))).length = if chanB ch then ((l.map (·.wait)).filter (fun x => x == ch)).length else 0 := fun l hl => by
    induction l with
    | nil => simp
    | cons a l ih =>
      have h1 := ih (fun t ht => hl t (List.mem_cons_of_mem _ ht))
      have h2 := hl a (List.mem_cons_self ..)
      by_cases hc : chanB ch = true
      · rw [if_pos hc] at h1 ⊢
        have hc' := hc
        unfold chanB at hc'
        simp only [Bool.and_eq_true, decide_eq_true_eq] at hc'
        by_cases ha : a.wait = ch
        · rw [List.filter_cons_of_pos (by simp; omega), List.map_cons, List.filter_cons_of_pos (by simp [ha]), List.length_cons, List.length_cons, h1]
        · rw [List.filter_cons_of_neg (by simp [ha]), List.map_cons, List.filter_cons_of_neg (by simp [ha]), h1]
      · rw [if_neg hc] at h1 ⊢
        have hn : ¬ (1 ≤ ch ∧ ch ≤ 1024) := fun q => hc (by unfold chanB; simp [q.1, q.2])
        rw [List.filter_cons_of_neg (by simp; omega), h1]
  unfold wkN wakeN
  rw [List.take_length]
  exact e T.ts (fun t ht => h t.wait (List.mem_map.2 ⟨t, ht, rfl⟩))
theorem wake_bd {P : PS} (h : Bd P) (ch : Int) : Bd { P with waits := wakeL ch P.waits } := { h with wlen := (wakeL_len ch P.waits).trans h.wlen }
theorem wake_wok {P : PS} (h : WOk P) (ch : Int) : WOk { P with waits := wakeL ch P.waits } := by
  intro y hy
  have hy' : y ∈ wakeL ch P.waits := hy
  unfold wakeL at hy'
  split at hy'
  · obtain ⟨z, hz, rfl⟩ := List.mem_map.1 hy'
    unfold wk
    split
    · right; omega
    · exact h z hz
  · exact h y hy'
theorem PX.wake {w : World} {b p x lo st : Nat} (ch : Int) (h : PX w b p x lo st) :
    ∃ N : Nat, Calls Try.prog 20 #[.pointer (some ⟨p, 0, none⟩), .int .i64 ch] w fun r w1 => r = .returned (.int .i64 (N : Nat)) ∧ PtAt w1 b p x ∧ Kb (D35 lo w) w w1 ∧ ∀ W, Below w1.heap.size w1 W → Calls Try.prog 38 #[.pointer (some ⟨x, 0, none⟩), .int .i64 ch] W fun r w2 => r = .returned (.int .i64 (N : Nat)) ∧ Kb (D35 lo W) W w2 ∧ PX w2 b p x lo st := by
  obtain ⟨va, S, T, h1, h2, h3, h4, h5⟩ := h.ex
  have hl : S.tks.length ≤ 64 := by have := h3.len; simpa [LS.ps] using this
  have hlT : T.ts.length ≤ 64 := by have := h3.len; rw [← h2] at this; simpa [TS.ps] using this
  refine ⟨wakeN ch S.waits, (la_wake p ch S w h1.la (by omega)).mono ?_⟩
  rintro r w1 ⟨rfl, L1, k1⟩
  have kf : Kb (fun b => Foot p S b) w w1 := k1.mono (fun g e => Or.inr (Or.inr (Or.inl e)))
  have hl1 : LAt p S w { S.ps with waits := wakeL ch S.ps.waits } w1 { S with waits := wakeL ch S.waits } := ⟨L1, rfl, kf, fun _ e => Or.inl e, ⟨fun _ e => e, rfl⟩⟩
  have g1 := h1.turnS hl1
  refine ⟨rfl, ⟨va, g1.hb⟩, kf.mono (fun g e => d35_la h1.la h1.lop e), fun W kW => ?_⟩
  replace g1 := g1.below kW
  have hwo : WOk T.ps := by rw [h2]; exact h4
  refine (twake lo x ch T W g1.tw hlT).mono ?_
  rintro r w2 ⟨rfl, t1, k2⟩
  have kt : Kb (TFoot x T) W w2 := k2.mono (fun g e => by obtain ⟨i, t, hi, e⟩ := e; exact Or.inr (Or.inr ⟨i, t, hi, Or.inl e⟩))
  have ep : ({ T with ts := T.ts.map (wkT ch) } : TS).ps = { S.ps with waits := wakeL ch S.ps.waits } := by
    have e1 : (T.ts.map (wkT ch)).map (fun t => (t.acts.drop t.pos, t.told)) = T.ts.map (fun t => (t.acts.drop t.pos, t.told)) := by rw [List.map_map]; rfl
    have e2 : (T.ts.map (wkT ch)).map (·.wait) = wakeL ch T.ps.waits := by
      rw [List.map_map, ← wk_same hwo ch, show T.ps.waits = T.ts.map (·.wait) from rfl, List.map_map]
      rfl
    rw [← h2]
    show PS.mk _ _ ((T.ts.map (wkT ch)).map _) ((T.ts.map (wkT ch)).map _) _ _ _ _ = _
    rw [e1, e2]
    rfl
  have tt : TAt lo x T W { S.ps with waits := wakeL ch S.ps.waits } w2 { T with ts := T.ts.map (wkT ch) } := ⟨t1, ep, kt, TFootUp.wake ch _ rfl rfl, by rw [List.map_map]; rfl, rfl, rfl, g1.ul⟩
  refine ⟨by rw [wk_count hwo, h2]; rfl, kt.mono (fun g e => d35_tw g1.tw e), ⟨va, _, _, g1.turnT tt, by rw [ep]; rfl, wake_bd h3 ch, wake_wok h4 ch, h5⟩⟩
theorem PX.step {w : World} {b p x lo st : Nat} (pick : Int) (h : PX w b p x lo st) (hst : st < 8000000000000000) :
    ∃ (N : Nat) (B : Bool), Calls Try.prog 18 #[.pointer (some ⟨p, 0, none⟩), .int .i64 pick] w fun r w1 => r = .returned (.tuple #[.int .i64 (N : Nat), .bool B]) ∧ PtAt w1 b p x ∧ Kb (D35 lo w) w w1 ∧ ∀ W, Below w1.heap.size w1 W → Calls Try.prog 35 #[.pointer (some ⟨x, 0, none⟩), .int .i64 pick] W fun r w2 => r = .returned (.tuple #[.int .i64 (N : Nat), .bool B]) ∧ Kb (D35 lo W) W w2 ∧ PX w2 b p x lo (st + 1) := by
  obtain ⟨va, S, T, h1, h2, h3, h4, h5⟩ := h.ex
  have hl : S.tks.length ≤ 64 := by have := h3.len; simpa [LS.ps] using this
  have hlT : T.ts.length ≤ 64 := by have := h3.len; rw [← h2] at this; simpa [TS.ps] using this
  have hw : T.ps.waits = S.waits := by rw [h2]; rfl
  by_cases hc : pick < 0 ∨ readyL S.waits = []
  · refine ⟨0, false, (la_step_none p pick S w h1.la (by omega) hc).mono ?_⟩
    rintro r w1 ⟨rfl, b1⟩
    have g1 := h1.below b1
    refine ⟨rfl, ⟨va, g1.hb⟩, Kb.of_below b1, fun W kW => ?_⟩
    replace g1 := g1.below kW
    refine (tstep_none lo x pick T W g1.tw hlT (by rw [hw]; exact hc)).mono ?_
    rintro r w2 ⟨rfl, b2⟩
    exact ⟨rfl, Kb.of_below b2, ⟨va, S, T, g1.below b2, h2, h3, h4, by omega⟩⟩
  · have hpk : 0 ≤ pick := by
      by_cases q : pick < 0
      · exact absurd (Or.inl q) hc
      · omega
    have hr : ¬ readyL S.waits = [] := fun e => hc (Or.inr e)
    have hm : 0 < (readyL S.waits).length := List.length_pos_iff.2 hr
    have hjl : pick.toNat % (readyL S.waits).length < (readyL S.waits).length := Nat.mod_lt _ hm
    obtain ⟨i, hi⟩ : ∃ i, (readyL S.waits)[pick.toNat % (readyL S.waits).length]? = some i := ⟨_, List.getElem?_eq_getElem hjl⟩
    have hj : pick.tmod ((readyL S.waits).length : Int) = ((pick.toNat % (readyL S.waits).length : Nat) : Int) := by rw [Int.tmod_eq_emod_of_nonneg hpk, Int.natCast_emod, Int.toNat_of_nonneg hpk]
    refine ⟨i, true, (la_act p i _ pick S w h1.la h3 (by omega) hpk hj hi).mono ?_⟩
    rintro r w1 ⟨rfl, S1, l1, l2, l3, l4, l5⟩
    have k1 : LAt p S w (actP S.ps i) w1 S1 := ⟨l1, l2, l3, l4, l5⟩
    have g1 := h1.turnS k1
    refine ⟨rfl, ⟨va, g1.hb⟩, l3.mono (fun g e => d35_la h1.la h1.lop e), fun W kW => ?_⟩
    replace g1 := g1.below kW
    have hc' : T.ps.steps = S.ps.steps := by rw [h2]
    have hc2 : T.count = S.steps := hc'
    refine (tstep lo x i _ pick T W g1.tw (by rw [h2]; exact h3) g1.tok (by rw [h2]; exact h4) (by omega) hpk (by rw [hw]; exact hj) (by rw [hw]; exact hi)).mono ?_
    rintro r w2 ⟨rfl, T2, m1, m2, m3, m4, m5⟩
    rw [h2] at m2
    have k2 : TAt lo x T W (actP S.ps i) w2 T2 := ⟨m1, m2, m3, m4, m5.acts, m5.draws, m5.picks, by rw [m5.used, m5.picks]; exact g1.ul⟩
    refine ⟨rfl, m3.mono (fun g e => d35_tw g1.tw e), ⟨va, S1, T2, g1.turnT k2, by rw [m2, l2], by rw [l2]; exact h3.act i, by rw [l2]; exact actP_wok h4 i, ?_⟩⟩
    have q1 := actP_steps S.ps i
    rw [← l2] at q1
    have q2 : S1.ps.steps = S1.steps := rfl
    have q3 : S.ps.steps = S.steps := rfl
    omega
end Go.Proofs.Ytefmhghdehokcaa
