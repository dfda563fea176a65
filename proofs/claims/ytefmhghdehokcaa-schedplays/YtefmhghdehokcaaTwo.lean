/-
  Two pairs of loops side by side: what is done to one leaves the other alone.
-/
import Derived.Test.YtefmhghdehokcaaNxt
import Derived.Test.YtefmhghdehokcaaNewsL
import Derived.Test.YtefmhghdehokcaaLadX
import Derived.Test.YtefmhghdehokcaaLadGF
import Derived.Test.YtefmhghdehokcaaLadNF
import Derived.Test.YtefmhghdehokcaaArgs
import Derived.Test.YtefmhghdehokcaaBoth
namespace Go.Proofs.Ytefmhghdehokcaa
open Go.RowKit
/-- A loop, its tasks, and the twin, with the rows named. -/
structure BX (w : World) (b p x : Nat) (va vT : Value) (S : LS) : Prop where
  hb : w.heap[b]? = some (.cells #[.pointer (some ⟨p, 0, none⟩), va, .pointer (some ⟨x, 0, none⟩)] 43 (0, 0))
  hx : ∃ x0 x1 x2 x4 x5 x6 x7, w.heap[x]? = some (.cells #[x0, x1, x2, vT, x4, x5, x6, x7] 75 (0, 0))
  oa : ∃ aL, w.ownsRow (p + 1) 58 1 va S.tks.length aL
  oT : ∃ ts, w.ownsRow (p + 1) 76 1 vT S.tks.length ts
  la : LA w p S
  pb : p < b
  px : p < x
/-- Their blocks. -/
def GF (b p x : Nat) (va vT : Value) (S : LS) (k : Nat) : Prop := k = b ∨ k = x ∨ va.ownBlock = some k ∨ vT.ownBlock = some k ∨ Foot p S k
theorem BX.gf {w : World} {b p x : Nat} {va vT : Value} {S : LS} (h : BX w b p x va vT S) {k : Nat} (hk : GF b p x va vT S k) : p ≤ k ∧ k < w.heap.size ∧ ∃ c ty, w.heap[k]? = some (.cells c ty (0, 0)) ∧ ty ≠ 54 := by
  have fin : ∀ (k : Nat) c ty, p ≤ k → w.heap[k]? = some (.cells c ty (0, 0)) → ty ≠ 54 → p ≤ k ∧ k < w.heap.size ∧ ∃ c ty, w.heap[k]? = some (.cells c ty (0, 0)) ∧ ty ≠ 54 := fun k c ty h1 h2 h3 => ⟨h1, (Array.getElem?_eq_some_iff.1 h2).1, c, ty, h2, h3⟩
  rcases hk with e | e | e | e | e
  · rw [e]; exact fin _ _ _ (Nat.le_of_lt h.pb) h.hb (by decide)
  · rw [e]; obtain ⟨x0, x1, x2, x4, x5, x6, x7, hx⟩ := h.hx; exact fin _ _ _ (Nat.le_of_lt h.px) hx (by decide)
  · obtain ⟨aL, oa⟩ := h.oa
    obtain ⟨c, hc⟩ := row_block oa e
    exact fin _ _ _ (by have := (oa.lt k e).1; omega) hc (by decide)
  · obtain ⟨aL, oa⟩ := h.oT
    obtain ⟨c, hc⟩ := row_block oa e
    exact fin _ _ _ (by have := (oa.lt k e).1; omega) hc (by decide)
  · rcases e with e | e | e | ⟨i, t, hi, e | e⟩
    · rw [e]; exact fin _ _ _ (Nat.le_refl _) h.la.hp (by decide)
    · obtain ⟨c, hc⟩ := row_block h.la.tasks e
      exact fin _ _ _ (by have := (h.la.tasks.lt k e).1; omega) hc (by decide)
    · obtain ⟨c, hc⟩ := row_block h.la.waits e
      exact fin _ _ _ (by have := (h.la.waits.lt k e).1; omega) hc (by decide)
    · have h1 := (h.la.each i t hi).1
      rw [e]; exact fin _ _ _ (by have := h1.ge; omega) h1.hq (by decide)
    · have h1 := (h.la.each i t hi).1
      obtain ⟨c, hc⟩ := row_block h1.told e
      exact fin _ _ _ (by have := (h1.told.lt k e).1; omega) hc (by decide)
theorem RowAt.low {p lo : Nat} {w w' : World} {v : Value} {l : List Value} (h : RowAt p w v l) (hv : AddrGe lo v) (k : ∀ b : Nat, lo ≤ b → b < p → w'.heap[b]? = w.heap[b]?) : RowAt p w' v l := by
  obtain ⟨a, c, h1, h2, h3⟩ := h
  refine ⟨a, c, h1, fun j u hj => ?_, h3⟩
  obtain ⟨b, off, e1, e2, e3⟩ := h2 j u hj
  refine ⟨b, off, e1, e2, ?_⟩
  have hb : lo ≤ b := hv ⟨b, off, none⟩ l.length c (by rw [h1, e1])
  simp only [World.cell?] at e3 ⊢
  rw [k b hb e2]
  exact e3
/-- What is done elsewhere leaves them as they are. -/
theorem BX.keep {w w' : World} {b p x lo : Nat} {va vT : Value} {S : LS} {D : Nat → Prop} (h : BX w b p x va vT S) (hlo : LoS lo S) (k : Kb D w w') (h1 : ∀ k, D k → ¬ GF b p x va vT S k) (h2 : ∀ k, D k → ¬ (lo ≤ k ∧ k < p)) (h3 : ∀ (k : Nat), D k → ∀ c f, w.heap[k]? ≠ some (.cells c 54 f)) : BX w' b p x va vT S := by
  have keep : ∀ k0, GF b p x va vT S k0 → w'.heap[k0]? = w.heap[k0]? := fun k0 hk => k.block k0 (h.gf hk).2.1 (fun e => h1 k0 e hk)
  have hps := h.la.ps
  have row : ∀ v l, RowAt p w v l → AddrGe lo v → RowAt p w' v l := fun v l hr hv => hr.low hv (fun b hb hp => k.block b (by omega) (fun e => h2 b e ⟨hb, hp⟩))
  have ft : ∀ k0, Foot p S k0 → GF b p x va vT S k0 := fun k0 e => Or.inr (Or.inr (Or.inr (Or.inr e)))
  obtain ⟨x0, x1, x2, x4, x5, x6, x7, hx⟩ := h.hx
  obtain ⟨aL, oa⟩ := h.oa
  obtain ⟨ts, oT⟩ := h.oT
  refine { hb := (keep b (Or.inl rfl)).trans h.hb, hx := ⟨x0, x1, x2, x4, x5, x6, x7, (keep x (Or.inr (Or.inl rfl))).trans hx⟩, oa := ⟨aL, owns_same oa (fun g e => keep g (Or.inr (Or.inr (Or.inl e))))⟩, oT := ⟨ts, owns_same oT (fun g e => keep g (Or.inr (Or.inr (Or.inr (Or.inl e)))))⟩, la := ?_, pb := h.pb, px := h.px }
  refine { hp := (keep p (ft p (Or.inl rfl))).trans h.la.hp, picks := row _ _ h.la.picks hlo.1, ticks := row _ _ h.la.ticks hlo.2.1, draws := row _ _ h.la.draws hlo.2.2, tasks := owns_same h.la.tasks (fun g e => keep g (ft g (Or.inr (Or.inl e)))), waits := owns_same h.la.waits (fun g e => keep g (ft g (Or.inr (Or.inr (Or.inl e))))), each := ?_, apart := h.la.apart }
  intro i t hi
  obtain ⟨ht, hta⟩ := h.la.each i t hi
  have nb : ∀ ad, t.aa = some ad → ¬ D ad.block := fun ad e e2 => by
    obtain ⟨_, c, f, hc⟩ := hta ad e
    exact h3 _ e2 _ _ hc
  refine ⟨ht.kb k (fun e => h1 _ e (ft _ (Or.inr (Or.inr (Or.inr ⟨i, t, hi, Or.inl rfl⟩))))) (fun g hg e => h1 _ e (ft _ (Or.inr (Or.inr (Or.inr ⟨i, t, hi, Or.inr hg⟩))))) nb, fun ad e => ?_⟩
  obtain ⟨hb, c, f, hc⟩ := hta ad e
  exact ⟨Nat.lt_of_lt_of_le hb k.size, c, f, (k.block _ hb (nb ad e)).trans hc⟩
theorem BX.below {w w' : World} {b p x : Nat} {va vT : Value} {S : LS} (h : BX w b p x va vT S) (k : Below w.heap.size w w') : BX w' b p x va vT S := by
  obtain ⟨x0, x1, x2, x4, x5, x6, x7, hx⟩ := h.hx
  obtain ⟨aL, oa⟩ := h.oa
  obtain ⟨ts, oT⟩ := h.oT
  exact { hb := (k.block b (Array.getElem?_eq_some_iff.1 h.hb).1).trans h.hb, hx := ⟨x0, x1, x2, x4, x5, x6, x7, (k.block x (Array.getElem?_eq_some_iff.1 hx).1).trans hx⟩, oa := ⟨aL, owns_same oa (fun g e => k.block g (oa.lt g e).2)⟩, oT := ⟨ts, owns_same oT (fun g e => k.block g (oT.lt g e).2)⟩, la := h.la.below k, pb := h.pb, px := h.px }
/-- Two of them, apart. -/
structure Two (w : World) (b p x : Nat) (va vT : Value) (S : LS) (lo b' p' x' : Nat) (va' vT' : Value) (S' : LS) (lo' : Nat) : Prop where
  one : BX w b p x va vT S
  two : BX w b' p' x' va' vT' S'
  l1 : LoS lo S
  l2 : LoS lo' S'
  dis : ∀ k, GF b p x va vT S k → GF b' p' x' va' vT' S' k → False
  d1 : ∀ k, GF b p x va vT S k → ¬ (lo' ≤ k ∧ k < p')
  d2 : ∀ k, GF b' p' x' va' vT' S' k → ¬ (lo ≤ k ∧ k < p)
theorem Two.symm {w : World} {b p x : Nat} {va vT : Value} {S : LS} {lo b' p' x' : Nat} {va' vT' : Value} {S' : LS} {lo' : Nat} (h : Two w b p x va vT S lo b' p' x' va' vT' S' lo') : Two w b' p' x' va' vT' S' lo' b p x va vT S lo :=
  ⟨h.two, h.one, h.l2, h.l1, fun k a b => h.dis k b a, h.d2, h.d1⟩
theorem Two.below {w w' : World} {b p x : Nat} {va vT : Value} {S : LS} {lo b' p' x' : Nat} {va' vT' : Value} {S' : LS} {lo' : Nat} (h : Two w b p x va vT S lo b' p' x' va' vT' S' lo') (k : Below w.heap.size w w') : Two w' b p x va vT S lo b' p' x' va' vT' S' lo' :=
  ⟨h.one.below k, h.two.below k, h.l1, h.l2, h.dis, h.d1, h.d2⟩
/-- A change of the first one alone. -/
theorem Two.turn {w w' : World} {b p x : Nat} {va vT va1 vT1 : Value} {S S1 : LS} {lo b' p' x' : Nat} {va' vT' : Value} {S' : LS} {lo' : Nat} {D : Nat → Prop} (h : Two w b p x va vT S lo b' p' x' va' vT' S' lo') (k : Kb D w w') (hD : ∀ k, D k → GF b p x va vT S k) (h1 : BX w' b p x va1 vT1 S1) (hl : LoS lo S1) (hup : ∀ k, GF b p x va1 vT1 S1 k → GF b p x va vT S k ∨ w.heap.size ≤ k) : Two w' b p x va1 vT1 S1 lo b' p' x' va' vT' S' lo' := by
  have hps' := h.two.la.ps
  refine ⟨h1, h.two.keep h.l2 k (fun k0 e e2 => h.dis k0 (hD k0 e) e2) (fun k0 e => h.d1 k0 (hD k0 e)) (fun k0 e c f hc => ?_), hl, h.l2, fun k0 e e2 => ?_, fun k0 e => ?_, h.d2⟩
  · obtain ⟨_, _, c', ty, h4, h5⟩ := h.one.gf (hD k0 e)
    rw [hc] at h4
    simp only [Option.some.injEq, Obj.cells.injEq] at h4
    exact h5 h4.2.1.symm
  · rcases hup k0 e with e3 | e3
    · exact h.dis k0 e3 e2
    · have := (h.two.gf e2).2.1; omega
  · rcases hup k0 e with e3 | e3
    · exact h.d1 k0 e3
    · omega
theorem actP_len (P : PS) (i : Nat) : (actP P i).tasks.length = P.tasks.length := by
  unfold actP
  split
  · rfl
  · exact List.length_set
theorem nextP_len (P : PS) : (nextP P).tasks.length = P.tasks.length := by
  unfold nextP
  split
  · rfl
  · rw [actP_len]
theorem two_next {w : World} {b p x : Nat} {va vT : Value} {S : LS} {lo b' p' x' : Nat} {va' vT' : Value} {S' : LS} {lo' : Nat} (h : Two w b p x va vT S lo b' p' x' va' vT' S' lo') (hb : Bd S.ps) (hst : S.steps < 400000) :
    Calls Try.prog 13 #[.pointer (some ⟨p, 0, none⟩)] w fun r w' => r = .returned (.tuple #[.int .i64 (nextN S.ps : Nat), .bool (nextB S.ps)]) ∧ ∃ S1, S1.ps = nextP S.ps ∧ Two w' b p x va vT S1 lo b' p' x' va' vT' S' lo' ∧ Below p w w' := by
  refine (la_nxt p S w h.one.la hb (by omega)).mono ?_
  rintro r w' ⟨rfl, S1, e1, e2, e3, e4, e5⟩
  have hps := h.one.la.ps
  have hlen : S1.tks.length = S.tks.length := by
    have h1 : S1.ps.tasks.length = S.ps.tasks.length := by rw [e2, nextP_len]
    simpa [LS.ps] using h1
  obtain ⟨x0, x1, x2, x4, x5, x6, x7, hx⟩ := h.one.hx
  obtain ⟨aL, oa⟩ := h.one.oa
  obtain ⟨ts, oT⟩ := h.one.oT
  have nf : ∀ (k : Nat) c ty f, w.heap[k]? = some (.cells c ty f) → (ty = 43 ∨ ty = 75 ∨ ty = 58 ∨ ty = 76) → ¬ Foot p S k := fun k c ty f hk hty e => by
    obtain ⟨_, c', ty', h1, n1, n2, n3, n4, _⟩ := h.one.la.foot e
    rw [hk] at h1
    simp only [Option.some.injEq, Obj.cells.injEq] at h1
    have := h1.2.1
    rcases hty with q | q | q | q <;> (rw [q] at this; first | exact n1 this.symm | exact n2 this.symm | exact n3 this.symm | exact n4 this.symm)
  have B1 : BX w' b p x va vT S1 := { hb := (e3.block b (Array.getElem?_eq_some_iff.1 h.one.hb).1 (nf _ _ _ _ h.one.hb (Or.inl rfl))).trans h.one.hb, hx := ⟨x0, x1, x2, x4, x5, x6, x7, (e3.block x (Array.getElem?_eq_some_iff.1 hx).1 (nf _ _ _ _ hx (Or.inr (Or.inl rfl)))).trans hx⟩, oa := ⟨aL, by
      rw [hlen]
      exact owns_same oa (fun g e => by
        obtain ⟨c, hc⟩ := row_block oa e
        exact e3.block g (oa.lt g e).2 (nf _ _ _ _ hc (Or.inr (Or.inr (Or.inl rfl)))))⟩, oT := ⟨ts, by
      rw [hlen]
      exact owns_same oT (fun g e => by
        obtain ⟨c, hc⟩ := row_block oT e
        exact e3.block g (oT.lt g e).2 (nf _ _ _ _ hc (Or.inr (Or.inr (Or.inr rfl)))))⟩, la := e1, pb := h.one.pb, px := h.one.px }
  refine ⟨rfl, S1, e2, h.turn e3 (fun k e => Or.inr (Or.inr (Or.inr (Or.inr e)))) B1 (e5.lo lo h.l1) (fun k e => ?_), e3.below (Nat.le_of_lt hps) (fun k e => (h.one.la.foot e).1)⟩
  rcases e with e | e | e | e | e
  · exact Or.inl (Or.inl e)
  · exact Or.inl (Or.inr (Or.inl e))
  · exact Or.inl (Or.inr (Or.inr (Or.inl e)))
  · exact Or.inl (Or.inr (Or.inr (Or.inr (Or.inl e))))
  · rcases e4 k e with e6 | e6
    · exact Or.inl (Or.inr (Or.inr (Or.inr (Or.inr e6))))
    · exact Or.inr e6
/-- A further task. -/
def addP (P : PS) (la : List (Int × Int)) : PS := if P.tasks.length < 64 then { P with tasks := P.tasks ++ [(la, [])], waits := P.waits ++ [0] } else P
theorem Bd.add {P : PS} (h : Bd P) (la : List (Int × Int)) (hla : la.length ≤ 10000000000000) : Bd (addP P la) := by
  unfold addP
  split
  · rename_i hl
    have hacts : ∀ y ∈ P.tasks ++ [(la, [])], y.1.length + y.2.length ≤ 10000000000000 := fun y hy => by
      rcases List.mem_append.1 hy with e | e
      · exact h.acts y e
      · rw [List.mem_singleton] at e
        subst e
        exact hla
    exact { len := by show (P.tasks ++ [(la, [])]).length ≤ 64; rw [List.length_append, List.length_singleton]; omega, wlen := by show (P.waits ++ [0]).length = (P.tasks ++ [(la, [])]).length; rw [List.length_append, List.length_append, h.wlen]; rfl, acts := hacts, fu := h.fu, draws := h.draws, tlen := h.tlen, tcs := h.tcs, now0 := h.now0, now1 := h.now1, pks := h.pks }
  · exact h
theorem two_add {w : World} {b p x : Nat} {va vT : Value} {S : LS} {lo b' p' x' : Nat} {va' vT' : Value} {S' : LS} {lo' : Nat} (v : Value) (la : List (Int × Int)) (h : Two w b p x va vT S lo b' p' x' va' vT' S' lo') (hb : Bd S.ps) (hl : la.length * 16 ≤ 140737488355328) (hs : Src w v la) :
    Calls Try.prog 10 #[.pointer (some ⟨b, 0, none⟩), v] w fun r w' => r = .returned (.bool true) ∧ ∃ va1 vT1 S1, S1.ps = addP S.ps la ∧ S1.steps = S.steps ∧ Two w' b p x va1 vT1 S1 lo b' p' x' va' vT' S' lo' ∧ Below p w w' := by
  obtain ⟨x0, x1, x2, x4, x5, x6, x7, hx⟩ := h.one.hx
  obtain ⟨aL, oa⟩ := h.one.oa
  obtain ⟨ts, oT⟩ := h.one.oT
  have hps := h.one.la.ps
  have hlen : S.ps.tasks.length = S.tks.length := by simp [LS.ps]
  by_cases hn : S.tks.length < 64
  · have hadd : addP S.ps la = { S.ps with tasks := S.ps.tasks ++ [(la, [])], waits := S.ps.waits ++ [0] } := by unfold addP; rw [if_pos (by omega)]
    have fin : ∀ w' : World, (∃ t vs' vw' va' vT' y vsrc, t.acts = la ∧ t.told = [] ∧ LA w' p { S with vs := vs', vw := vw', tks := S.tks ++ [t], waits := S.waits ++ [0] } ∧ w'.heap[b]? = some (.cells #[.pointer (some ⟨p, 0, none⟩), va', .pointer (some ⟨x, 0, none⟩)] 43 (0, 0)) ∧ w'.heap[x]? = some (.cells #[x0, x1, x2, vT', x4, x5, x6, x7] 75 (0, 0)) ∧ w'.ownsRow (p + 1) 58 1 va' (S.tks.length + 1) (aL ++ [.pointer (some ⟨t.q, 0, none⟩)]) ∧ w'.ownsRow (p + 1) 76 1 vT' (S.tks.length + 1) (ts ++ [.pointer (some ⟨y, 0, none⟩)]) ∧ w'.heap[y]? = some (.cells #[vsrc, .int .i64 0, .int .i64 0, .slice none 0 0] 78 (0, 0)) ∧ Kb (AddFoot b p x va vT S) w w' ∧ w.heap.size ≤ y ∧ Ups w S va vT t vs' vw' va' vT') → ∃ va1 vT1 S1, S1.ps = addP S.ps la ∧ S1.steps = S.steps ∧ Two w' b p x va1 vT1 S1 lo b' p' x' va' vT' S' lo' ∧ Below p w w' := by
      rintro w' ⟨t, vs', vw', va1, vT1, y, vsrc, e1, e2, e3, e4, e5, e6, e7, _, e9, _, uv, u0, u1, u2, u3, u4⟩
      have hl2 : ({ S with vs := vs', vw := vw', tks := S.tks ++ [t], waits := S.waits ++ [0] } : LS).tks.length = S.tks.length + 1 := by simp
      have B1 : BX w' b p x va1 vT1 { S with vs := vs', vw := vw', tks := S.tks ++ [t], waits := S.waits ++ [0] } := { hb := e4, hx := ⟨x0, x1, x2, x4, x5, x6, x7, e5⟩, oa := ⟨_, by rw [hl2]; exact e6⟩, oT := ⟨_, by rw [hl2]; exact e7⟩, la := e3, pb := h.one.pb, px := h.one.px }
      refine ⟨va1, vT1, { S with vs := vs', vw := vw', tks := S.tks ++ [t], waits := S.waits ++ [0] }, ?_, rfl, h.turn e9 (fun k e => ?_) B1 h.l1 (fun k e => ?_), e9.below (Nat.le_of_lt hps) (fun k e => add_ge h.one.la oa oT h.one.pb h.one.px e)⟩
      · rw [hadd]
        simp only [LS.ps, List.map_append, List.map_cons, List.map_nil, e1, e2]
      · rcases e with e | e | e | e | e | e | e
        · exact Or.inl e
        · exact Or.inr (Or.inl e)
        · exact Or.inr (Or.inr (Or.inl e))
        · exact Or.inr (Or.inr (Or.inr (Or.inl e)))
        · exact Or.inr (Or.inr (Or.inr (Or.inr (Or.inl e))))
        · exact Or.inr (Or.inr (Or.inr (Or.inr (Or.inr (Or.inl e)))))
        · exact Or.inr (Or.inr (Or.inr (Or.inr (Or.inr (Or.inr (Or.inl e))))))
      · rcases e with e | e | e | e | e
        · exact Or.inl (Or.inl e)
        · exact Or.inl (Or.inr (Or.inl e))
        · exact (u3 k e).imp (fun e => Or.inr (Or.inr (Or.inl e))) id
        · exact (u4 k e).imp (fun e => Or.inr (Or.inr (Or.inr (Or.inl e)))) id
        · rcases e with e | e | e | ⟨i, u, hi, e⟩
          · exact Or.inl (Or.inr (Or.inr (Or.inr (Or.inr (Or.inl e)))))
          · exact (u1 k e).imp (fun e => Or.inr (Or.inr (Or.inr (Or.inr (Or.inr (Or.inl e)))))) id
          · exact (u2 k e).imp (fun e => Or.inr (Or.inr (Or.inr (Or.inr (Or.inr (Or.inr (Or.inl e))))))) id
          · have hi' : (S.tks ++ [t])[i]? = some u := hi
            by_cases hil : i < S.tks.length
            · rw [List.getElem?_append_left hil] at hi'
              exact Or.inl (Or.inr (Or.inr (Or.inr (Or.inr (Or.inr (Or.inr (Or.inr ⟨i, u, hi', e⟩)))))))
            · have hl3 := (List.getElem?_eq_some_iff.1 hi').1
              rw [List.length_append, List.length_singleton] at hl3
              obtain rfl : i = S.tks.length := by omega
              rw [List.getElem?_concat_length] at hi'
              cases hi'
              rcases e with e | e
              · exact Or.inr (by omega)
              · rw [uv] at e; cases e
    rcases hs with ⟨rfl, rfl⟩ | ⟨ad, c, rfl, hc⟩
    · refine (law_addNF b p x va vT x0 x1 x2 x4 x5 x6 x7 aL ts S w h.one.hb hx oa oT h.one.la hn h.one.pb h.one.px).mono ?_
      rintro r w' ⟨rfl, t, vs', vw', va', vT', y, e⟩
      exact ⟨rfl, fin w' ⟨t, vs', vw', va', vT', y, _, e⟩⟩
    · refine (law_addGF b p x ad la.length c va vT x0 x1 x2 x4 x5 x6 x7 la aL ts S w h.one.hb hx oa oT h.one.la hn rfl hl hc h.one.pb h.one.px).mono ?_
      rintro r w' ⟨rfl, t, vs', vw', va', vT', y, e⟩
      exact ⟨rfl, fin w' ⟨t, vs', vw', va', vT', y, _, e⟩⟩
  · have h64 : S.tks.length = 64 := by have := hb.len; omega
    have hadd : addP S.ps la = S.ps := by unfold addP; rw [if_neg (by omega)]
    have hvs := h.one.la.tasks
    rw [h64] at oT hvs
    obtain ⟨aT, cT, rfl⟩ := row_form oT
    obtain ⟨a8, c8, e8⟩ := row_form hvs
    have hp := h.one.la.hp
    rw [e8] at hp
    have fin : ∀ w' : World, Below w.heap.size w w' → ∃ va1 vT1 S1, S1.ps = addP S.ps la ∧ S1.steps = S.steps ∧ Two w' b p x va1 vT1 S1 lo b' p' x' va' vT' S' lo' ∧ Below p w w' := fun w' k => ⟨va, _, S, hadd.symm, rfl, h.below k, k.mono (Nat.le_of_lt hps)⟩
    rcases hs with ⟨rfl, rfl⟩ | ⟨ad, c, rfl, hc⟩
    · refine (law_addXN b p x va a8 aT c8 cT _ _ _ _ _ _ _ x0 x1 x2 x4 x5 x6 x7 w h.one.hb hx hp).mono ?_
      rintro r w' ⟨rfl, k⟩
      exact ⟨rfl, fin w' k⟩
    · refine (law_addXG b p x ad la.length c va a8 aT c8 cT _ _ _ _ _ _ _ x0 x1 x2 x4 x5 x6 x7 la w h.one.hb hx hp rfl hl hc).mono ?_
      rintro r w' ⟨rfl, k⟩
      exact ⟨rfl, fin w' k⟩
end Go.Proofs.Ytefmhghdehokcaa
