/-
  A further task of both.
-/
import Derived.Test.YtefmhghdehokcaaPlay
import Derived.Test.YtefmhghdehokcaaTwo
namespace Go.Proofs.Ytefmhghdehokcaa
open Go.RowKit
theorem owns_base {W : World} {B B' n k : Nat} {e : TypeId} {v : Value} {xs : List Value} (h : W.ownsRow B e k v n xs) (hB : ∀ g, v.ownBlock = some g → B' ≤ g) : W.ownsRow B' e k v n xs := by
  refine ⟨h.1, ?_⟩
  rcases h.2 with ⟨ev, h0⟩ | ⟨g, cap, cur, ev, h1, h2⟩
  · exact Or.inl ⟨ev, h0⟩
  · exact Or.inr ⟨g, cap, cur, ev, hB g (by rw [ev]; rfl), h2⟩
theorem PX.add {w : World} {b p x lo st : Nat} (v : Value) (la : List (Int × Int)) (h : PX w b p x lo st) (hl : la.length * 16 ≤ 140737488355328) (hs : Src w v la) (hlow : ActsLow lo w v la) :
    Calls Try.prog 10 #[.pointer (some ⟨b, 0, none⟩), v] w fun r w' => r = .returned (.bool true) ∧ Kb (D35 lo w) w w' ∧ PX w' b p x lo st := by
  obtain ⟨va, S, T, h1, h2, h3, h4, h5⟩ := h.ex
  have hps := h1.la.ps
  have hlen : S.ps.tasks.length = S.tks.length := by simp [LS.ps]
  have hlT : T.ts.length = S.tks.length := by
    have : T.ps.tasks.length = S.ps.tasks.length := by rw [h2]
    simpa [TS.ps, LS.ps] using this
  have oT : w.ownsRow (p + 1) 76 1 T.vT S.tks.length (T.ts.map ttV) := by
    rw [← hlT]
    refine owns_base h1.tw.row (fun g e => ?_)
    have q1 := h1.tge g (Or.inr (Or.inl e))
    have q2 : g ≠ p := fun e2 => by
      obtain ⟨c, hc⟩ := row_block h1.tw.row e
      rw [e2, h1.la.hp] at hc
      simp at hc
    omega
  have hx := h1.tw.hx
  by_cases hn : S.tks.length < 64
  · have hadd : addP S.ps la = { S.ps with tasks := S.ps.tasks ++ [(la, [])], waits := S.ps.waits ++ [0] } := by unfold addP; rw [if_pos (by omega)]
    have fin : ∀ w' : World, (∃ t vs' vw' va' vT' y vsrc, t.acts = la ∧ t.told = [] ∧ LA w' p { S with vs := vs', vw := vw', tks := S.tks ++ [t], waits := S.waits ++ [0] } ∧ w'.heap[b]? = some (.cells #[.pointer (some ⟨p, 0, none⟩), va', .pointer (some ⟨x, 0, none⟩)] 43 (0, 0)) ∧ w'.heap[x]? = some (.cells #[T.vP, T.vK, T.vD, vT', .int .u64 T.clock, .int .i64 (T.count : Nat), .int .i64 (T.used : Nat), .int .i64 (T.drawn : Nat)] 75 (0, 0)) ∧ w'.ownsRow (p + 1) 58 1 va' (S.tks.length + 1) (S.tks.map qV ++ [.pointer (some ⟨t.q, 0, none⟩)]) ∧ w'.ownsRow (p + 1) 76 1 vT' (S.tks.length + 1) (T.ts.map ttV ++ [.pointer (some ⟨y, 0, none⟩)]) ∧ w'.heap[y]? = some (.cells #[vsrc, .int .i64 0, .int .i64 0, .slice none 0 0] 78 (0, 0)) ∧ Kb (AddFoot b p x va T.vT S) w w' ∧ w.heap.size ≤ y ∧ Ups w S va T.vT t vs' vw' va' vT' ∧ vsrc = v) → Kb (D35 lo w) w w' ∧ PX w' b p x lo st := by
      rintro w' ⟨t, vs', vw', va1, vT1, y, vsrc, e1, e2, e3, e4, e5, e6, e7, e8, e9, ey, ⟨uv, u0, u1, u2, u3, u4⟩, rfl⟩
      have age : ∀ k, AddFoot b p x va T.vT S k → lo ≤ k := fun k e => by have := add_ge h1.la h1.oa oT h1.pb h1.px e; have := h1.lop; omega
      have aged : ∀ k, AddFoot b p x va T.vT S k → D35 lo w k := fun k e => by
        have hk := age k e
        rcases e with e | e | e | e | e | e | e
        · rw [e] at hk ⊢; exact d35_of hk h1.hb (by decide)
        · rw [e] at hk ⊢; exact d35_of hk hx (by decide)
        · obtain ⟨c, hc⟩ := row_block h1.oa e; exact d35_of hk hc (by decide)
        · obtain ⟨c, hc⟩ := row_block oT e; exact d35_of hk hc (by decide)
        · rw [e] at hk ⊢; exact d35_of hk h1.la.hp (by decide)
        · obtain ⟨c, hc⟩ := row_block h1.la.tasks e; exact d35_of hk hc (by decide)
        · obtain ⟨c, hc⟩ := row_block h1.la.waits e; exact d35_of hk hc (by decide)
      have low : ∀ g : Nat, g < lo → w'.heap[g]? = w.heap[g]? := fun g hg => e9.block g (by have := h1.lop; omega) (fun e => by have := age g e; omega)
      have row : ∀ v l, RowAt lo w v l → RowAt lo w' v l := fun v l hr => by
        obtain ⟨a, c, q1, q2, q3⟩ := hr
        exact ⟨a, c, q1, q2.below low, q3⟩
      have nA : ∀ (k : Nat) c ty f, w.heap[k]? = some (.cells c ty f) → ty = 78 ∨ ty = 45 → ¬ AddFoot b p x va T.vT S k := fun k c ty f hk hty e => by
        have fin : ∀ c' ty' f', w.heap[k]? = some (.cells c' ty' f') → ty' ≠ 78 → ty' ≠ 45 → False := fun c' ty' f' hk' n1 n2 => by
          rw [hk] at hk'
          simp only [Option.some.injEq, Obj.cells.injEq] at hk'
          rcases hty with q | q <;> (rw [q] at hk'; first | exact n1 hk'.2.1.symm | exact n2 hk'.2.1.symm)
        rcases e with e | e | e | e | e | e | e
        · rw [e] at hk fin; exact fin _ _ _ h1.hb (by decide) (by decide)
        · rw [e] at hk fin; exact fin _ _ _ hx (by decide) (by decide)
        · obtain ⟨c, hc⟩ := row_block h1.oa e; exact fin _ _ _ hc (by decide) (by decide)
        · obtain ⟨c, hc⟩ := row_block oT e; exact fin _ _ _ hc (by decide) (by decide)
        · rw [e] at hk fin; exact fin _ _ _ h1.la.hp (by decide) (by decide)
        · obtain ⟨c, hc⟩ := row_block h1.la.tasks e; exact fin _ _ _ hc (by decide) (by decide)
        · obtain ⟨c, hc⟩ := row_block h1.la.waits e; exact fin _ _ _ hc (by decide) (by decide)
      obtain ⟨u, hu⟩ : ∃ u : TT, { y := y, vA := vsrc, acts := la, pos := 0, wait := 0, vt := .slice none 0 0, told := [] } = u := ⟨_, rfl⟩
      have old : ∀ (i : Nat) (t0 : TT), T.ts[i]? = some t0 → TTAt lo w' t0 := fun i t0 hi => by
        have ht0 := h1.tw.each i t0 hi
        exact ht0.kb e9 (by have := h1.lop; omega) age (nA _ _ _ _ ht0.hy (Or.inl rfl)) (fun g hg => by
          obtain ⟨c, hc⟩ := row_block ht0.told hg
          exact nA _ _ _ _ hc (Or.inr rfl))
      have new : TTAt lo w' u := by
        rw [← hu]
        exact { hy := e8, ge := by have := h1.lop; show lo ≤ y; omega, acts := hlow.kb low, told := World.ownsRow_nil _ _ _ _, pos := Nat.zero_le _ }
      have oldlt : ∀ (i : Nat) (t0 : TT), T.ts[i]? = some t0 → t0.y < w.heap.size := fun i t0 hi => (Array.getElem?_eq_some_iff.1 (h1.tw.each i t0 hi).hy).1
      have at' : ∀ (i : Nat) (t0 : TT), (T.ts ++ [u])[i]? = some t0 → T.ts[i]? = some t0 ∨ (i = T.ts.length ∧ t0 = u) := fun i t0 hi => by
        by_cases hil : i < T.ts.length
        · rw [List.getElem?_append_left hil] at hi; exact Or.inl hi
        · have hl3 := (List.getElem?_eq_some_iff.1 hi).1
          rw [List.length_append, List.length_singleton] at hl3
          obtain rfl : i = T.ts.length := by omega
          rw [List.getElem?_concat_length] at hi
          cases hi
          exact Or.inr ⟨rfl, rfl⟩
      have uy : u.y = y := by rw [← hu]
      have uvt : u.vt = .slice none 0 0 := by rw [← hu]
      have tw' : TW w' lo x { T with vT := vT1, ts := T.ts ++ [u] } := by
        refine { hx := e5, lox := h1.tw.lox, pk := row _ _ h1.tw.pk, tk := row _ _ h1.tw.tk, dr := row _ _ h1.tw.dr, row := ?_, each := fun i t0 hi => ?_, apart := fun i j t0 t1 hij hi hj => ?_ }
        · show w'.ownsRow lo 76 1 vT1 (T.ts ++ [u]).length ((T.ts ++ [u]).map ttV)
          rw [List.length_append, List.length_singleton, hlT, List.map_append]
          have e7' : w'.ownsRow (p + 1) 76 1 vT1 (S.tks.length + 1) (T.ts.map ttV ++ [u].map ttV) := by
            rw [List.map_singleton]
            show w'.ownsRow (p + 1) 76 1 vT1 (S.tks.length + 1) (T.ts.map ttV ++ [.pointer (some ⟨u.y, 0, none⟩)])
            rw [uy]
            exact e7
          refine owns_base e7' (fun g e => ?_)
          have := (e7'.lt g e).1
          have := h1.lop
          omega
        · rcases at' i t0 hi with e | ⟨_, e⟩
          · exact old i t0 e
          · rw [e]; exact new
        · rcases at' i t0 hi with e | ⟨ei, e⟩
          · rcases at' j t1 hj with f | ⟨_, f⟩
            · exact h1.tw.apart i j t0 t1 hij e f
            · rw [f, uy, uvt]
              exact ⟨by have := oldlt i t0 e; omega, fun g _ q => by cases q⟩
          · rcases at' j t1 hj with f | ⟨ej, f⟩
            · rw [e, uy, uvt]
              exact ⟨by have := oldlt j t1 f; omega, fun g q _ => by cases q⟩
            · omega
      have tup : ∀ k, TFoot x { T with vT := vT1, ts := T.ts ++ [u] } k → TFoot x T k ∨ w.heap.size ≤ k := fun k e => by
        rcases e with e | e | ⟨i, t0, hi, e⟩
        · exact Or.inl (Or.inl e)
        · exact (u4 k e).imp (fun e => Or.inr (Or.inl e)) id
        · rcases at' i t0 hi with f | ⟨_, f⟩
          · exact Or.inl (Or.inr (Or.inr ⟨i, t0, f, e⟩))
          · rw [f, uy, uvt] at e
            rcases e with e | e
            · exact Or.inr (by omega)
            · cases e
      have sup : ∀ k, Foot p { S with vs := vs', vw := vw', tks := S.tks ++ [t], waits := S.waits ++ [0] } k → Foot p S k ∨ w.heap.size ≤ k := fun k e => by
        rcases e with e | e | e | ⟨i, t0, hi, e⟩
        · exact Or.inl (Or.inl e)
        · exact (u1 k e).imp (fun e => Or.inr (Or.inl e)) id
        · exact (u2 k e).imp (fun e => Or.inr (Or.inr (Or.inl e))) id
        · have hi' : (S.tks ++ [t])[i]? = some t0 := hi
          by_cases hil : i < S.tks.length
          · rw [List.getElem?_append_left hil] at hi'
            exact Or.inl (Or.inr (Or.inr (Or.inr ⟨i, t0, hi', e⟩)))
          · have hl3 := (List.getElem?_eq_some_iff.1 hi').1
            rw [List.length_append, List.length_singleton] at hl3
            obtain rfl : i = S.tks.length := by omega
            rw [List.getElem?_concat_length] at hi'
            cases hi'
            rcases e with e | e
            · exact Or.inr (by omega)
            · rw [uv] at e; cases e
      have eS : ({ S with vs := vs', vw := vw', tks := S.tks ++ [t], waits := S.waits ++ [0] } : LS).ps = addP S.ps la := by
        rw [hadd]
        simp only [LS.ps, List.map_append, List.map_cons, List.map_nil, e1, e2]
      have eT : ({ T with vT := vT1, ts := T.ts ++ [u] } : TS).ps = addP S.ps la := by
        rw [hadd, ← h2, ← hu]
        simp only [TS.ps, List.map_append, List.map_cons, List.map_nil, List.drop_zero]
      refine ⟨e9.mono aged, ⟨va1, _, _, { hb := e4, oa := ?_, la := e3, tw := tw', tok := ⟨fun t0 ht0 => ?_, h1.tok.dl⟩, pl := h1.pl, ul := h1.ul, pb := h1.pb, px := h1.px, lop := h1.lop, tge := fun k e => ?_, apart := fun k f1 f2 => ?_ }, eT.trans eS.symm, by rw [eS]; exact h3.add la (by omega), ?_, h5⟩⟩
      · show w'.ownsRow (p + 1) 58 1 va1 (S.tks ++ [t]).length ((S.tks ++ [t]).map qV)
        rw [List.length_append, List.length_singleton, List.map_append]
        exact e6
      · rcases List.mem_append.1 ht0 with e | e
        · exact h1.tok.al t0 e
        · rw [List.mem_singleton] at e
          rw [e, ← hu]
          show la.length ≤ _
          omega
      · rcases tup k e with e | e
        · exact h1.tge k e
        · omega
      · obtain ⟨_, c', ty', g1, n1, n2, n3, n4, n5⟩ := e3.foot f1
        have no : ∀ c ty f, w'.heap[k]? = some (.cells c ty f) → ty = 75 ∨ ty = 76 ∨ ty = 78 → False := fun c ty f hk hty => by
          rw [g1] at hk
          simp only [Option.some.injEq, Obj.cells.injEq] at hk
          have := hk.2.1
          rcases hty with q | q | q <;> (rw [q] at this; first | exact n2 this | exact n4 this | exact n5 this)
        rcases f2 with e | e | ⟨i, t0, hi, e⟩
        · rw [e] at no; exact no _ _ _ e5 (Or.inl rfl)
        · obtain ⟨c, hc⟩ := row_block e7 e
          exact no _ _ _ hc (Or.inr (Or.inl rfl))
        · rcases at' i t0 hi with f | ⟨_, f⟩
          · rcases e with e | e
            · have := (old i t0 f).hy
              rw [← e] at this
              exact no _ _ _ this (Or.inr (Or.inr rfl))
            · have hk := ((h1.tw.each i t0 f).told.lt k e).2
              rcases sup k f1 with q | q
              · exact h1.apart k q (Or.inr (Or.inr ⟨i, t0, f, Or.inr e⟩))
              · omega
          · rw [f, uy, uvt] at e
            rcases e with e | e
            · rw [e] at no; exact no _ _ _ e8 (Or.inr (Or.inr rfl))
            · cases e
      · rw [eS, hadd]
        intro z hz
        rcases List.mem_append.1 hz with e | e
        · exact h4 z e
        · rw [List.mem_singleton] at e; right; omega
    rcases hs with ⟨rfl, rfl⟩ | ⟨ad, c, rfl, hc⟩
    · refine (law_addNF b p x va T.vT _ _ _ _ _ _ _ (S.tks.map qV) (T.ts.map ttV) S w h1.hb hx h1.oa oT h1.la hn h1.pb h1.px).mono ?_
      rintro r w' ⟨rfl, t, vs', vw', va', vT', y, q1, q2, q3, q4, q5, q6, q7, q8, q9, q10, q11⟩
      exact ⟨rfl, fin w' ⟨t, vs', vw', va', vT', y, _, q1, q2, q3, q4, q5, q6, q7, q8, q9, q10, q11, rfl⟩⟩
    · refine (law_addGF b p x ad la.length c va T.vT _ _ _ _ _ _ _ la (S.tks.map qV) (T.ts.map ttV) S w h1.hb hx h1.oa oT h1.la hn rfl hl hc h1.pb h1.px).mono ?_
      rintro r w' ⟨rfl, t, vs', vw', va', vT', y, q1, q2, q3, q4, q5, q6, q7, q8, q9, q10, q11⟩
      exact ⟨rfl, fin w' ⟨t, vs', vw', va', vT', y, _, q1, q2, q3, q4, q5, q6, q7, q8, q9, q10, q11, rfl⟩⟩
  · have h64 : S.tks.length = 64 := by have := h3.len; omega
    have hvs := h1.la.tasks
    rw [h64] at oT hvs
    obtain ⟨aT, cT, eT⟩ := row_form oT
    obtain ⟨a8, c8, e8⟩ := row_form hvs
    have hp := h1.la.hp
    rw [e8] at hp
    rw [eT] at hx
    rcases hs with ⟨rfl, rfl⟩ | ⟨ad, c, rfl, hc⟩
    · refine (law_addXN b p x va a8 aT c8 cT _ _ _ _ _ _ _ _ _ _ _ _ _ _ w h1.hb hx hp).mono ?_
      rintro r w' ⟨rfl, k⟩
      exact ⟨rfl, Kb.of_below k, h.below k⟩
    · refine (law_addXG b p x ad la.length c va a8 aT c8 cT _ _ _ _ _ _ _ _ _ _ _ _ _ _ la w h1.hb hx hp rfl hl hc).mono ?_
      rintro r w' ⟨rfl, k⟩
      exact ⟨rfl, Kb.of_below k, h.below k⟩
end Go.Proofs.Ytefmhghdehokcaa
