/-
  Two loops that stand the same.
-/
import Derived.Test.YtefmhghdehokcaaTwo
import Derived.Test.YtefmhghdehokcaaRuns
namespace Go.Proofs.Ytefmhghdehokcaa
open Go.RowKit
theorem va_grow {w w' : World} {a : Option Addr} {vs : List Value} (h : VA w.heap.size w a vs) (k : Below w.heap.size w w') : VA w'.heap.size w' a vs := by
  intro j v hj
  obtain ⟨b, off, h1, h2, h3⟩ := (h.below (fun b hb => k.block b hb)) j v hj
  exact ⟨b, off, h1, by have := k.size; omega, h3⟩
/-- What a loop is when it is new. -/
def P0 (picks ticks draws : List Int) : PS where
  picks := picks
  ticks := ticks
  tasks := []
  waits := []
  steps := 0
  now := 0
  draws := draws
  fu := 0
theorem P0_bd {picks ticks draws : List Int} (h1 : ∀ x ∈ picks, 0 ≤ x) (h2 : ∀ x ∈ ticks, 0 ≤ x ∧ x < 2147483648) (h3 : draws.length ≤ 65536) : Bd (P0 picks ticks draws) where
  len := by show ([] : List (List (Int × Int) × List Int)).length ≤ 64; decide
  wlen := rfl
  acts := fun x hx => by simp [P0] at hx
  fu := Nat.le_refl _
  draws := h3
  tcs := h2
  now0 := Int.le_refl _
  now1 := by show (0 : Int) ≤ _; simp [P0]
  pks := h1
theorem start_bx (ap ak ad : Option Addr) (np nk nd cp ck cd : Nat) (picks ticks draws : List Int) (w : World) (hp : Arg w ap np cp (picks.map iV)) (hk : Arg w ak nk ck (ticks.map iV)) (hd : Arg w ad nd cd (draws.map nV)) (hc : chkT picks ticks nd = 0) :
    Calls Try.prog 9 #[.agg #[.slice ap np cp, .slice ak nk ck, .slice ad nd cd]] w fun r w' => ∃ b p x S, r = .returned (.tuple #[.pointer (some ⟨b, 0, none⟩), .bool true]) ∧ BX w' b p x (.slice none 0 0) (.slice none 0 0) S ∧ S.ps = P0 picks ticks draws ∧ LoS w.heap.size S ∧ (∀ k, GF b p x (.slice none 0 0) (.slice none 0 0) S k → p ≤ k ∧ k < w'.heap.size) ∧ w.heap.size ≤ p ∧ Below w.heap.size w w' := by
  refine (start_okL ap ak ad np nk nd cp ck cd picks ticks draws w hp hk hd hc).mono ?_
  rintro r w' ⟨b, p, x, vp, vk, vd, rfl, h1, h2, h3, h4, h5, h6, h7, h8⟩
  have B : BX w' b p x (.slice none 0 0) (.slice none 0 0) (S0 vp picks vk ticks vd draws) := { hb := h1, hx := ⟨_, _, _, _, _, _, _, h2⟩, oa := ⟨[], World.ownsRow_nil _ _ _ _⟩, oT := ⟨[], World.ownsRow_nil _ _ _ _⟩, la := h3, pb := h6, px := h5 }
  exact ⟨b, p, x, _, rfl, B, rfl, h8, fun k e => ⟨(B.gf e).1, (B.gf e).2.1⟩, h4, h7⟩
/-- Two loops that stand the same. -/
def TwA (w : World) (b p x b' p' x' st : Nat) : Prop := ∃ va vT S lo va' vT' S' lo', Two w b p x va vT S lo b' p' x' va' vT' S' lo' ∧ S'.ps = S.ps ∧ Bd S.ps ∧ S.steps ≤ st
theorem TwA.below {w w' : World} {b p x b' p' x' st : Nat} (h : TwA w b p x b' p' x' st) (k : Below w.heap.size w w') : TwA w' b p x b' p' x' st := by
  obtain ⟨va, vT, S, lo, va', vT', S', lo', h1, h2⟩ := h
  exact ⟨va, vT, S, lo, va', vT', S', lo', h1.below k, h2⟩
theorem TwA.cells {w : World} {b p x b' p' x' st : Nat} (h : TwA w b p x b' p' x' st) : At43 w b p ∧ At43 w b' p' := by
  obtain ⟨va, vT, S, lo, va', vT', S', lo', h1, _⟩ := h
  exact ⟨⟨_, _, _, h1.one.hb⟩, ⟨_, _, _, h1.two.hb⟩⟩
theorem tw_add {w : World} {b p x b' p' x' st : Nat} (v : Value) (la : List (Int × Int)) (h : TwA w b p x b' p' x' st) (hl : la.length * 16 ≤ 140737488355328) (hs : Src w v la) :
    Calls Try.prog 10 #[.pointer (some ⟨b, 0, none⟩), v] w fun r w1 => r = .returned (.bool true) ∧ Below p w w1 ∧ (Src w1 v la → Calls Try.prog 10 #[.pointer (some ⟨b', 0, none⟩), v] w1 fun r w2 => r = .returned (.bool true) ∧ Below p' w1 w2 ∧ TwA w2 b p x b' p' x' st) := by
  obtain ⟨va, vT, S, lo, va', vT', S', lo', h1, h2, h3, h4⟩ := h
  refine (two_add v la h1 h3 hl hs).mono ?_
  rintro r w1 ⟨rfl, va1, vT1, S1, e1, e2, e3, e4⟩
  refine ⟨rfl, e4, fun hs1 => ?_⟩
  refine (two_add v la e3.symm (by rw [h2]; exact h3) hl hs1).mono ?_
  rintro r w2 ⟨rfl, va2, vT2, S2, f1, f2, f3, f4⟩
  exact ⟨rfl, f4, va1, vT1, S1, lo, va2, vT2, S2, lo', f3.symm, by rw [f1, e1, h2], by rw [e1]; exact h3.add la (by omega), by omega⟩
theorem tw_next {w : World} {b p x b' p' x' st : Nat} (h : TwA w b p x b' p' x' st) (hst : st < 300000) :
    ∃ (N : Nat) (B : Bool), Calls Try.prog 13 #[.pointer (some ⟨p, 0, none⟩)] w fun r w1 => r = .returned (.tuple #[.int .i64 (N : Nat), .bool B]) ∧ Below p w w1 ∧ At43 w1 b' p' ∧ Calls Try.prog 13 #[.pointer (some ⟨p', 0, none⟩)] w1 fun r w2 => r = .returned (.tuple #[.int .i64 (N : Nat), .bool B]) ∧ Below p' w1 w2 ∧ TwA w2 b p x b' p' x' (st + 1) := by
  obtain ⟨va, vT, S, lo, va', vT', S', lo', h1, h2, h3, h4⟩ := h
  refine ⟨nextN S.ps, nextB S.ps, (two_next h1 h3 (by omega)).mono ?_⟩
  rintro r w1 ⟨rfl, S1, e1, e2, e3⟩
  have hs' : S'.steps = S.steps := by
    have : S'.ps.steps = S.ps.steps := by rw [h2]
    exact this
  refine ⟨rfl, e3, ⟨_, _, _, e2.two.hb⟩, ?_⟩
  have := two_next e2.symm (by rw [h2]; exact h3) (by omega)
  rw [h2] at this
  refine this.mono ?_
  rintro r w2 ⟨rfl, S2, f1, f2, f3⟩
  refine ⟨rfl, f3, va, vT, S1, lo, va', vT', S2, lo', f2.symm, by rw [f1, e1], by rw [e1]; exact h3.next, ?_⟩
  have q1 := nextP_steps S.ps
  rw [← e1] at q1
  have q2 : S1.ps.steps = S1.steps := rfl
  have q3 : S.ps.steps = S.steps := rfl
  omega
theorem tw_looks {w : World} {b p x b' p' x' st : Nat} (h : TwA w b p x b' p' x' st) :
    ∃ (now : Int) (st' : Int) (ws : List Int), ws.length ≤ 64 ∧ (∀ W, Below w.heap.size w W → Calls Try.prog 14 #[.pointer (some ⟨p, 0, none⟩)] W (fun r w' => r = .returned (.int .u64 now) ∧ w' = W) ∧ Calls Try.prog 14 #[.pointer (some ⟨p', 0, none⟩)] W (fun r w' => r = .returned (.int .u64 now) ∧ w' = W) ∧
      Calls Try.prog 17 #[.pointer (some ⟨p, 0, none⟩)] W (fun r w' => r = .returned (.int .i64 st') ∧ w' = W) ∧ Calls Try.prog 17 #[.pointer (some ⟨p', 0, none⟩)] W (fun r w' => r = .returned (.int .i64 st') ∧ w' = W) ∧
      Calls Try.prog 16 #[.pointer (some ⟨p, 0, none⟩)] W (fun r w' => ∃ a c, r = .returned (.slice a ws.length c) ∧ VA w'.heap.size w' a (ws.map iV) ∧ Below W.heap.size W w') ∧ Calls Try.prog 16 #[.pointer (some ⟨p', 0, none⟩)] W (fun r w' => ∃ a c, r = .returned (.slice a ws.length c) ∧ VA w'.heap.size w' a (ws.map iV) ∧ Below W.heap.size W w')) := by
  obtain ⟨va, vT, S, lo, va', vT', S', lo', h1, h2, h3, h4⟩ := h
  have e1 : S'.now = S.now := by have : S'.ps.now = S.ps.now := by rw [h2]
                                 exact this
  have e2 : S'.steps = S.steps := by have : S'.ps.steps = S.ps.steps := by rw [h2]
                                     exact this
  have e3 : S'.waits = S.waits := by have : S'.ps.waits = S.ps.waits := by rw [h2]
                                     exact this
  have l1 : S.tks.length ≤ 64 := by have := h3.len; simpa [LS.ps] using this
  have l2 : S'.tks.length ≤ 64 := by have := h3.len; rw [← h2] at this; simpa [LS.ps] using this
  refine ⟨S.now, (S.steps : Nat), S.waits, by rw [h1.one.la.wlen']; exact l1, fun W k => ⟨now_any p _ _ _ _ _ _ _ _ W (h1.one.la.below k).hp, ?_, steps_any p _ _ _ _ _ _ _ _ W (h1.one.la.below k).hp, ?_, la_waits p S W (h1.one.la.below k) (by omega), ?_⟩⟩
  · have := now_any p' _ _ _ _ _ _ _ _ W (h1.two.la.below k).hp
    rw [e1] at this
    exact this
  · have := steps_any p' _ _ _ _ _ _ _ _ W (h1.two.la.below k).hp
    rw [e2] at this
    exact this
  · have := la_waits p' S' W (h1.two.la.below k) (by omega)
    rw [e3] at this
    exact this
theorem src_task {w : World} {v : Value} {la : List (Int × Int)} (h : TaskArg w v la) (hz : ∀ a n c, v = .slice a n c → a = none → c = 0 ∧ n = 0) : Src w v la := by
  obtain ⟨a, c, h1, h2⟩ := h
  cases a with
  | none =>
    obtain ⟨e1, e2⟩ := hz _ _ _ h1 rfl
    exact Or.inl ⟨by rw [h1, e1, e2], List.eq_nil_of_length_eq_zero e2⟩
  | some ad =>
    refine Or.inr ⟨ad, c, h1, fun j u hj => ?_⟩
    obtain ⟨i, y, e1, e2⟩ := flA_at la j u hj
    obtain ⟨b, off, f1, _, f3, f4⟩ := h2 i y e1
    cases f1
    rw [addr_add]
    rcases e2 with ⟨rfl, rfl⟩ | ⟨rfl, rfl⟩
    · exact f3
    · exact f4
end Go.Proofs.Ytefmhghdehokcaa
