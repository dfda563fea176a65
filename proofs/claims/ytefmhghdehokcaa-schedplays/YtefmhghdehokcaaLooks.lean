/-
  A loop, asked: what is ready, what waits; a pick below 0; what a loop's blocks are.
-/
import Derived.Test.YtefmhghdehokcaaStart
import Derived.Test.YtefmhghdehokcaaMstep
import Derived.Test.YtefmhghdehokcaaLadd
namespace Go.Proofs.Ytefmhghdehokcaa
open Go.RowKit
/-- A loop's blocks: from p on, and of five types. -/
theorem LA.foot {w : World} {p : Nat} {S : LS} (h : LA w p S) {b : Nat} (hf : Foot p S b) : p ≤ b ∧ ∃ c ty, w.heap[b]? = some (.cells c ty (0, 0)) ∧ ty ≠ 43 ∧ ty ≠ 75 ∧ ty ≠ 58 ∧ ty ≠ 76 ∧ ty ≠ 78 := by
  rcases hf with e | e | e | ⟨i, t, hi, e | e⟩
  · subst e
    exact ⟨Nat.le_refl _, _, _, h.hp, by decide, by decide, by decide, by decide, by decide⟩
  · obtain ⟨c, hc⟩ := row_block h.tasks e
    exact ⟨by have := (h.tasks.lt b e).1; omega, _, _, hc, by decide, by decide, by decide, by decide, by decide⟩
  · obtain ⟨c, hc⟩ := row_block h.waits e
    exact ⟨by have := (h.waits.lt b e).1; omega, _, _, hc, by decide, by decide, by decide, by decide, by decide⟩
  · have h1 := (h.each i t hi).1
    subst e
    exact ⟨by have := h1.ge; omega, _, _, h1.hq, by decide, by decide, by decide, by decide, by decide⟩
  · have h1 := (h.each i t hi).1
    obtain ⟨c, hc⟩ := row_block h1.told e
    exact ⟨by have := (h1.told.lt b e).1; omega, _, _, hc, by decide, by decide, by decide, by decide, by decide⟩
/-- What a loop's own steps leave as it is. -/
structure Lv (p : Nat) (w w' : World) : Prop where
  bel : Below p w w'
  t43 : ∀ (b : Nat) c f, w.heap[b]? = some (.cells c 43 f) → w'.heap[b]? = some (.cells c 43 f)
theorem LA.lv {w w' : World} {p : Nat} {S : LS} (h : LA w p S) (k : Kb (fun b => Foot p S b) w w') : Lv p w w' where
  bel := k.below (Nat.le_of_lt (Array.getElem?_eq_some_iff.1 h.hp).1) (fun b e => (h.foot e).1)
  t43 := fun b c f hb => (k.block b (Array.getElem?_eq_some_iff.1 hb).1 (fun e => by
    obtain ⟨_, c', ty, h1, h2, _⟩ := h.foot e
    rw [hb] at h1
    simp only [Option.some.injEq, Obj.cells.injEq] at h1
    exact h2 h1.2.1.symm)).trans hb
theorem Lv.of_below {p : Nat} {w w' : World} (k : Below w.heap.size w w') (hp : p ≤ w.heap.size) : Lv p w w' := ⟨k.mono hp, fun b _ _ hb => (k.block b (Array.getElem?_eq_some_iff.1 hb).1).trans hb⟩
theorem Lv.trans {p : Nat} {w w' w'' : World} (h : Lv p w w') (k : Lv p w' w'') : Lv p w w'' := ⟨h.bel.trans k.bel, fun b c f hb => k.t43 b c f (h.t43 b c f hb)⟩
theorem LA.ps {w : World} {p : Nat} {S : LS} (h : LA w p S) : p < w.heap.size := (Array.getElem?_eq_some_iff.1 h.hp).1
theorem va_own {W : World} {B e n : Nat} {v : Value} {xs : List Value} (h : W.ownsRow B e 1 v n xs) : ∃ a c, v = .slice a n c ∧ VA W.heap.size W a xs ∧ xs.length = n := by
  obtain ⟨a, c, h1, h2, _⟩ := rowAt_of h
  have hl : xs.length = n := by have := h.1; omega
  exact ⟨a, c, by rw [h1, hl], h2, hl⟩
theorem LA.wlen {w : World} {p : Nat} {S : LS} (h : LA w p S) : S.waits.length = S.tks.length := by have := h.waits.1; simpa using this
theorem la_waits (p : Nat) (S : LS) (w : World) (h : LA w p S) (hn : S.tks.length ≤ 100) :
    Calls Try.prog 16 #[.pointer (some ⟨p, 0, none⟩)] w fun r w' => ∃ a c, r = .returned (.slice a S.waits.length c) ∧ VA w'.heap.size w' a (S.waits.map iV) ∧ Below w.heap.size w w' := by
  refine (waits_any p S.tks.length (p + 1) _ _ _ _ _ _ _ _ S.waits w h.hp h.waits hn).mono ?_
  rintro r w' ⟨v, rfl, h1, h2⟩
  obtain ⟨a, c, rfl, h3, _⟩ := va_own h1
  exact ⟨a, c, by rw [h.wlen], h3, h2⟩
theorem la_ready (p : Nat) (S : LS) (w : World) (h : LA w p S) (hn : S.tks.length ≤ 100) :
    Calls Try.prog 19 #[.pointer (some ⟨p, 0, none⟩)] w fun r w' => ∃ a c, r = .returned (.slice a (readyL S.waits).length c) ∧ VA w'.heap.size w' a ((readyL S.waits).map nI) ∧ Below w.heap.size w w' := by
  refine (ready_any p S.tks.length S.waits _ _ _ _ _ _ _ _ (p + 1) w h.hp h.waits hn).mono ?_
  rintro r w' ⟨v, rfl, h1, h2⟩
  obtain ⟨a, c, rfl, h3, _⟩ := va_own h1
  exact ⟨a, c, rfl, h3, h2⟩
theorem step_neg (p : Nat) (pick : Int) (S : LS) (w : World) (h : LA w p S) (hn : S.tks.length ≤ 100) (hp : pick < 0) :
    Calls Try.prog 18 #[.pointer (some ⟨p, 0, none⟩), .int .i64 pick] w fun r w' => r = .returned (.tuple #[.int .i64 0, .bool false]) ∧ Below w.heap.size w w' := by
  have HR : Hid _ := la_ready p S w h hn
  have d1 : decide (pick < 0) = true := decide_eq_true hp
  clear h hn
  go_enter Try.func18, Try.ntmps18
  go_wp2_with fail
  refine Calls.mono HR.out ?_
  rintro e w1 ⟨a, c, rfl, _, b1⟩
  go_wp2_with fail
  go_ret2
  exact ⟨rfl, b1⟩
/-- A row of acts that do nothing. -/
def zA (n : Nat) : Array Value := madeCells #[.int .i64 0, .int .i64 0] (n * 2)
theorem zA_at (n j : Nat) (h : j < n * 2) : (zA n)[j]? = some (.int .i64 0) := by
  rw [zA, madeCells, Array.getElem?_map, Array.getElem?_range, if_pos h]
  have : j % 2 = 0 ∨ j % 2 = 1 := by omega
  rcases this with e | e <;> simp [e]
theorem make_acts (n : Nat) (hn : n ≤ 100000) (W : World) : (Instr.makeSlice 32 (.int .i64 (n : Nat)) (.int .i64 (n : Nat))).run Try.prog W = .ok (.slice (some ⟨W.heap.size, 0, none⟩) n n) (W.alloc (.cells (zA n) 54)) := by
  obtain ⟨i0, hi, hz0, hz1, hz2⟩ := info_parts info54
  have := run_make (P := Try.prog) W 32 54 i0 _ Try.underlying32 hi hz0 .i64 .i64 (n : Int) (n : Int) (by omega) (Int.le_refl _) (by rw [hz2]; omega) (by omega)
  rw [hz1] at this
  simpa [zA, Value.cells] using this
theorem zA_acts {w : World} {g n : Nat} {f : Nat × Nat} (h : w.heap[g]? = some (.cells (zA n) 54 f)) : ∀ j y, (List.replicate n ((0 : Int), (0 : Int)))[j]? = some y → w.cell? ⟨g, 2 * j, none⟩ = some (.int .i64 y.1) ∧ w.cell? ⟨g, 2 * j + 1, none⟩ = some (.int .i64 y.2) := by
  intro j y hj
  have hl := (List.getElem?_eq_some_iff.1 hj).1
  rw [List.length_replicate] at hl
  rw [List.getElem?_replicate, if_pos hl] at hj
  cases hj
  rw [cells_of_block h, cells_of_block h]
  exact ⟨zA_at n _ (by omega), zA_at n _ (by omega)⟩
end Go.Proofs.Ytefmhghdehokcaa
