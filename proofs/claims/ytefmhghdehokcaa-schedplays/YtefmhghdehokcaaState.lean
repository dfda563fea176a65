/-
  A loop and its tasks in memory.
-/
import Derived.Test.YtefmhghdehokcaaClones
import Derived.Maps.AppendAt
namespace Go.Proofs.Ytefmhghdehokcaa
open Go.RowKit
/-- A task: its block; its acts that are left, and where they lie; what it took down, and where. -/
structure Tk where
  q : Nat
  acts : List (Int × Int)
  aa : Option Addr
  ca : Nat
  vt : Value
  told : List Int
/-- A loop: picks, ticks, tasks, waits, steps, the clock, draws. -/
structure LS where
  vp : Value
  picks : List Int
  vk : Value
  ticks : List Int
  vs : Value
  tks : List Tk
  vw : Value
  waits : List Int
  steps : Nat
  now : Int
  vd : Value
  draws : List Int
  fu : Nat
/-- A row that is read alone, in blocks below B. -/
def RowAt (B : Nat) (W : World) (v : Value) (l : List Value) : Prop := ∃ a c, v = .slice a l.length c ∧ VA B W a l ∧ l.length ≤ c ∧ (a = none → c = 0)
/-- Acts in memory. -/
def ActsAt (W : World) (a : Option Addr) (l : List (Int × Int)) : Prop :=
  ∀ j x, l[j]? = some x → ∃ b off, a = some ⟨b, off, none⟩ ∧ (∃ c f, W.heap[b]? = some (.cells c 54 f)) ∧ W.cell? ⟨b, off + 2 * j, none⟩ = some (.int .i64 x.1) ∧ W.cell? ⟨b, off + 2 * j + 1, none⟩ = some (.int .i64 x.2)
def nV (x : Int) : Value := .int .u64 x
structure TkAt (B : Nat) (W : World) (t : Tk) : Prop where
  hq : W.heap[t.q]? = some (.cells #[.slice t.aa t.acts.length t.ca, t.vt] 91 (0, 0))
  ge : B ≤ t.q
  acts : ActsAt W t.aa t.acts
  len : t.acts.length ≤ t.ca
  nil : t.aa = none → t.ca = 0
  told : W.ownsRow B 45 1 t.vt t.told.length (t.told.map nV)
def tkV (t : Tk) : Value := .iface 58 (.pointer (some ⟨t.q, 0, none⟩))
structure LoopAt (W : World) (p : Nat) (S : LS) : Prop where
  hp : W.heap[p]? = some (.cells #[S.vp, S.vk, S.vs, S.vw, .int .i64 (S.steps : Nat), .int .u64 S.now, S.vd, .int .u64 (S.fu : Nat)] 83 (0, 0))
  picks : RowAt p W S.vp (S.picks.map iV)
  ticks : RowAt p W S.vk (S.ticks.map iV)
  draws : RowAt p W S.vd (S.draws.map nV)
  tasks : W.ownsRow (p + 1) 86 1 S.vs S.tks.length (S.tks.map tkV)
  waits : W.ownsRow (p + 1) 3 1 S.vw S.tks.length (S.waits.map iV)
  each : ∀ t ∈ S.tks, TkAt (p + 1) W t
  apart : S.tks.Pairwise (fun t t' => t.q ≠ t'.q ∧ ∀ g, t.vt.ownBlock = some g → t'.vt.ownBlock ≠ some g)
/-- The tasks that are ready. -/
def readyTo (ws : List Int) (j : Nat) : List Nat := (List.range j).filter (fun i => ws.getD i 1 == 0)
def readyL (ws : List Int) : List Nat := readyTo ws ws.length
theorem readyTo_succ (ws : List Int) (j : Nat) : readyTo ws (j + 1) = if ws.getD j 1 == 0 then readyTo ws j ++ [j] else readyTo ws j := by
  unfold readyTo
  rw [List.range_succ, List.filter_append]
  by_cases h : (ws.getD j 1 == 0) = true
  · rw [if_pos h]; simp only [List.filter_cons, List.filter_nil, h, if_true]
  · have h' := eq_false_of_ne_true h
    rw [if_neg h]; simp only [List.filter_cons, List.filter_nil, h', Bool.false_eq_true, if_false, List.append_nil]
theorem readyTo_len (ws : List Int) (j : Nat) : (readyTo ws j).length ≤ j := by
  have := List.length_filter_le (fun i => ws.getD i 1 == 0) (List.range j)
  rw [List.length_range] at this
  exact this
def nI (i : Nat) : Value := .int .i64 (i : Nat)
theorem row_cell {W : World} {B n : Nat} {a : Option Addr} {c : Nat} {e : TypeId} {xs : List Value} (h : W.ownsRow B e 1 (.slice a n c) n xs) {j : Nat} {x : Value} (hj : xs[j]? = some x) :
    ∃ g, a = some ⟨g, 0, none⟩ ∧ B ≤ g ∧ W.cell? ⟨g, j, none⟩ = some x := by
  have hl := (List.getElem?_eq_some_iff.1 hj).1
  have hlen := h.1
  rcases h.2 with ⟨hv, h0⟩ | ⟨g, cap', cur, hv, hB, _⟩
  · omega
  · simp only [Value.slice.injEq] at hv
    obtain ⟨rfl, _, _⟩ := hv
    have hc := h.cells (g := g) rfl j x hj
    rw [addr_add, Nat.zero_add] at hc
    exact ⟨g, rfl, hB, hc⟩
theorem row_form {W : World} {B n : Nat} {e : TypeId} {v : Value} {xs : List Value} (h : W.ownsRow B e 1 v n xs) : ∃ a c, v = .slice a n c := by
  rcases h.2 with ⟨rfl, h0⟩ | ⟨g, cap', cur, rfl, _⟩
  · exact ⟨none, 0, by rw [h0]⟩
  · exact ⟨_, _, rfl⟩
theorem cells_of_block {w : World} {x : Nat} {c : Array Value} {t : TypeId} {f : Nat × Nat} (h : w.heap[x]? = some (.cells c t f)) (j : Nat) : w.cell? ⟨x, j, none⟩ = c[j]? := by simp [World.cell?, h]
theorem getD_some {ws : List Int} {j : Nat} (h : j < ws.length) : ws[j]? = some (ws.getD j 1) := by
  rw [List.getD_eq_getElem?_getD, List.getElem?_eq_getElem h]; rfl
theorem owns_same {W W' : World} {base : Nat} {e : TypeId} {size : Nat} {v : Value} {n : Nat} {xs : List Value} (h : W.ownsRow base e size v n xs) (k : ∀ g, v.ownBlock = some g → W'.heap[g]? = W.heap[g]?) : W'.ownsRow base e size v n xs := by
  rcases h with ⟨h1, ⟨hv, h0⟩ | ⟨g, cap, cur, hv, hB, hh, hr⟩⟩
  · exact ⟨h1, Or.inl ⟨hv, h0⟩⟩
  · exact ⟨h1, Or.inr ⟨g, cap, cur, hv, hB, (k g (by rw [hv]; rfl)).trans hh, hr⟩⟩
set_option maxRecDepth 100000 in
set_option maxHeartbeats 2000000 in
/-- Ready, over a row of waits. -/
theorem ready_any (p n : Nat) (ws : List Int) (vp vk vs vw v4 v5 v6 v7 : Value) (B : Nat) (w : World) (hp : w.heap[p]? = some (.cells #[vp, vk, vs, vw, v4, v5, v6, v7] 83 (0, 0)))
    (hw : w.ownsRow B 3 1 vw n (ws.map iV)) (hn : n ≤ 100) :
    Calls Try.prog 19 #[.pointer (some ⟨p, 0, none⟩)] w fun r w' => ∃ v, r = .returned v ∧ w'.ownsRow w.heap.size 3 1 v (readyL ws).length ((readyL ws).map nI) ∧ Below w.heap.size w w' := by
  obtain ⟨i0, hi, hz0, hz1, hz2⟩ := info_parts info3
  obtain ⟨aw, cw, rfl⟩ := row_form hw
  have hwn : ws.length = n := by have := hw.1; rw [List.length_map] at this; omega
  have c3 := cells_of_block hp 3
  simp only [List.getElem?_toArray, List.getElem?_cons_succ, List.getElem?_cons_zero] at c3
  have HW : Hid _ := hw
  have HWN : Hid _ := hwn
  clear hw hp hwn
  go_enter Try.func19, Try.ntmps19
  go_wp2_with fail
  go_loopw [3, 13] (fun v i wr => ∃ j : Nat, j ≤ n ∧ i = .int .i64 (j : Nat) ∧ Hid (wr.ownsRow w.heap.size 3 1 v (readyTo ws j).length ((readyTo ws j).map nI)) ∧ Hid (Below w.heap.size w wr)) (fun _ i _ => n - (intOf i).toNat)
  case atStart => exact ⟨0, by omega, rfl, World.ownsRow_nil _ _ _ _, Below.refl _ _⟩
  case round =>
    obtain ⟨j, hj, rfl, HR, HB⟩ := hrel
    by_cases hlt : j < n
    · obtain ⟨g, rfl, _, hc⟩ := row_cell HW.out (j := j) (x := .int .i64 (ws.getD j 1)) (by rw [List.getElem?_map, getD_some (by rw [HWN.out]; exact hlt)]; rfl)
      have hcw : wr.cell? ⟨g, j, none⟩ = some (.int .i64 (ws.getD j 1)) := (HB.out.cell (p := ⟨g, j, none⟩) (World.block_lt_of_cell? _ _ hc)).trans hc
      obtain ⟨x, hx⟩ : ∃ x, ws.getD j 1 = x := ⟨_, rfl⟩
      have HX : Hid _ := hx
      rw [hx] at hcw
      obtain ⟨m, hm⟩ : ∃ m, (readyTo ws j).length = m := ⟨_, rfl⟩
      have HM : Hid _ := hm
      have hml : m ≤ j := by rw [← hm]; exact readyTo_len ws j
      clear hx hc hm
      by_cases h0 : x = 0
      · have h0' : (x == 0) = true := by simp [h0]
        have hrow : wr.ownsRow w.heap.size 3 1 u3 m ((readyTo ws j).map nI) := by rw [← HM.out]; exact HR.out
        obtain ⟨a3, c3', rfl⟩ := row_form hrow
        have HRW : Hid _ := hrow
        have hra : Hid (∀ o, (wr.alloc o).ownsRow w.heap.size 3 1 (.slice a3 m c3') m ((readyTo ws j).map nI)) := fun o => World.ownsRow.alloc HRW.out o
        have hsz := HB.out.size
        clear hrow
        go_wp2_with (at_builtin; refine wpList_append_own _ rfl (.tmp 20) (.tmp 22) 22 rfl w.heap.size 3 i0 (.int .i64 0) 1 8 Try.underlying22 hi hz0 hz1 hz2 rfl (by decide) _ _ _ rfl (hra.out _) ⟨wr.heap.size, 0, none⟩ 1 1 [.int .i64 (j : Nat)] rfl rfl (cell_one_new _ _ _) (by simp [Value.oneCell']) (by unfold maxLen; omega) (by omega) (by simp; omega) ?_)
        intro v2 w2 hown2 hg2 _
        have HO : Hid (w2.ownsRow w.heap.size 3 1 v2 (readyTo ws (j + 1)).length ((readyTo ws (j + 1)).map nI)) := by
          rw [Hid, readyTo_succ, if_pos (by rw [HX.out]; exact h0'), List.length_append, List.map_append, HM.out]
          exact hown2
        have HB2 : Hid (Below w.heap.size w w2) := (HB.out.alloc hsz _).grown hg2 (by simp; omega) (fun i hi => (World.ownsRow.lt HRW.out i hi).1)
        clear hown2 hg2
        go_wp2_with fail
        go_roundw
        case rel => exact ⟨j + 1, by omega, by go_num, HO.out, HB2.out⟩
        case measure => simp [intOf]; omega
      · have h0' : (x == 0) = false := by simp [h0]
        have HO : Hid (wr.ownsRow w.heap.size 3 1 u3 (readyTo ws (j + 1)).length ((readyTo ws (j + 1)).map nI)) := by
          rw [Hid, readyTo_succ, if_neg (by rw [HX.out]; simp [h0])]
          exact HR.out
        go_wp2_with fail
        go_roundw
        case rel => exact ⟨j + 1, by omega, by go_num, HO.out, HB.out⟩
        case measure => simp [intOf]; omega
    · obtain rfl : j = n := by omega
      go_wp2_with fail
      go_ret
      refine ⟨_, rfl, ?_, HB.out⟩
      rw [readyL, HWN.out]
      exact HR.out
end Go.Proofs.Ytefmhghdehokcaa
