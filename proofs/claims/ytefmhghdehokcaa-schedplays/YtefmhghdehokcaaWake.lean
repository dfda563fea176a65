/-
  Wake, and what a task waits on behind a step.
-/
import Derived.Test.YtefmhghdehokcaaState
namespace Go.Proofs.Ytefmhghdehokcaa
open Go.RowKit
section
variable {S S' : Nat → Prop} {w w' w'' : World}
theorem Kb.refl (S : Nat → Prop) (w : World) : Kb S w w := ⟨rfl, rfl, rfl, Nat.le_refl _, fun _ _ _ => rfl⟩
theorem Kb.mono (h : Kb S w w') (hS : ∀ b, S b → S' b) : Kb S' w w' := ⟨h.os, h.tape, h.output, h.size, fun b hb hn => h.block b hb (fun e => hn (hS b e))⟩
theorem Kb.trans (h : Kb S w w') (k : Kb S' w' w'') (hS : ∀ b, b < w.heap.size → S' b → S b) : Kb S w w'' :=
  ⟨k.os.trans h.os, k.tape.trans h.tape, k.output.trans h.output, Nat.le_trans h.size k.size, fun b hb hn => (k.block b (Nat.lt_of_lt_of_le hb h.size) (fun e => hn (hS b hb e))).trans (h.block b hb hn)⟩
theorem Kb.of_below (h : Below w.heap.size w w') : Kb S w w' := ⟨h.os, h.tape, h.output, h.size, fun b hb _ => h.block b hb⟩
theorem Kb.setCell (h : Kb S w w') {x : Nat} (hx : S x) (o : Nat) (v : Value) : Kb S w (w'.setCell ⟨x, o, none⟩ v) :=
  ⟨h.os, h.tape, h.output, by simpa using h.size, fun b hb hn => (Below.heap_setCell _ _ _ _ (show b ≠ x from fun e => hn (e ▸ hx))).trans (h.block b hb hn)⟩
theorem Kb.drew (h : Kb S w w') : Kb S w w'.drew := ⟨h.os, h.tape, h.output, h.size, h.block⟩
theorem Kb.drewN (h : Kb S w w') (q : Nat) : Kb S w (w'.drewN q) := ⟨h.os, h.tape, h.output, h.size, h.block⟩
theorem Kb.alloc (h : Kb S w w') (o : Obj) : Kb S w (w'.alloc o) := h.trans (Kb.of_below (S := S) ((Below.refl _ w').alloc (Nat.le_refl _) o)) (fun _ _ e => e)
theorem Kb.below {B : Nat} (h : Kb S w w') (hB : B ≤ w.heap.size) (hS : ∀ b, S b → B ≤ b) : Below B w w' := ⟨h.os, h.tape, h.output, h.size, fun b hb => h.block b (by omega) (fun e => by have := hS b e; omega)⟩
theorem Kb.grown {w2 : World} {row : Option Nat} (h : Kb S w w') (hg : w'.grownBy w2 row) (hr : ∀ r, row = some r → S r ∨ w.heap.size ≤ r) : Kb S w w2 := by
  have hb : Below 0 w' w2 := (Below.refl 0 w').grown hg (Nat.zero_le _) (fun _ _ => Nat.zero_le _)
  refine ⟨hb.os.trans h.os, hb.tape.trans h.tape, hb.output.trans h.output, Nat.le_trans h.size hb.size, fun b hlt hn => (hg.block b (Nat.lt_of_lt_of_le hlt h.size) (fun e => ?_)).trans (h.block b hlt hn)⟩
  rcases hr b e.symm with h1 | h1
  · exact hn h1
  · omega
end
def wk (ch x : Int) : Int := if x = ch then 0 else x
/-- Waits, when a channel is woken. -/
def wakeL (ch : Int) (ws : List Int) : List Int := if chanB ch then ws.map (wk ch) else ws
def wakeN (ch : Int) (ws : List Int) : Nat := if chanB ch then (ws.filter (fun x => x == ch)).length else 0
theorem wakeL_len (ch : Int) (ws : List Int) : (wakeL ch ws).length = ws.length := by unfold wakeL; split <;> simp
def wkTo (ch : Int) (ws : List Int) (j : Nat) : List Int := (ws.take j).map (wk ch) ++ ws.drop j
theorem wkTo_succ {ch : Int} {ws : List Int} {j : Nat} (h : j < ws.length) : wkTo ch ws (j + 1) = (wkTo ch ws j).set j (wk ch (ws.getD j 1)) := by
  unfold wkTo
  have e1 : ws.take (j + 1) = ws.take j ++ [ws.getD j 1] := by rw [List.take_add_one, getD_some h]; rfl
  have e2 : ws.drop j = ws.getD j 1 :: ws.drop (j + 1) := by
    rw [List.drop_eq_getElem_cons h, List.getD_eq_getElem?_getD, List.getElem?_eq_getElem h]; rfl
  have hl : ((ws.take j).map (wk ch)).length = j := by rw [List.length_map, List.length_take]; omega
  rw [e1, e2, List.map_append, List.append_assoc, List.set_append_right _ _ (by omega), hl, Nat.sub_self]
  rfl
theorem wkTo_at {ch : Int} {ws : List Int} {j : Nat} (h : j < ws.length) : (wkTo ch ws j)[j]? = some (ws.getD j 1) := by
  unfold wkTo
  have hl : ((ws.take j).map (wk ch)).length = j := by rw [List.length_map, List.length_take]; omega
  rw [List.getElem?_append_right (by omega), hl, Nat.sub_self, List.getElem?_drop, Nat.add_zero, getD_some h]
theorem wkTo_same {ch : Int} {ws : List Int} {j : Nat} (h : j < ws.length) (hx : ws.getD j 1 ≠ ch) : wkTo ch ws (j + 1) = wkTo ch ws j := by
  rw [wkTo_succ h, wk, if_neg hx]
  refine List.ext_getElem? fun i => ?_
  rw [List.getElem?_set]
  split
  · rename_i e
    subst e
    split
    · exact (wkTo_at h).symm
    · rename_i h2
      have := (List.getElem?_eq_some_iff.1 (wkTo_at (ch := ch) h)).1
      exact absurd this h2
  · rfl
def cntTo (ch : Int) (ws : List Int) (j : Nat) : Nat := ((ws.take j).filter (fun x => x == ch)).length
theorem cntTo_succ {ch : Int} {ws : List Int} {j : Nat} (h : j < ws.length) : cntTo ch ws (j + 1) = cntTo ch ws j + (if ws.getD j 1 = ch then 1 else 0) := by
  unfold cntTo
  have e1 : ws.take (j + 1) = ws.take j ++ [ws.getD j 1] := by rw [List.take_add_one, getD_some h]; rfl
  rw [e1, List.filter_append, List.length_append]
  by_cases hx : ws.getD j 1 = ch
  · rw [if_pos hx, hx]; simp
  · rw [if_neg hx]; have : (ws.getD j 1 == ch) = false := by simpa using hx
    simp only [List.filter_cons, List.filter_nil, this, Bool.false_eq_true, if_false, List.length_nil]
theorem cntTo_le (ch : Int) (ws : List Int) (j : Nat) : cntTo ch ws j ≤ j := by
  unfold cntTo
  exact Nat.le_trans (List.length_filter_le _ _) (by rw [List.length_take]; omega)
set_option maxRecDepth 100000 in
set_option maxHeartbeats 2000000 in
theorem wake_any (p n : Nat) (ch : Int) (ws : List Int) (vp vk vs vw v4 v5 v6 v7 : Value) (B : Nat) (w : World) (hp : w.heap[p]? = some (.cells #[vp, vk, vs, vw, v4, v5, v6, v7] 83 (0, 0)))
    (hw : w.ownsRow B 3 1 vw n (ws.map iV)) (hpB : p < B) (hn : n ≤ 100) :
    Calls Try.prog 20 #[.pointer (some ⟨p, 0, none⟩), .int .i64 ch] w fun r w' => r = .returned (.int .i64 (wakeN ch ws : Nat)) ∧ w'.ownsRow B 3 1 vw n ((wakeL ch ws).map iV) ∧ Kb (fun b => vw.ownBlock = some b) w w' := by
  cases hch : chanB ch with
  | false =>
    have HC : Hid (∀ W : World, Calls Try.prog 44 #[.int .i64 ch] W fun r w' => r = .returned (.bool false) ∧ w' = W) := fun W => by
      have := isChannel_any ch W
      rw [hch] at this
      exact this
    have HW : Hid _ := hw
    have e1 : wakeN ch ws = 0 := by simp [wakeN, hch]
    have e2 : wakeL ch ws = ws := by simp [wakeL, hch]
    rw [e1, e2]
    clear hw hp hch
    go_enter Try.func20, Try.ntmps20
    go_wp2_with fail
    refine (HC.out _).mono ?_
    rintro e w1 ⟨rfl, hw1⟩
    subst hw1
    go_wp2_with fail
    go_ret
    exact ⟨rfl, HW.out, Kb.refl _ _⟩
  | true =>
    have HC : Hid (∀ W : World, Calls Try.prog 44 #[.int .i64 ch] W fun r w' => r = .returned (.bool true) ∧ w' = W) := fun W => by
      have := isChannel_any ch W
      rw [hch] at this
      exact this
    have e1 : wakeN ch ws = cntTo ch ws n := by
      have hwn : ws.length = n := by have := hw.1; rw [List.length_map] at this; omega
      simp [wakeN, hch, cntTo, ← hwn]
    have e2 : wakeL ch ws = wkTo ch ws n := by
      have hwn : ws.length = n := by have := hw.1; rw [List.length_map] at this; omega
      simp [wakeL, hch, wkTo, ← hwn]
    rw [e1, e2]
    obtain ⟨aw, cw, rfl⟩ := row_form hw
    have hwn : ws.length = n := by have := hw.1; rw [List.length_map] at this; omega
    have c3 := cells_of_block hp 3
    simp only [List.getElem?_toArray, List.getElem?_cons_succ, List.getElem?_cons_zero] at c3
    have HP : Hid _ := hp
    have HW : Hid _ := hw
    have HWN : Hid _ := hwn
    clear hw hp hwn hch e1 e2
    go_enter Try.func20, Try.ntmps20
    go_wp2_with fail
    refine (HC.out _).mono ?_
    rintro e w1 ⟨rfl, hw1⟩
    subst hw1
    go_wp2_with fail
    go_loopw [5, 20] (fun v i wr => ∃ j : Nat, j ≤ n ∧ i = .int .i64 (j : Nat) ∧ v = .int .i64 (cntTo ch ws j : Nat) ∧ Hid (wr.ownsRow B 3 1 (.slice aw n cw) n ((wkTo ch ws j).map iV)) ∧ Hid (Kb (fun b => (Value.slice aw n cw).ownBlock = some b) w1 wr)) (fun _ i _ => n - (intOf i).toNat)
    case atStart => exact ⟨0, by omega, rfl, rfl, by rw [Hid, wkTo]; simp; exact HW.out, Kb.refl _ _⟩
    case round =>
      obtain ⟨j, hj, rfl, rfl, HR, HK⟩ := hrel
      by_cases hlt : j < n
      · have hjw : j < ws.length := by rw [HWN.out]; exact hlt
        obtain ⟨x, hx⟩ : ∃ x, ws.getD j 1 = x := ⟨_, rfl⟩
        obtain ⟨g, rfl, hg, hc⟩ := row_cell HR.out (j := j) (x := .int .i64 x) (by rw [List.getElem?_map, wkTo_at hjw, hx]; rfl)
        have c3w : wr.cell? ⟨p, 3, none⟩ = some (.slice (some ⟨g, 0, none⟩) n cw) := by
          have := cells_of_block ((HK.out.block p (Array.getElem?_eq_some_iff.1 HP.out).1 (by simp [Value.ownBlock]; omega)).trans HP.out) 3
          simpa using this
        have hcn := cntTo_le ch ws j
        have HCN : Hid _ := cntTo_succ (ch := ch) hjw
        have HX : Hid _ := hx
        obtain ⟨m, hm⟩ : ∃ m, cntTo ch ws j = m := ⟨_, rfl⟩
        rw [hm]
        rw [hm] at hcn HCN
        clear hx
        by_cases h0 : x = ch
        · subst h0
          have hfz : wr.frozen? ⟨g, j, none⟩ = false := World.ownsRow.frozenAt HR.out _
          have HS : Hid ((wr.setCell ⟨g, j, none⟩ (.int .i64 0)).ownsRow B 3 1 (.slice (some ⟨g, 0, none⟩) n cw) n ((wkTo x ws (j + 1)).map iV)) := by
            have := (World.ownsRow.stored HR.out j (.int .i64 0)).1
            rw [Hid, wkTo_succ hjw, HX.out, wk, if_pos rfl, List.map_set]
            exact this
          have HK2 : Hid (Kb (fun b => (Value.slice (some ⟨g, 0, none⟩) n cw).ownBlock = some b) w1 (wr.setCell ⟨g, j, none⟩ (.int .i64 0))) := HK.out.setCell rfl _ _
          have hxx : (x == x) = true := by simp
          go_wp2_with fail
          go_roundw
          case rel => exact ⟨j + 1, by omega, by go_num, by rw [HCN.out, HX.out]; simp; try omega, HS.out, HK2.out⟩
          case measure => simp [intOf]; omega
        · have h0' : (x == ch) = false := by simpa using h0
          have HS : Hid (wr.ownsRow B 3 1 (.slice (some ⟨g, 0, none⟩) n cw) n ((wkTo ch ws (j + 1)).map iV)) := by
            rw [Hid, wkTo_same hjw (by rw [HX.out]; exact h0)]
            exact HR.out
          go_wp2_with fail
          go_roundw
          case rel => exact ⟨j + 1, by omega, by go_num, by rw [HCN.out, HX.out, if_neg h0]; rfl, HS.out, HK.out⟩
          case measure => simp [intOf]; omega
      · obtain rfl : j = n := by omega
        go_wp2_with fail
        go_ret
        exact ⟨rfl, HR.out, HK.out⟩
/-- What a task waits on behind a step. -/
def restI (d : Bool) (wt : Int) : Int := if d then -1 else if chanB wt then wt else 0
theorem rest_any (d : Bool) (wt : Int) (v : Value) (w : World) :
    Calls Try.prog 43 #[.agg #[.bool d, .int .i64 wt, v]] w fun r w' => r = .returned (.int .i64 (restI d wt)) ∧ Below w.heap.size w w' := by
  have HC : Hid (∀ W : World, Calls Try.prog 44 #[.int .i64 wt] W fun r w' => r = .returned (.bool (chanB wt)) ∧ w' = W) := fun W => isChannel_any wt W
  cases d with
  | true =>
    go_enter Try.func43, Try.ntmps43
    go_wp2_with fail
    go_ret
    exact ⟨rfl, (Below.refl _ _).alloc (Nat.le_refl _) _⟩
  | false =>
    cases hch : chanB wt with
    | true =>
      rw [hch] at HC
      have e : restI false wt = wt := by simp [restI, hch]
      rw [e]
      clear hch e
      go_enter Try.func43, Try.ntmps43
      go_wp2_with fail
      refine (HC.out _).mono ?_
      rintro e w1 ⟨rfl, hw1⟩
      subst hw1
      go_wp2_with fail
      go_ret
      exact ⟨rfl, (Below.refl _ _).alloc (Nat.le_refl _) _⟩
    | false =>
      rw [hch] at HC
      have e : restI false wt = 0 := by simp [restI, hch]
      rw [e]
      clear hch e
      go_enter Try.func43, Try.ntmps43
      go_wp2_with fail
      refine (HC.out _).mono ?_
      rintro e w1 ⟨rfl, hw1⟩
      subst hw1
      go_wp2_with fail
      go_ret
      exact ⟨rfl, (Below.refl _ _).alloc (Nat.le_refl _) _⟩
end Go.Proofs.Ytefmhghdehokcaa
