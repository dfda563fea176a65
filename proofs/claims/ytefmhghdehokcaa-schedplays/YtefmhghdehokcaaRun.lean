/-
  A loop with one task: its steps, run to the end.
-/
import Derived.Test.YtefmhghdehokcaaOne
namespace Go.Proofs.Ytefmhghdehokcaa
open Go.RowKit
/-- What the clock is behind a tick. -/
def nowI (st : Nat) (now : Int) : Int := if st = 0 then now + 3 else now
theorem l1_now (p st : Nat) (now x : Int) (draws : List Int) (fu : Nat) (t : Tk) (l : List (Int × Int)) (b2 ck : Nat) (vs vw vd : Value) (w : World) (h : L1 w p st now draws fu 0 t b2 ck vs vw vd) (hst : st < 1000) (hn0 : 0 ≤ now) (hn1 : now < 1000) (ha : t.acts = (4, x) :: l) (hll : l.length < 1000) (htl : t.told.length < 1000) :
    Calls Try.prog 18 #[.pointer (some ⟨p, 0, none⟩), .int .i64 0] w fun r w' => r = .returned (.tuple #[.int .i64 0, .bool true]) ∧ ∃ t', t'.q = t.q ∧ t'.acts = l ∧ t'.told = t.told ++ [nowI st now] ∧ L1 w' p (st + 1) (nowI st now) draws fu (restI (decide (l.length = 0)) 0) t' b2 ck vs vw vd ∧ Below p w w' := by
  have hps := (Array.getElem?_eq_some_iff.1 h.hp).1
  have hqs := (Array.getElem?_eq_some_iff.1 h.tk.hq).1
  have hge := h.tk.ge
  have hvt : ∀ g, t.vt.ownBlock = some g → p + 1 ≤ g ∧ g < w.heap.size := fun g e => h.tk.told.lt g e
  have hvw : ∀ g, vw.ownBlock = some g → p + 1 ≤ g ∧ g < w.heap.size := fun g e => h.waits.lt g e
  have hab : ∀ ad, t.aa = some ad → ad.block ≠ p := fun ad e e2 => by
    obtain ⟨b, off, e3, ⟨c, f, hcf⟩, _⟩ := h.tk.acts 0 _ (by rw [ha]; rfl)
    rw [e] at e3
    cases e3
    have e4 : b = p := e2
    rw [e4, h.hp] at hcf
    simp at hcf
  have := step_quiet p 1 0 0 0 (.slice none 0 0) vs vw vd (some ⟨b2, 0, none⟩) 1 ck st fu fu now (nowI st now) [0] [t] t (decide (l.length = 0)) 0 w
    (fun W1 w2 v => v = vd ∧ Kb (fun b => b = p) w W1 ∧ ∃ t', t'.q = t.q ∧ t'.acts = l ∧ t'.told = t.told ++ [nowI st now] ∧ Stepped p t t' W1 w2 #[.slice none 0 0, .slice (some ⟨b2, 0, none⟩) 1 ck, vs, vw, .int .i64 (st : Nat), .int .u64 (nowI st now), vd, .int .u64 (fu : Nat)])
    h.hp (by
      by_cases h0 : st = 0
      · right
        exact ⟨by omega, b2, 0, 3, rfl, h.tick.1, by rw [h0]; exact h.tick.2, by omega, by omega, hn0, by omega, by simp [nowI, h0]⟩
      · left
        exact ⟨by omega, by simp [nowI, h0]⟩) (by omega) h.waits h.tasks (by omega) (by omega) (by simp) (by rw [ready_one]; rfl) rfl
    (fun W1 k1 hp1 => by
      have tk1 := h.tk.kb k1 (by omega) (fun g e => by have := (hvt g e).1; omega) (fun ad e => hab ad e)
      refine (task_now p t x l _ _ _ _ _ _ _ (nowI st now) W1 tk1 ha (by omega) (by omega) hp1).mono ?_
      rintro r w2 ⟨rfl, t', h1, h2, h3, h4⟩
      exact ⟨rfl, vd, rfl, k1, t', h1, h2, h3, h4⟩)
    (fun W1 w2 v ⟨hv, k1, t', h1, h2, h3, h4⟩ => by
      subst hv
      have s1 := k1.size
      refine ⟨h4.hp, ?_, h4.kb.size, fun b hb1 hb2 => h4.kb.block b hb2 ?_⟩
      · refine owns_same h.waits (fun g e => ?_)
        obtain ⟨c, hc⟩ := row_block h.waits e
        refine (h4.kb.block g (by have := (hvw g e).2; omega) ?_).trans (k1.block g (hvw g e).2 (by have := (hvw g e).1; omega))
        rintro (e2 | e2 | e2)
        · have := (hvw g e).1; omega
        · rw [e2, h.tk.hq] at hc; simp at hc
        · exact row_type h.tk.told hc (by decide) e2
      · rintro (e2 | e2 | e2)
        · omega
        · omega
        · have := (hvt b e2).2; omega)
  refine this.mono ?_
  rintro r w' ⟨rfl, W1, w2, v, k1, ⟨rfl, _, t', h1, h2, h3, h4⟩, hp', hw', k3⟩
  have hd2 : RowAt p w2 v (draws.map nV) := (h.draws.kb hps (S := fun b => b = p) (fun b e => by omega) k1).kb (by have := k1.size; omega) (fun b e => by
    rcases e with e | e | e
    · omega
    · omega
    · have := (hvt b e).1; omega) h4.kb
  obtain ⟨hL, hB⟩ := l1_next h k1 h4 hd2 h1 hp' hw' k3 (by rw [ha]; simp)
  exact ⟨rfl, t', h1, h2, h3, hL, hB⟩
theorem l1_draw (p st : Nat) (now x : Int) (draws : List Int) (fu : Nat) (t : Tk) (l : List (Int × Int)) (b2 ck : Nat) (vs vw vd : Value) (w : World) (h : L1 w p st now draws fu 0 t b2 ck vs vw vd) (hst : st < 1000) (hn0 : 0 ≤ now) (hn1 : now < 1000) (ha : t.acts = (5, x) :: l) (hll : l.length < 1000) (htl : t.told.length < 1000) (hdl : draws.length ≤ 1000) (hfu : fu < 1000) :
    Calls Try.prog 18 #[.pointer (some ⟨p, 0, none⟩), .int .i64 0] w fun r w' => r = .returned (.tuple #[.int .i64 0, .bool true]) ∧ ∃ t' vd', t'.q = t.q ∧ t'.acts = l ∧ t'.told = t.told ++ [drawI draws fu] ∧ L1 w' p (st + 1) (nowI st now) draws.tail (fuN draws fu) (restI (decide (l.length = 0)) 0) t' b2 ck vs vw vd' ∧ Below p w w' := by
  have hps := (Array.getElem?_eq_some_iff.1 h.hp).1
  have hqs := (Array.getElem?_eq_some_iff.1 h.tk.hq).1
  have hge := h.tk.ge
  have hvt : ∀ g, t.vt.ownBlock = some g → p + 1 ≤ g ∧ g < w.heap.size := fun g e => h.tk.told.lt g e
  have hvw : ∀ g, vw.ownBlock = some g → p + 1 ≤ g ∧ g < w.heap.size := fun g e => h.waits.lt g e
  have hab : ∀ ad, t.aa = some ad → ad.block ≠ p := fun ad e e2 => by
    obtain ⟨b, off, e3, ⟨c, f, hcf⟩, _⟩ := h.tk.acts 0 _ (by rw [ha]; rfl)
    rw [e] at e3
    cases e3
    have e4 : b = p := e2
    rw [e4, h.hp] at hcf
    simp at hcf
  have := step_quiet p 1 0 0 0 (.slice none 0 0) vs vw vd (some ⟨b2, 0, none⟩) 1 ck st fu (fuN draws fu) now (nowI st now) [0] [t] t (decide (l.length = 0)) 0 w
    (fun W1 w2 v => RowAt p w2 v (draws.tail.map nV) ∧ Kb (fun b => b = p) w W1 ∧ ∃ t', t'.q = t.q ∧ t'.acts = l ∧ t'.told = t.told ++ [drawI draws fu] ∧ Stepped p t t' W1 w2 #[.slice none 0 0, .slice (some ⟨b2, 0, none⟩) 1 ck, vs, vw, .int .i64 (st : Nat), .int .u64 (nowI st now), v, .int .u64 (fuN draws fu : Nat)])
    h.hp (by
      by_cases h0 : st = 0
      · right
        exact ⟨by omega, b2, 0, 3, rfl, h.tick.1, by rw [h0]; exact h.tick.2, by omega, by omega, hn0, by omega, by simp [nowI, h0]⟩
      · left
        exact ⟨by omega, by simp [nowI, h0]⟩) (by omega) h.waits h.tasks (by omega) (by omega) (by simp) (by rw [ready_one]; rfl) rfl
    (fun W1 k1 hp1 => by
      have tk1 := h.tk.kb k1 (by omega) (fun g e => by have := (hvt g e).1; omega) (fun ad e => hab ad e)
      refine (task_draw p t x l _ _ _ _ _ _ vd draws fu W1 tk1 ha (by omega) (by omega) hp1 (h.draws.kb hps (S := fun b => b = p) (fun b e => by omega) k1) (by omega) (by omega)).mono ?_
      rintro r w2 ⟨rfl, t', vd', h1, h2, h3, h5, h4⟩
      exact ⟨rfl, vd', h5, k1, t', h1, h2, h3, h4⟩)
    (fun W1 w2 v ⟨_, k1, t', h1, h2, h3, h4⟩ => by
      have s1 := k1.size
      refine ⟨h4.hp, ?_, h4.kb.size, fun b hb1 hb2 => h4.kb.block b hb2 ?_⟩
      · refine owns_same h.waits (fun g e => ?_)
        obtain ⟨c, hc⟩ := row_block h.waits e
        refine (h4.kb.block g (by have := (hvw g e).2; omega) ?_).trans (k1.block g (hvw g e).2 (by have := (hvw g e).1; omega))
        rintro (e2 | e2 | e2)
        · have := (hvw g e).1; omega
        · rw [e2, h.tk.hq] at hc; simp at hc
        · exact row_type h.tk.told hc (by decide) e2
      · rintro (e2 | e2 | e2)
        · omega
        · omega
        · have := (hvt b e2).2; omega)
  refine this.mono ?_
  rintro r w' ⟨rfl, W1, w2, v, k1, ⟨hd2, _, t', h1, h2, h3, h4⟩, hp', hw', k3⟩
  obtain ⟨hL, hB⟩ := l1_next h k1 h4 hd2 h1 hp' hw' k3 (by rw [ha]; simp)
  exact ⟨rfl, t', v, h1, h2, h3, hL, hB⟩
theorem pick_nil (p : Nat) (v1 v2 v3 v4 v5 v6 v7 : Value) (w : World) (hp : w.heap[p]? = some (.cells #[.slice none 0 0, v1, v2, v3, v4, v5, v6, v7] 83 (0, 0))) : Calls Try.prog 41 #[.pointer (some ⟨p, 0, none⟩)] w fun r w' => r = .returned (.int .i64 0) ∧ w' = w := by
  have c0 : w.cell? ⟨p, 0, none⟩ = some (.slice none 0 0) := by have := cells_of_block hp 0; simpa using this
  clear hp
  go_enter Try.func41, Try.ntmps41
  go_wp2
  go_ret
  exact ⟨rfl, rfl⟩
theorem ready_gone : readyL [-1] = [] := by decide
section
variable {w : World} {p st : Nat} {now : Int} {draws : List Int} {fu : Nat} {t : Tk} {b2 ck : Nat} {vs vw vd : Value}
theorem l1_ready (h : L1 w p st now draws fu 0 t b2 ck vs vw vd) : Calls Try.prog 19 #[.pointer (some ⟨p, 0, none⟩)] w fun r w' => ∃ v, r = .returned v ∧ w'.ownsRow w.heap.size 3 1 v 1 [.int .i64 0] ∧ Below w.heap.size w w' := by
  have := ready_any p 1 [0] _ _ _ vw _ _ _ _ (p + 1) w h.hp h.waits (by omega)
  rw [ready_one] at this
  exact this
theorem l1_gone (h : L1 w p st now draws fu (-1) t b2 ck vs vw vd) : Calls Try.prog 19 #[.pointer (some ⟨p, 0, none⟩)] w fun r w' => ∃ v, r = .returned v ∧ w'.ownsRow w.heap.size 3 1 v 0 [] ∧ Below w.heap.size w w' := by
  have := ready_any p 1 [-1] _ _ _ vw _ _ _ _ (p + 1) w h.hp h.waits (by omega)
  rw [ready_gone] at this
  exact this
theorem next_l1 (h : L1 w p st now draws fu 0 t b2 ck vs vw vd) (Post : World → World → Prop) (HS : ∀ W, Below w.heap.size w W → Calls Try.prog 18 #[.pointer (some ⟨p, 0, none⟩), .int .i64 0] W fun r w' => r = .returned (.tuple #[.int .i64 0, .bool true]) ∧ Post W w') :
    Calls Try.prog 13 #[.pointer (some ⟨p, 0, none⟩)] w fun r w' => r = .returned (.tuple #[.int .i64 0, .bool true]) ∧ ∃ W, Below w.heap.size w W ∧ Post W w' := by
  have HR : Hid _ := l1_ready h
  have HH : Hid _ := h
  have HHS : Hid _ := HS
  clear h HS
  go_enter Try.func13, Try.ntmps13
  go_wp2_with fail
  refine Calls.mono HR.out ?_
  rintro e w1 ⟨v1, rfl, o1, b1⟩
  obtain ⟨a1, c1, rfl⟩ := row_form o1
  have hp1 := (b1.block p (Array.getElem?_eq_some_iff.1 HH.out.hp).1).trans HH.out.hp
  have HP : Hid _ := pick_nil p _ _ _ _ _ _ _ w1 hp1
  have HB : Hid _ := b1
  clear o1 b1 hp1
  go_wp2_with fail
  refine Calls.mono HP.out ?_
  rintro e w2 ⟨rfl, hw2⟩
  subst hw2
  have HC : Hid _ := HHS.out w2 HB.out
  go_wp2_with fail
  refine Calls.mono HC.out ?_
  rintro e w3 ⟨rfl, hP⟩
  have HPP : Hid _ := hP
  clear hP
  go_wp2_with fail
  go_ret2
  exact ⟨rfl, w2, HB.out, HPP.out⟩
theorem next_gone (h : L1 w p st now draws fu (-1) t b2 ck vs vw vd) : Calls Try.prog 13 #[.pointer (some ⟨p, 0, none⟩)] w fun r w' => r = .returned (.tuple #[.int .i64 0, .bool false]) ∧ Below w.heap.size w w' := by
  have HR : Hid _ := l1_gone h
  clear h
  go_enter Try.func13, Try.ntmps13
  go_wp2_with fail
  refine Calls.mono HR.out ?_
  rintro e w1 ⟨v1, rfl, o1, b1⟩
  obtain ⟨a1, c1, rfl⟩ := row_form o1
  clear o1
  go_wp2_with fail
  go_ret2
  exact ⟨rfl, b1⟩
end
set_option maxRecDepth 100000 in
set_option maxHeartbeats 4000000 in
/-- The run of the first example. -/
theorem run_three (p : Nat) (t : Tk) (b2 ck : Nat) (vs vw vd : Value) (w : World) (h : L1 w p 0 0 [9] 0 0 t b2 ck vs vw vd) (ha : t.acts = [(4, 0), (5, 0), (5, 0)]) (ht : t.told = []) :
    Calls Try.prog 26 #[.pointer (some ⟨p, 0, none⟩), .int .i64 9] w fun r w' => r = .returned (.int .i64 3) ∧ ∃ t' vd', t'.q = t.q ∧ t'.told = [3, 9, mixI 1] ∧ L1 w' p 3 3 [] 1 (-1) t' b2 ck vs vw vd' ∧ Below p w w' := by
  have hpw : p ≤ w.heap.size := Nat.le_of_lt (Array.getElem?_eq_some_iff.1 h.hp).1
  have N1 : Hid (Calls Try.prog 13 #[.pointer (some ⟨p, 0, none⟩)] w fun r w' => r = .returned (.tuple #[.int .i64 0, .bool true]) ∧ ∃ t', t'.q = t.q ∧ t'.acts = [(5, 0), (5, 0)] ∧ t'.told = [3] ∧ L1 w' p 1 3 [9] 0 0 t' b2 ck vs vw vd ∧ Below p w w') := by
    refine (next_l1 h (fun W w' => ∃ t', t'.q = t.q ∧ t'.acts = [(5, 0), (5, 0)] ∧ t'.told = [3] ∧ L1 w' p 1 3 [9] 0 0 t' b2 ck vs vw vd ∧ Below p W w') (fun W hB => ?_)).mono ?_
    · refine (l1_now p 0 0 0 [9] 0 t [(5, 0), (5, 0)] b2 ck vs vw vd W (h.below hB) (by omega) (by omega) (by omega) ha (by simp) (by rw [ht]; simp)).mono ?_
      rintro r w' ⟨rfl, t', h1, h2, h3, h4, h5⟩
      exact ⟨rfl, t', h1, h2, by rw [h3, ht]; rfl, h4, h5⟩
    · rintro r w' ⟨rfl, W, hB, t', h1, h2, h3, h4, h5⟩
      exact ⟨rfl, t', h1, h2, h3, h4, (hB.mono hpw).trans h5⟩
  have N2 : Hid (∀ (w1 : World) (t1 : Tk) (vd1 : Value), L1 w1 p 1 3 [9] 0 0 t1 b2 ck vs vw vd1 → t1.q = t.q → t1.acts = [(5, 0), (5, 0)] → t1.told = [3] → Calls Try.prog 13 #[.pointer (some ⟨p, 0, none⟩)] w1 fun r w' => r = .returned (.tuple #[.int .i64 0, .bool true]) ∧ ∃ t' vd', t'.q = t.q ∧ t'.acts = [(5, 0)] ∧ t'.told = [3, 9] ∧ L1 w' p 2 3 [] 0 0 t' b2 ck vs vw vd' ∧ Below p w1 w') := fun w1 t1 vd1 h1 hq1 ha1 ht1 => by
    have hpw1 : p ≤ w1.heap.size := Nat.le_of_lt (Array.getElem?_eq_some_iff.1 h1.hp).1
    refine (next_l1 h1 (fun W w' => ∃ t' vd', t'.q = t.q ∧ t'.acts = [(5, 0)] ∧ t'.told = [3, 9] ∧ L1 w' p 2 3 [] 0 0 t' b2 ck vs vw vd' ∧ Below p W w') (fun W hB => ?_)).mono ?_
    · refine (l1_draw p 1 3 0 [9] 0 t1 [(5, 0)] b2 ck vs vw vd1 W (h1.below hB) (by omega) (by omega) (by omega) ha1 (by simp) (by rw [ht1]; simp) (by simp) (by omega)).mono ?_
      rintro r w' ⟨rfl, t', vd', e1, e2, e3, e4, e5⟩
      exact ⟨rfl, t', vd', by rw [e1, hq1], e2, by rw [e3, ht1]; rfl, e4, e5⟩
    · rintro r w' ⟨rfl, W, hB, t', vd', e1, e2, e3, e4, e5⟩
      exact ⟨rfl, t', vd', e1, e2, e3, e4, (hB.mono hpw1).trans e5⟩
  have N3 : Hid (∀ (w1 : World) (t1 : Tk) (vd1 : Value), L1 w1 p 2 3 [] 0 0 t1 b2 ck vs vw vd1 → t1.q = t.q → t1.acts = [(5, 0)] → t1.told = [3, 9] → Calls Try.prog 13 #[.pointer (some ⟨p, 0, none⟩)] w1 fun r w' => r = .returned (.tuple #[.int .i64 0, .bool true]) ∧ ∃ t' vd', t'.q = t.q ∧ t'.told = [3, 9, mixI 1] ∧ L1 w' p 3 3 [] 1 (-1) t' b2 ck vs vw vd' ∧ Below p w1 w') := fun w1 t1 vd1 h1 hq1 ha1 ht1 => by
    have hpw1 : p ≤ w1.heap.size := Nat.le_of_lt (Array.getElem?_eq_some_iff.1 h1.hp).1
    refine (next_l1 h1 (fun W w' => ∃ t' vd', t'.q = t.q ∧ t'.told = [3, 9, mixI 1] ∧ L1 w' p 3 3 [] 1 (-1) t' b2 ck vs vw vd' ∧ Below p W w') (fun W hB => ?_)).mono ?_
    · refine (l1_draw p 2 3 0 [] 0 t1 [] b2 ck vs vw vd1 W (h1.below hB) (by omega) (by omega) (by omega) ha1 (by simp) (by rw [ht1]; simp) (by simp) (by omega)).mono ?_
      rintro r w' ⟨rfl, t', vd', e1, e2, e3, e4, e5⟩
      exact ⟨rfl, t', vd', by rw [e1, hq1], by rw [e3, ht1]; rfl, e4, e5⟩
    · rintro r w' ⟨rfl, W, hB, t', vd', e1, e2, e3, e4⟩
      exact ⟨rfl, t', vd', e1, e2, e3, (hB.mono hpw1).trans e4⟩
  clear h ha ht
  go_enter Try.func26, Try.ntmps26
  go_wp2_with fail
  refine wp_loop_rounds 4 ?_
  rw [rounds_succ]
  go_wp2_with fail
  refine Calls.mono N1.out ?_
  rintro e w1 ⟨rfl, t1, q1, a1, o1, h1, b1⟩
  have M2 : Hid _ := N2.out w1 t1 vd h1 q1 a1 o1
  have B1 : Hid _ := b1
  clear q1 a1 o1 h1 b1
  go_wp2_with fail
  rw [rounds_succ]
  go_wp2_with fail
  refine Calls.mono M2.out ?_
  rintro e w2 ⟨rfl, t2, vd2, q2, a2, o2, h2, b2'⟩
  have M3 : Hid _ := N3.out w2 t2 vd2 h2 q2 a2 o2
  have B2 : Hid (Below p w w2) := B1.out.trans b2'
  clear q2 a2 o2 h2 b2'
  go_wp2_with fail
  rw [rounds_succ]
  go_wp2_with fail
  refine Calls.mono M3.out ?_
  rintro e w3 ⟨rfl, t3, vd3, q3, o3, h3, b3⟩
  have H3 : Hid (t3.q = t.q ∧ t3.told = [3, 9, mixI 1] ∧ L1 w3 p 3 3 [] 1 (-1) t3 b2 ck vs vw vd3 ∧ Below p w w3) := ⟨q3, o3, h3, B2.out.trans b3⟩
  have M4 : Hid _ := next_gone h3
  have hpw3 : p ≤ w3.heap.size := Nat.le_of_lt (Array.getElem?_eq_some_iff.1 h3.hp).1
  clear q3 o3 h3 b3
  go_wp2_with fail
  rw [rounds_succ]
  go_wp2_with fail
  refine Calls.mono M4.out ?_
  rintro e w4 ⟨rfl, b4⟩
  have B4 : Hid _ := b4
  clear b4
  go_wp2_with fail
  go_ret
  obtain ⟨e1, e2, e3, e4⟩ := H3.out
  exact ⟨rfl, t3, vd3, e1, e2, e3.below B4.out, e4.trans (Below.mono B4.out hpw3)⟩
section
variable {w : World} {p st : Nat} {now : Int} {draws : List Int} {fu : Nat} {t : Tk} {b2 ck : Nat} {vs vw vd : Value}
/-- What was told, of a task that took three numbers down. -/
theorem told_three (h : TkAt (p + 1) w t) (x y z : Int) (ht : t.told = [x, y, z]) : Calls Try.prog 30 #[.pointer (some ⟨t.q, 0, none⟩)] w fun r w' => ∃ g c, r = .returned (.slice (some ⟨g, 0, none⟩) 3 c) ∧ w'.cell? ⟨g, 0, none⟩ = some (.int .u64 x) ∧ w'.cell? ⟨g, 1, none⟩ = some (.int .u64 y) ∧ w'.cell? ⟨g, 2, none⟩ = some (.int .u64 z) ∧ Below w.heap.size w w' := by
  have ho := h.told
  rw [ht] at ho
  obtain ⟨a, c, e⟩ := row_form ho
  rw [e] at ho
  obtain ⟨g, rfl, _, hc0⟩ := row_cell ho (j := 0) (x := nV x) rfl
  have hg : g < w.heap.size := World.block_lt_of_cell? w _ hc0
  have HC : Hid (Calls Try.prog 47 #[.slice (some ⟨g, 0, none⟩) 3 c] w fun r w' => ∃ g c, r = .returned (.slice (some ⟨g, 0, none⟩) 3 c) ∧ w'.cell? ⟨g, 0, none⟩ = some (.int .u64 x) ∧ w'.cell? ⟨g, 1, none⟩ = some (.int .u64 y) ∧ w'.cell? ⟨g, 2, none⟩ = some (.int .u64 z) ∧ Below w.heap.size w w') := by
    refine (clone23_some ⟨g, 0, none⟩ 3 c [nV x, nV y, nV z] w (fun j u hj => ho.cells (g := g) rfl j u hj) hg rfl (by simp [nV, Value.oneCell']) (by decide)).mono ?_
    rintro r w' ⟨g', cap, rfl, _, ho', hB⟩
    obtain ⟨_, e0, _, h0⟩ := row_cell ho' (j := 0) (x := nV x) rfl
    obtain ⟨_, e1, _, h1⟩ := row_cell ho' (j := 1) (x := nV y) rfl
    obtain ⟨_, e2, _, h2⟩ := row_cell ho' (j := 2) (x := nV z) rfl
    cases e0
    cases e1
    cases e2
    exact ⟨g', cap, rfl, h0, h1, h2, hB⟩
  have cq : w.cell? ⟨t.q, 1, none⟩ = some (.slice (some ⟨g, 0, none⟩) 3 c) := by
    have := cells_of_block h.hq 1
    rw [e] at this
    simpa using this
  clear h ho e hc0
  go_enter Try.func30, Try.ntmps30
  go_wp2_with fail
  refine (HC.out).mono ?_
  rintro r w1 ⟨g', c', rfl, h0, h1, h2, hB⟩
  go_wp2_with fail
  go_ret
  exact ⟨g', c', rfl, h0, h1, h2, hB⟩
theorem done_gone (h : L1 w p st now draws fu (-1) t b2 ck vs vw vd) : Calls Try.prog 27 #[.pointer (some ⟨p, 0, none⟩)] w fun r w' => r = .returned (.bool true) ∧ Below w.heap.size w w' := by
  obtain ⟨aw, cw, e⟩ := row_form h.waits
  have hw := h.waits
  rw [e] at hw
  obtain ⟨g, rfl, _, hc0⟩ := row_cell hw (j := 0) (x := iV (-1)) rfl
  have hg : g < w.heap.size := World.block_lt_of_cell? w _ hc0
  have c3 : w.cell? ⟨p, 3, none⟩ = some (.slice (some ⟨g, 0, none⟩) 1 cw) := by
    have := cells_of_block h.hp 3
    rw [e] at this
    simpa using this
  have HC : Hid (Calls Try.prog 42 #[.slice (some ⟨g, 0, none⟩) 1 cw] w fun r w' => ∃ g c, r = .returned (.slice (some ⟨g, 0, none⟩) 1 c) ∧ w'.cell? ⟨g, 0, none⟩ = some (.int .i64 (-1)) ∧ Below w.heap.size w w') := by
    refine (clone22_some ⟨g, 0, none⟩ 1 cw [iV (-1)] w (fun j u hj => hw.cells (g := g) rfl j u hj) hg rfl (by simp [iV, Value.oneCell']) (by decide)).mono ?_
    rintro r w' ⟨g', cap, rfl, _, ho', hB⟩
    obtain ⟨_, e0, _, h0⟩ := row_cell ho' (j := 0) (x := iV (-1)) rfl
    cases e0
    exact ⟨g', cap, rfl, h0, hB⟩
  have HW : Hid (Calls Try.prog 16 #[.pointer (some ⟨p, 0, none⟩)] w fun r w' => ∃ g c, r = .returned (.slice (some ⟨g, 0, none⟩) 1 c) ∧ w'.cell? ⟨g, 0, none⟩ = some (.int .i64 (-1)) ∧ Below w.heap.size w w') := by
    clear h hw e hc0
    go_enter Try.func16, Try.ntmps16
    go_wp2_with fail
    refine (HC.out).mono ?_
    rintro r w1 ⟨g', c', rfl, h0, hB⟩
    go_wp2_with fail
    go_ret
    exact ⟨g', c', rfl, h0, hB⟩
  clear h hw e hc0 HC c3
  go_enter Try.func27, Try.ntmps27
  go_wp2_with fail
  refine (HW.out).mono ?_
  rintro r w1 ⟨g', c', rfl, h0, hB⟩
  go_wp2_with fail
  refine wp_loop_rounds 2 ?_
  rw [rounds_succ]
  go_wp2_with fail
  rw [rounds_succ]
  go_wp2_with fail
  go_ret
  exact ⟨rfl, hB⟩
end
end Go.Proofs.Ytefmhghdehokcaa
