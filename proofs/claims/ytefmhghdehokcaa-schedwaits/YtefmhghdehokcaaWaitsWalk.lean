/-
  The walk of SchedWaits: whatever the channels and picks, the call returns true, and turns nothing that was there.
-/
import Derived.Test.YtefmhghdehokcaaBoth
namespace Go.Proofs.Ytefmhghdehokcaa
open Go.RowKit
/-- A task that waits, and one that goes on. -/
def WInv (w : World) (p : Nat) (ch : Int) (i : Nat) : Prop := ∃ S t0 t1 d, LA w p S ∧ S.tks = [t0, t1] ∧ S.waits = [ch, 0] ∧ S.ticks = [] ∧ S.now = 0 ∧ S.steps ≤ 1 + i ∧ d ≤ i ∧ t1.acts = List.replicate (300 - d) ((0 : Int), (0 : Int))
theorem ready_w {ch : Int} (h : 1 ≤ ch) : readyL [ch, 0] = [1] := by
  have h0 : (ch == 0) = false := by simp; omega
  simp [readyL, readyTo, List.range_succ, h0]
theorem WInv.below {w w' : World} {p i : Nat} {ch : Int} (h : WInv w p ch i) (k : Below w.heap.size w w') : WInv w' p ch i := by
  obtain ⟨S, t0, t1, d, h1, h2⟩ := h
  exact ⟨S, t0, t1, d, h1.below k, h2⟩
theorem WInv.ps {w : World} {p i : Nat} {ch : Int} (h : WInv w p ch i) : p < w.heap.size := by
  obtain ⟨S, t0, t1, d, h1, h2⟩ := h
  exact h1.ps
theorem wstep (p i : Nat) (ch pick : Int) (w : World) (h : WInv w p ch i) (hi : i < 200) (hch : 1 ≤ ch) :
    Calls Try.prog 18 #[.pointer (some ⟨p, 0, none⟩), .int .i64 pick] w fun r w' => r = .returned (.tuple #[.int .i64 (if 0 ≤ pick then 1 else 0), .bool (decide (0 ≤ pick))]) ∧ WInv w' p ch (i + 1) ∧ Lv p w w' := by
  obtain ⟨S, t0, t1, d, hL, htk, hwt, htc, hnow, hst, hd, hacts⟩ := h
  have hlen : S.tks.length = 2 := by rw [htk]; rfl
  by_cases hneg : pick < 0
  · refine (step_neg p pick S w hL (by omega) hneg).mono ?_
    rintro r w' ⟨rfl, b⟩
    refine ⟨by rw [if_neg (by omega), decide_eq_false (by omega)], ⟨S, t0, t1, d, hL.below b, htk, hwt, htc, hnow, by omega, by omega, hacts⟩, Lv.of_below b (Nat.le_of_lt hL.ps)⟩
  · have hr : readyL S.waits = [1] := by rw [hwt]; exact ready_w hch
    have ha : t1.acts = (0, 0) :: List.replicate (299 - d) ((0 : Int), (0 : Int)) := by
      rw [hacts, show 300 - d = (299 - d) + 1 by omega, List.replicate_succ]
    have := la_step p 1 0 pick S t1 (List.replicate (299 - d) (0, 0)) (decide ((List.replicate (299 - d) ((0 : Int), (0 : Int))).length = 0)) 0 w hL (by omega) (by omega) (by omega) (by rw [hr]; simp [Int.tmod_one]) (by rw [hr]; rfl) (by rw [htk]; rfl)
      (by rw [htc]; intro x hx; simp at hx) (by omega) (by omega)
      (fun W1 cs h1 h2 => task_go p t1 0 0 _ cs W1 h1 ha (by rw [List.length_replicate]; omega) (by decide) (by decide) (by decide) (by decide) h2)
    refine this.mono ?_
    rintro r w' ⟨rfl, t', h1, h2, h3, h4, h5⟩
    have hdn : decide ((List.replicate (299 - d) ((0 : Int), (0 : Int))).length = 0) = false := decide_eq_false (by rw [List.length_replicate]; omega)
    rw [hdn] at h4
    refine ⟨by rw [if_pos (by omega), decide_eq_true (by omega)]; rfl, ⟨_, t0, t', d + 1, h4, ?_, ?_, htc, ?_, ?_, by omega, ?_⟩, hL.lv h5⟩
    · show S.tks.set 1 t' = _
      rw [htk]; rfl
    · show S.waits.set 1 _ = _
      rw [hwt]; rfl
    · show clockI S.ticks S.steps S.now = 0
      rw [htc, hnow]; rfl
    · show S.steps + 1 ≤ _
      omega
    · rw [h2, show 300 - (d + 1) = 299 - d by omega]
theorem wwake (p : Nat) (ch other : Int) (w : World) (h : WInv w p ch 0) (hne : other ≠ ch) :
    Calls Try.prog 20 #[.pointer (some ⟨p, 0, none⟩), .int .i64 other] w fun r w' => r = .returned (.int .i64 0) ∧ WInv w' p ch 0 ∧ Lv p w w' := by
  obtain ⟨S, t0, t1, d, hL, htk, hwt, hrest⟩ := h
  refine (la_wake p other S w hL (by rw [htk]; show 2 ≤ 100; decide)).mono ?_
  rintro r w' ⟨rfl, h1, k⟩
  have e0 : other = 0 → chanB other = false := fun e => by rw [e]; rfl
  have hN : wakeN other S.waits = 0 := by
    rw [hwt]
    unfold wakeN
    split
    · rename_i hc
      have h0 : other ≠ 0 := fun e => by rw [e0 e] at hc; cases hc
      have e1 : (ch == other) = false := by simp; omega
      have e2 : ((0 : Int) == other) = false := by simp; omega
      simp [e1, e2]
    · rfl
  have hW : wakeL other S.waits = [ch, 0] := by
    rw [hwt]
    unfold wakeL
    split
    · rename_i hc
      have h0 : other ≠ 0 := fun e => by rw [e0 e] at hc; cases hc
      simp [wk, show ch ≠ other by omega]
    · rfl
  exact ⟨by rw [hN]; rfl, ⟨_, t0, t1, d, h1, htk, hW, hrest⟩, hL.lv (k.mono (fun b e => Or.inr (Or.inr (Or.inl e))))⟩
theorem wend (p i : Nat) (ch : Int) (w : World) (h : WInv w p ch i) (hch : 1 ≤ ch) (hch2 : ch ≤ 1024) :
    Calls Try.prog 16 #[.pointer (some ⟨p, 0, none⟩)] w (fun r w' => ∃ a c, r = .returned (.slice a 2 c) ∧ VA w'.heap.size w' a ([ch, 0].map iV) ∧ Below w.heap.size w w') ∧
    Calls Try.prog 20 #[.pointer (some ⟨p, 0, none⟩), .int .i64 ch] w (fun r w' => r = .returned (.int .i64 1) ∧ Lv p w w' ∧ p < w'.heap.size ∧ ∀ w2, Below w'.heap.size w' w2 → Calls Try.prog 19 #[.pointer (some ⟨p, 0, none⟩)] w2 (fun r w' => ∃ a c, r = .returned (.slice a 2 c) ∧ VA w'.heap.size w' a ([(0 : Int), 1].map iV) ∧ Below w2.heap.size w2 w')) := by
  obtain ⟨S, t0, t1, d, hL, htk, hwt, hrest⟩ := h
  have hlen : S.tks.length = 2 := by rw [htk]; rfl
  constructor
  · have := la_waits p S w hL (by omega)
    rw [hwt] at this
    exact this
  · refine (la_wake p ch S w hL (by omega)).mono ?_
    rintro r w' ⟨rfl, h1, k⟩
    have hc : chanB ch = true := by simp [chanB, hch, hch2]
    have hN : wakeN ch S.waits = 1 := by
      rw [hwt]
      have e2 : ((0 : Int) == ch) = false := by simp; omega
      simp [wakeN, hc, e2]
    have hW : wakeL ch S.waits = [0, 0] := by
      rw [hwt]
      simp [wakeL, hc, wk]
    refine ⟨by rw [hN]; rfl, hL.lv (k.mono (fun b e => Or.inr (Or.inr (Or.inl e)))), h1.ps, fun w2 k2 => ?_⟩
    have := la_ready p _ w2 (h1.below k2) (by show S.tks.length ≤ 100; omega)
    rw [show ({ S with waits := wakeL ch S.waits } : LS).waits = [0, 0] from hW] at this
    exact this
theorem arg_nil (w : World) : Arg w none 0 0 [] := ⟨rfl, VA.nil _ _ _, Nat.le_refl _, fun _ => rfl⟩
theorem acts_w {w : World} {g : Nat} {ch : Int} {f : Nat × Nat} (h : w.heap[g]? = some (.cells #[.int .i64 2, .int .i64 ch, .int .i64 4, .int .i64 0, .int .i64 1, .int .i64 0] 54 f)) : ∀ j x, [((2 : Int), ch), (4, 0), (1, 0)][j]? = some x → w.cell? ⟨g, 2 * j, none⟩ = some (.int .i64 x.1) ∧ w.cell? ⟨g, 2 * j + 1, none⟩ = some (.int .i64 x.2) := by
  intro j x hj
  have hl := (List.getElem?_eq_some_iff.1 hj).1
  have c := cells_of_block h
  match j, hl, hj with
  | 0, _, hj => simp at hj; subst hj; exact ⟨by rw [c]; rfl, by rw [c]; rfl⟩
  | 1, _, hj => simp at hj; subst hj; exact ⟨by rw [c]; rfl, by rw [c]; rfl⟩
  | 2, _, hj => simp at hj; subst hj; exact ⟨by rw [c]; rfl, by rw [c]; rfl⟩
  | j + 3, hl, _ => simp at hl; omega
theorem VA.grow {B : Nat} {w w' : World} {a : Option Addr} {vs : List Value} (h : VA B w a vs) (hB : B ≤ w.heap.size) (k : Below w.heap.size w w') : VA w'.heap.size w' a vs := by
  intro j v hj
  obtain ⟨b, off, h1, h2, h3⟩ := (h.below (fun b hb => k.block b (by omega))) j v hj
  exact ⟨b, off, h1, by have := k.size; omega, h3⟩
theorem va_two (w : World) (x y : Int) : VA (w.alloc (.cells #[.int .i64 x, .int .i64 y] 3)).heap.size (w.alloc (.cells #[.int .i64 x, .int .i64 y] 3)) (some ⟨w.heap.size, 0, none⟩) ([x, y].map iV) := by
  intro j v hj
  have c := cells_of_block (World.alloc_heap_new w (.cells #[.int .i64 x, .int .i64 y] 3))
  have hl := (List.getElem?_eq_some_iff.1 hj).1
  refine ⟨w.heap.size, 0, rfl, by simp, ?_⟩
  match j, hl, hj with
  | 0, _, hj => simp at hj; subst hj; rw [c]; rfl
  | 1, _, hj => simp at hj; subst hj; rw [c]; rfl
  | j + 2, hl, _ => simp at hl; omega
/-- sameInts of a row and two numbers that were just laid. -/
theorem same_two (a : Option Addr) (c : Nat) (x y : Int) (ps : List Int) (w : World) (h : VA w.heap.size w a (ps.map iV)) (hl : ps.length = 2) :
    Calls Try.prog 15 #[.slice a 2 c, .slice (some ⟨w.heap.size, 0, none⟩) 2 2] (w.alloc (.cells #[.int .i64 x, .int .i64 y] 3)) fun r w' => r = .returned (.bool (decide (ps = [x, y]))) ∧ Below w.heap.size w w' := by
  have A : Below w.heap.size w (w.alloc (.cells #[.int .i64 x, .int .i64 y] 3)) := (Below.refl _ _).alloc (Nat.le_refl _) _
  have := same_any _ a (some ⟨w.heap.size, 0, none⟩) c 2 ps [x, y] (w.alloc (.cells #[.int .i64 x, .int .i64 y] 3)) (h.grow (Nat.le_refl _) A) (va_two w x y) (by omega)
  rw [hl] at this
  refine this.mono ?_
  rintro r w' ⟨rfl, q, rfl⟩
  exact ⟨rfl, A.trans ((belD _ q).mono (by simp))⟩
theorem same_two' (a : Option Addr) (c : Nat) (x y : Int) (w : World) (h : VA w.heap.size w a ([x, y].map iV)) :
    Calls Try.prog 15 #[.slice a 2 c, .slice (some ⟨w.heap.size, 0, none⟩) 2 2] (w.alloc (.cells #[.int .i64 x, .int .i64 y] 3)) fun r w' => r = .returned (.bool true) ∧ Below w.heap.size w w' := by
  have := same_two a c x y [x, y] w h rfl
  rw [decide_eq_true rfl] at this
  exact this
set_option maxRecDepth 100000 in
set_option maxHeartbeats 8000000 in
theorem waits_walk (ch other : Int) (a : Option Addr) (n c : Nat) (picks : List Int) (w : World) (hv : VA w.heap.size w a (picks.map iV)) (hn : picks.length = n) :
    Calls Try.prog 6 #[.int .i64 ch, .int .i64 other, .slice a n c] w fun r w' => r = .returned (.bool true) ∧ Below w.heap.size w w' := by
  have HV : Hid _ := hv
  have HN : Hid _ := hn
  have mk : ∀ W, (Instr.makeSlice 32 (.int .i64 300) (.int .i64 300)).run Try.prog W = .ok (.slice (some ⟨W.heap.size, 0, none⟩) 300 300) (W.alloc (.cells (zA 300) 54)) := fun W => make_acts 300 (by decide) W
  clear hv hn
  go_enter Try.func6, Try.ntmps6
  go_wp2_with fail
  refine (start_both none none none 0 0 0 0 0 0 [] [] [] _ (arg_nil _) (arg_nil _) (arg_nil _) rfl).mono ?_
  rintro e w1 ⟨b, p, x, S1, rfl, a1, a2, a3, a4, a5, _, _, _, L1, hp1, B1⟩
  have HS1 : Hid (S1.tks = [] ∧ S1.waits = [] ∧ S1.ticks = [] ∧ S1.now = 0 ∧ S1.steps = 0) := ⟨a1, a2, a3, a4, a5⟩
  have HB1 : Hid _ := B1
  clear B1 a1 a2 a3 a4 a5
  go_wp2_with fail
  have A1 : Below w1.heap.size w1 (w1.alloc (.cells #[.int .i64 2, .int .i64 ch, .int .i64 4, .int .i64 0, .int .i64 1, .int .i64 0] 54)) := (Below.refl _ _).alloc (Nat.le_refl _) _
  refine (both_add b p x w1.heap.size 3 3 [(2, ch), (4, 0), (1, 0)] S1 _ (L1.below A1) (by rw [HS1.out.1]; decide) rfl (by decide) (by decide) (acts_w (World.alloc_heap_new _ _)) (by simp)).mono ?_
  rintro e w2 ⟨rfl, t0, S2, ta0, _, a1, a2, a3, a4, a5, _, _, _, L2, b2, _⟩
  have HS2 : Hid (S2.tks = [t0] ∧ S2.waits = [0] ∧ S2.ticks = [] ∧ S2.now = 0 ∧ S2.steps = 0) := by
    obtain ⟨c1, c2, c3, c4, c5⟩ := HS1.out
    exact ⟨by rw [a1, c1]; rfl, by rw [a2, c2]; rfl, by rw [a3, c3], by rw [a4, c4], by rw [a5, c5]⟩
  have HB2 : Hid (Below w.heap.size w w2) := (HB1.out.trans (A1.mono HB1.out.size)).trans (b2.mono hp1)
  have HT0 : Hid _ := ta0
  clear A1 b2 L1 ta0 HB1 a1 a2 a3 a4 a5 HS1
  go_wp2_with fail
  have A2 : Below w2.heap.size w2 (w2.alloc (.cells (zA 300) 54)) := (Below.refl _ _).alloc (Nat.le_refl _) _
  refine (both_add b p x w2.heap.size 300 300 (List.replicate 300 (0, 0)) S2 _ (L2.below A2) (by rw [HS2.out.1]; show 1 < 64; decide) (by rw [List.length_replicate]) (by decide) (by decide) (zA_acts (World.alloc_heap_new _ _)) (by simp)).mono ?_
  rintro e w3 ⟨rfl, t1, S3, ta1, _, a1, a2, a3, a4, a5, _, _, _, L3, b3, _⟩
  have HS3 : Hid (S3.tks = [t0, t1] ∧ S3.waits = [0, 0] ∧ S3.ticks = [] ∧ S3.now = 0 ∧ S3.steps = 0) := by
    obtain ⟨c1, c2, c3, c4, c5⟩ := HS2.out
    exact ⟨by rw [a1, c1]; rfl, by rw [a2, c2]; rfl, by rw [a3, c3], by rw [a4, c4], by rw [a5, c5]⟩
  have HB3 : Hid (Below w.heap.size w w3) := (HB2.out.trans (A2.mono HB2.out.size)).trans (b3.mono hp1)
  have c30 := L3.at43.cell
  have HAT3 : Hid _ := L3.at43
  have HL3 : Hid _ := L3.la
  have HT1 : Hid _ := ta1
  clear A2 b3 L3 ta1 HB2 L2 mk a1 a2 a3 a4 a5 HS2
  go_wp2_with fail
  have HST : Hid (Calls Try.prog 18 #[.pointer (some ⟨p, 0, none⟩), .int .i64 0] w3 fun r w' => r = .returned (.tuple #[.int .i64 0, .bool true]) ∧ ∃ S t0' t1', LA w' p S ∧ S.tks = [t0', t1'] ∧ S.waits = [restI false ch, 0] ∧ S.ticks = [] ∧ S.now = 0 ∧ S.steps = 1 ∧ t1'.acts = List.replicate 300 ((0 : Int), (0 : Int)) ∧ Lv p w3 w') := by
    have hL := HL3.out
    obtain ⟨c1, c2, c3, c4, c5⟩ := HS3.out
    have hr : readyL S3.waits = [0, 1] := by rw [c2]; decide
    have := la_step p 0 0 0 S3 t0 [(4, 0), (1, 0)] (decide ([((4 : Int), (0 : Int)), (1, 0)].length = 0)) (if [((4 : Int), (0 : Int)), (1, 0)].length = 0 then 0 else ch) w3 hL (by rw [c1]; show 2 ≤ 100; decide) (by rw [c5]; decide) (by decide) (by simp) (by rw [hr]; rfl) (by rw [c1]; rfl)
      (by rw [c3]; intro x hx; simp at hx) (by rw [c4]; decide) (by rw [c4]; decide)
      (fun W1 cs h1 h2 => task_wait p t0 ch [(4, 0), (1, 0)] cs W1 h1 HT0.out (by decide) h2)
    refine this.mono ?_
    rintro r w' ⟨rfl, t', h1, h2, h3, h4, h5⟩
    exact ⟨rfl, _, t', t1, h4, by show S3.tks.set 0 t' = _; rw [c1]; rfl, by show S3.waits.set 0 _ = _; rw [c2]; rfl, c3, by show clockI S3.ticks S3.steps S3.now = 0; rw [c3, c4, c5]; rfl, by show S3.steps + 1 = 1; rw [c5], HT1.out, hL.lv h5⟩
  refine Calls.mono HST.out ?_
  rintro e w4 ⟨rfl, S, t0', t1', L4, hs1, hs2, hs3, hs4, hs5, hs6, v4⟩
  have HB4 : Hid (Below w.heap.size w w4) := HB3.out.trans (v4.bel.mono hp1)
  have HAT4 : Hid (At43 w4 b p) := At43.lv HAT3.out v4
  have c40 := At43.cell HAT4.out
  have hS2 : S.tks.length = 2 := by rw [hs1]; rfl
  by_cases hch : 1 ≤ ch ∧ ch ≤ 1024
  · have hW : WInv w4 p ch 0 := by
      have hr : restI false ch = ch := by simp [restI, chanB, hch.1, hch.2]
      rw [hr] at hs2
      exact ⟨S, t0', t1', 0, L4, hs1, hs2, hs3, hs4, by omega, Nat.le_refl _, hs6⟩
    obtain ⟨hc1, hc2⟩ := hch
    have HW4 : Hid _ := hW
    clear L4 hs1 hs2 hs3 hs4 hs5 hs6 v4 hS2 HST HL3 HS3 HT0 HT1 HB3 HAT3 c30 hW
    have d1 : decide (ch < 1) = false := decide_eq_false (by omega)
    have d2 : decide (1024 < ch) = false := decide_eq_false (by omega)
    by_cases ho : other = ch
    case' pos =>
      have ho' : (other != ch) = false := by simpa using ho
      have ho2 : (other == ch) = true := by simpa using ho
      clear ho
      obtain ⟨w5, hw5⟩ : ∃ w5, w5 = w4 := ⟨_, rfl⟩
      have HB5 : Hid (Below w.heap.size w w5) := by rw [hw5]; exact HB4.out
      have HAT5 : Hid (At43 w5 b p) := by rw [hw5]; exact HAT4.out
      have HW5 : Hid (WInv w5 p ch 0) := by rw [hw5]; exact HW4.out
      rw [← hw5]
      clear hw5 HB4 HAT4 c40 HW4
      go_wp2_with fail
    case' neg =>
      have ho' : (other != ch) = true := by simpa using ho
      have ho2 : (other == ch) = false := by simpa using ho
      have HWK : Hid (Calls Try.prog 20 #[.pointer (some ⟨p, 0, none⟩), .int .i64 other] w4 fun r w' => r = .returned (.int .i64 0) ∧ WInv w' p ch 0 ∧ Lv p w4 w') := wwake p ch other w4 HW4.out ho
      clear ho
      go_wp2_with fail
      refine Calls.mono HWK.out ?_
      rintro e w5 ⟨rfl, hW5, v5⟩
      have HB5 : Hid (Below w.heap.size w w5) := HB4.out.trans (v5.bel.mono hp1)
      have HAT5 : Hid (At43 w5 b p) := At43.lv HAT4.out v5
      have HW5 : Hid (WInv w5 p ch 0) := hW5
      clear hW5 v5 HB4 HAT4 c40 HW4 HWK
      go_wp2_with fail
    all_goals
      clear ho' ho2
      go_loopw [11] (fun i wr => ∃ k : Nat, k ≤ 200 ∧ i = .int .i64 k ∧ Hid (WInv wr p ch k) ∧ Hid (At43 wr b p) ∧ Hid (Below w.heap.size w wr)) (fun i _ => 200 - (intOf i).toNat)
      case atStart => exact ⟨0, by omega, rfl, HW5.out, HAT5.out, HB5.out⟩
      case round =>
        clear HW5 HAT5 HB5
        obtain ⟨k, hk, rfl, HWk, HAk, HBk⟩ := hrel
        by_cases hkn : k < n
        · by_cases hk2 : k < 200
          · obtain ⟨x, hx⟩ : ∃ x, picks[k]? = some x := ⟨picks[k]'(by rw [HN.out]; exact hkn), List.getElem?_eq_getElem _⟩
            obtain ⟨g, og, rfl, hg, x0⟩ := HV.out k (iV x) (by rw [List.getElem?_map, hx]; rfl)
            rw [iV] at x0
            have xk : wr.cell? ⟨g, og + k, none⟩ = some (.int .i64 x) := (HBk.out.cell (p := ⟨g, og + k, none⟩) hg).trans x0
            have ck := At43.cell HAk.out
            have HX0 : Hid _ := x0
            by_cases hx0 : 0 ≤ x
            · have HS : Hid (Calls Try.prog 18 #[.pointer (some ⟨p, 0, none⟩), .int .i64 x] wr.drew fun r w' => r = .returned (.tuple #[.int .i64 1, .bool true]) ∧ WInv w' p ch (k + 1) ∧ Lv p wr.drew w') := by
                have := wstep p k ch x wr.drew (WInv.below HWk.out (Below.refl _ _).drew) hk2 hc1
                rw [if_pos hx0, decide_eq_true hx0] at this
                exact this
              have dx : decide (0 ≤ x) = true := decide_eq_true hx0
              clear hx x0
              go_wp2_with fail
              go_region_with (go_at_call 18; refine Calls.mono HS.out ?_; rintro e w6 ⟨rfl, hW6, v6⟩)
              all_goals
                have HB6 : Hid (Below w.heap.size w w6) := HBk.out.drew.trans (v6.bel.mono hp1)
                have HA6 : Hid (At43 w6 b p) := At43.lv (At43.below HAk.out (Below.refl _ _).drew) v6
                have x6 : w6.cell? ⟨g, og + k, none⟩ = some (.int .i64 x) := (HB6.out.cell (p := ⟨g, og + k, none⟩) hg).trans HX0.out
                have HW6 : Hid (WInv w6 p ch (k + 1)) := hW6
                clear hW6 v6 HS HWk HAk HBk xk ck
                go_wp2_with fail
                go_roundw
                case rel => exact ⟨k + 1, by omega, by go_num, HW6.out, HA6.out, HB6.out⟩
                case measure => simp [intOf]; omega
            · have HS : Hid (Calls Try.prog 18 #[.pointer (some ⟨p, 0, none⟩), .int .i64 x] wr.drew fun r w' => r = .returned (.tuple #[.int .i64 0, .bool false]) ∧ WInv w' p ch (k + 1) ∧ Lv p wr.drew w') := by
                have := wstep p k ch x wr.drew (WInv.below HWk.out (Below.refl _ _).drew) hk2 hc1
                rw [if_neg hx0, decide_eq_false hx0] at this
                exact this
              have dx : decide (0 ≤ x) = false := decide_eq_false hx0
              clear hx x0
              go_wp2_with fail
              go_region_with (go_at_call 18; refine Calls.mono HS.out ?_; rintro e w6 ⟨rfl, hW6, v6⟩)
              all_goals
                have HB6 : Hid (Below w.heap.size w w6) := HBk.out.drew.trans (v6.bel.mono hp1)
                have HA6 : Hid (At43 w6 b p) := At43.lv (At43.below HAk.out (Below.refl _ _).drew) v6
                have x6 : w6.cell? ⟨g, og + k, none⟩ = some (.int .i64 x) := (HB6.out.cell (p := ⟨g, og + k, none⟩) hg).trans HX0.out
                have HW6 : Hid (WInv w6 p ch (k + 1)) := hW6
                clear hW6 v6 HS HWk HAk HBk xk ck
                go_wp2_with fail
                go_roundw
                case rel => exact ⟨k + 1, by omega, by go_num, HW6.out, HA6.out, HB6.out⟩
                case measure => simp [intOf]; omega
          · obtain rfl : k = 200 := by omega
            have HE1 : Hid _ := (wend p _ ch wr HWk.out hc1 hc2)
            have ck := At43.cell HAk.out
            go_wp2_with fail
            refine Calls.mono HE1.out.1 ?_
            rintro e w6 ⟨a6, c6, rfl, va6, b6⟩
            go_wp2_with fail
            refine (same_two' a6 c6 ch 0 w6 va6).mono ?_
            rintro e w7 ⟨rfl, b7⟩
            have B7 : Below wr.heap.size wr w7 := b6.trans (b7.mono b6.size)
            have c7 := At43.cell (At43.below HAk.out B7)
            have HW7 : Hid _ := wend p _ ch w7 (WInv.below HWk.out B7) hc1 hc2
            have HA7 : Hid (At43 w7 b p) := At43.below HAk.out B7
            have HB7 : Hid (Below w.heap.size w w7) := HBk.out.trans (B7.mono HBk.out.size)
            clear va6 b6 b7 B7 HE1 ck HWk HAk HBk
            go_wp2_with fail
            refine Calls.mono HW7.out.2 ?_
            rintro e w8 ⟨rfl, v8, hp8, hR⟩
            have c8 := At43.cell (At43.lv HA7.out v8)
            have HB8 : Hid (Below w.heap.size w w8) := HB7.out.trans (v8.bel.mono hp1)
            have HR8 : Hid _ := hR w8 (Below.refl _ _)
            clear v8 hR HW7 HA7 HB7 c7
            go_wp2_with fail
            refine Calls.mono HR8.out ?_
            rintro e w9 ⟨a9, c9, rfl, va9, b9⟩
            go_wp2_with fail
            refine (same_two' a9 c9 0 1 w9 va9).mono ?_
            rintro e w10 ⟨rfl, b10⟩
            go_wp2_with fail
            go_ret
            exact ⟨rfl, (HB8.out.trans (b9.mono HB8.out.size)).trans (b10.mono (by have := HB8.out.size; have := b9.size; omega))⟩
        · have HE1 : Hid _ := (wend p _ ch wr HWk.out hc1 hc2)
          have ck := At43.cell HAk.out
          go_wp2_with fail
          refine Calls.mono HE1.out.1 ?_
          rintro e w6 ⟨a6, c6, rfl, va6, b6⟩
          go_wp2_with fail
          refine (same_two' a6 c6 ch 0 w6 va6).mono ?_
          rintro e w7 ⟨rfl, b7⟩
          have B7 : Below wr.heap.size wr w7 := b6.trans (b7.mono b6.size)
          have c7 := At43.cell (At43.below HAk.out B7)
          have HW7 : Hid _ := wend p _ ch w7 (WInv.below HWk.out B7) hc1 hc2
          have HA7 : Hid (At43 w7 b p) := At43.below HAk.out B7
          have HB7 : Hid (Below w.heap.size w w7) := HBk.out.trans (B7.mono HBk.out.size)
          clear va6 b6 b7 B7 HE1 ck HWk HAk HBk
          go_wp2_with fail
          refine Calls.mono HW7.out.2 ?_
          rintro e w8 ⟨rfl, v8, hp8, hR⟩
          have c8 := At43.cell (At43.lv HA7.out v8)
          have HB8 : Hid (Below w.heap.size w w8) := HB7.out.trans (v8.bel.mono hp1)
          have HR8 : Hid _ := hR w8 (Below.refl _ _)
          clear v8 hR HW7 HA7 HB7 c7
          go_wp2_with fail
          refine Calls.mono HR8.out ?_
          rintro e w9 ⟨a9, c9, rfl, va9, b9⟩
          go_wp2_with fail
          refine (same_two' a9 c9 0 1 w9 va9).mono ?_
          rintro e w10 ⟨rfl, b10⟩
          go_wp2_with fail
          go_ret
          exact ⟨rfl, (HB8.out.trans (b9.mono HB8.out.size)).trans (b10.mono (by have := HB8.out.size; have := b9.size; omega))⟩
  · have hr : S.waits = [0, 0] := by
      have : restI false ch = 0 := by
        have : chanB ch = false := by
          unfold chanB
          by_cases h1 : 1 ≤ ch
          · simp; intro _; omega
          · simp [h1]
        simp [restI, this]
      rw [hs2, this]
    have HW : Hid (∀ W, W = w4 → Calls Try.prog 16 #[.pointer (some ⟨p, 0, none⟩)] W fun r w' => ∃ a c, r = .returned (.slice a 2 c) ∧ VA w'.heap.size w' a ([(0 : Int), 0].map iV) ∧ Below W.heap.size W w') := by
      rintro W rfl
      have := la_waits p S W L4 (by omega)
      rw [hr] at this
      exact this
    clear L4 hs1 hs2 hs3 hs4 hs5 hs6 v4 hS2 HST HL3 HS3 HT0 HT1 HB3 HAT3 c30 hr
    by_cases h1 : ch < 1
    · clear hch
      go_wp2_with fail
      refine (HW.out _ rfl).mono ?_
      rintro e w5 ⟨a5, c5, rfl, va5, b5⟩
      go_wp2_with fail
      refine (same_two' a5 c5 0 0 w5 va5).mono ?_
      rintro e w6 ⟨rfl, b6⟩
      go_wp2_with fail
      go_ret
      exact ⟨rfl, (HB4.out.trans (b5.mono HB4.out.size)).trans (b6.mono (by have := HB4.out.size; have := b5.size; omega))⟩
    · have h2 : 1024 < ch := by omega
      clear hch
      go_wp2_with fail
      refine (HW.out _ rfl).mono ?_
      rintro e w5 ⟨a5, c5, rfl, va5, b5⟩
      go_wp2_with fail
      refine (same_two' a5 c5 0 0 w5 va5).mono ?_
      rintro e w6 ⟨rfl, b6⟩
      go_wp2_with fail
      go_ret
      exact ⟨rfl, (HB4.out.trans (b5.mono HB4.out.size)).trans (b6.mono (by have := HB4.out.size; have := b5.size; omega))⟩
end Go.Proofs.Ytefmhghdehokcaa
