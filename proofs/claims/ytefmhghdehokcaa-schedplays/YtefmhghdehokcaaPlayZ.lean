/-
  One call of both.
  What both are asked when they are looked at, in one place: a loop and its twin that stand the same.
  One call of both: Run and Wake.
  The law's looks: a loop and its twin that stand the same are told to.
-/
import Derived.Test.YtefmhghdehokcaaPlay
import Derived.Deep.RegionLaw
import Derived.Deep.RegionHeld
namespace Go.Proofs.Ytefmhghdehokcaa
open Go.RowKit
theorem PX.st {w : World} {b p x lo st st' : Nat} (h : PX w b p x lo st) (hs : st ≤ st') : PX w b p x lo st' := by
  obtain ⟨va, S, T, h1, h2, h3, h4, h5⟩ := h.ex
  exact ⟨va, S, T, h1, h2, h3, h4, by omega⟩
theorem PtAt.cells {w : World} {b p x : Nat} (h : PtAt w b p x) : w.cell? ⟨b, 0, none⟩ = some (.pointer (some ⟨p, 0, none⟩)) ∧ w.cell? ⟨b, 2, none⟩ = some (.pointer (some ⟨x, 0, none⟩)) := by
  obtain ⟨va, hb⟩ := h
  exact ⟨by have := cells_of_block hb 0; simpa using this, by have := cells_of_block hb 2; simpa using this⟩
theorem PX.pt {w : World} {b p x lo st : Nat} (h : PX w b p x lo st) : PtAt w b p x := h.at43
theorem PX.lo_lt {w : World} {b p x lo st : Nat} (h : PX w b p x lo st) : lo ≤ w.heap.size := by
  obtain ⟨va, S, T, h1, _⟩ := h.ex
  have := h1.lop
  have := h1.la.ps
  omega
set_option maxRecDepth 100000 in
set_option maxHeartbeats 4000000 in
theorem does_any (lo b p x st : Nat) (kk nn : Int) (v : Value) (w : World) (h : PX w b p x lo st) (hst : st < 7000000000000000)
    (HAD : ∀ W st, Below w.heap.size w W → PX W b p x lo st → Calls Try.prog 10 #[.pointer (some ⟨b, 0, none⟩), v] W fun r w' => r = .returned (.bool true) ∧ Kb (D35 lo W) W w' ∧ PX w' b p x lo st)
    (H34 : kk = 3 ∨ kk = 4 → Calls Try.prog 11 #[.pointer (some ⟨b, 0, none⟩), .agg #[.int .i64 kk, .int .i64 nn, v]] w fun r w' => r = .returned (.bool true) ∧ Kb (fun k => lo ≤ k) w w' ∧ PX w' b p x lo (st + 1000))
    (HLK : ∀ W st, PX W b p x lo st → Calls Try.prog 12 #[.pointer (some ⟨b, 0, none⟩)] W fun r w' => r = .returned (.bool true) ∧ Below W.heap.size W w') :
    Calls Try.prog 11 #[.pointer (some ⟨b, 0, none⟩), .agg #[.int .i64 kk, .int .i64 nn, v]] w fun r w' => r = .returned (.bool true) ∧ Kb (fun k => lo ≤ k) w w' ∧ PX w' b p x lo (st + 1000) := by
  obtain ⟨WA, hWA⟩ : ∃ WA, w.alloc (.cells #[.int .i64 kk, .int .i64 nn, v] 35) = WA := ⟨_, rfl⟩
  obtain ⟨M, hM⟩ : ∃ M, w.heap.size = M := ⟨_, rfl⟩
  have hmA : WA.heap[M]? = some (.cells #[.int .i64 kk, .int .i64 nn, v] 35 (0, 0)) := by rw [← hWA, ← hM]; exact World.alloc_heap_new _ _
  have bA : Below w.heap.size w WA := by rw [← hWA]; exact (Below.refl _ w).alloc (Nat.le_refl _) _
  have HPA : Hid (PX WA b p x lo st) := h.below bA
  obtain ⟨ct0, ct2⟩ := HPA.out.pt.cells
  have cM0 : WA.cell? ⟨M, 0, none⟩ = some (.int .i64 kk) := by have := cells_of_block hmA 0; simpa using this
  have cM1 : WA.cell? ⟨M, 1, none⟩ = some (.int .i64 nn) := by have := cells_of_block hmA 1; simpa using this
  have cM2 : WA.cell? ⟨M, 2, none⟩ = some v := by have := cells_of_block hmA 2; simpa using this
  have HBA : Hid _ := bA
  have HMA : Hid _ := hmA
  have HHAD : Hid _ := HAD
  have HHLK : Hid _ := HLK
  have hloM := h.lo_lt
  have HK : Hid (∀ W w', Below w.heap.size w W → Kb (D35 lo W) W w' → Kb (fun k => lo ≤ k) w w') := fun W w' q1 q2 => (Kb.of_below (S := fun k => lo ≤ k) q1).trans q2 (fun k _ e => e.1)
  clear h HAD HLK bA hmA
  by_cases k1 : kk = 1
  · subst k1
    obtain ⟨N, B, hC⟩ := (HPA.out.below (Below.refl _ _).drew).step nn (by omega)
    have HC : Hid _ := hC
    have HMM : Hid (∀ w1, Kb (D35 lo WA.drew) WA.drew w1 → w1.cell? ⟨M, 1, none⟩ = some (.int .i64 nn)) := fun w1 k => by
      have := k.block M (Array.getElem?_eq_some_iff.1 HMA.out).1 (fun e => e.2 _ _ HMA.out)
      have h2 := this.trans HMA.out
      have := cells_of_block h2 1
      simpa using this
    clear hC
    go_enter Try.func11, Try.ntmps11
    go_upto_region 3 with fail
    go_cut [5, 6] from 14 (fun s5 s6 wx => s5 = .int .i64 (N : Nat) ∧ s6 = .bool B ∧ Hid (PtAt wx b p x ∧ Kb (D35 lo WA.drew) WA.drew wx ∧ ∀ W, Below wx.heap.size wx W → Calls Try.prog 35 #[.pointer (some ⟨x, 0, none⟩), .int .i64 nn] W fun r w2 => r = .returned (.tuple #[.int .i64 (N : Nat), .bool B]) ∧ Kb (D35 lo W) W w2 ∧ PX w2 b p x lo (st + 1)))
    case first =>
      go_region_with (go_at_call 18; refine Calls.mono HC.out ?_; rintro r w1 ⟨rfl, p1, kb1, c2⟩; have HR1 : Hid _ := And.intro p1 (And.intro kb1 c2); clear p1 kb1 c2)
      all_goals
        go_wp2_with fail
        go_meet
        exact ⟨rfl, rfl, HR1.out⟩
    case rest =>
    obtain ⟨rfl, rfl, HR⟩ := hcut
    obtain ⟨W1, hW1⟩ : ∃ W1, wc = W1 := ⟨_, rfl⟩
    rw [hW1]
    rw [hW1] at HR
    obtain ⟨p1, kb1, c2⟩ := HR.out
    obtain ⟨z0, z2⟩ := p1.cells
    have zM := HMM.out W1 kb1
    have HC2 : Hid _ := c2 W1.drew (Below.refl _ _).drew
    have HK1 : Hid _ := kb1
    clear p1 kb1 c2 hW1 HC HMM HR
    go_upto_region 4 with fail
    go_cut [7, 8] from 14 (fun s7 s8 wx => s7 = .int .i64 (N : Nat) ∧ s8 = .bool B ∧ Hid (Kb (D35 lo W1.drew) W1.drew wx ∧ PX wx b p x lo (st + 1)))
    case first =>
      go_region_with (go_at_call 35; refine Calls.mono HC2.out ?_; rintro r w2 ⟨rfl, kb2, p2⟩; have HR2 : Hid _ := And.intro kb2 p2; clear kb2 p2)
      all_goals
        go_wp2_with fail
        go_meet
        exact ⟨rfl, rfl, HR2.out⟩
    case rest =>
    obtain ⟨rfl, rfl, HR⟩ := hcut
    go_wp2_with fail
    go_ret
    obtain ⟨kb2, p2⟩ := HR.out
    exact ⟨by simp, ((HK.out _ _ (HBA.out.trans ((Below.refl _ _).drew)) HK1.out).drew).trans kb2 (fun k _ e => e.1), p2.st (by omega)⟩
  by_cases k2 : kk = 2
  · subst k2
    obtain ⟨N, B, hC⟩ := HPA.out.next (by omega)
    have HC : Hid _ := hC
    clear hC
    go_enter Try.func11, Try.ntmps11
    go_wp2_with fail
    refine Calls.mono HC.out ?_
    rintro e w1 ⟨rfl, p1, kb1, c2⟩
    obtain ⟨z0, z2⟩ := p1.cells
    have HK1 : Hid _ := kb1
    have HC2 : Hid _ := c2 w1 (Below.refl _ _)
    clear p1 kb1 c2 HC
    go_wp2_with fail
    refine Calls.mono HC2.out ?_
    rintro e w2 ⟨rfl, kb2, p2⟩
    have HK2 : Hid _ := kb2
    have HP2 : Hid _ := p2
    clear kb2 p2 HC2
    go_wp2_with fail
    go_ret
    exact ⟨by simp, (HK.out _ _ HBA.out HK1.out).trans HK2.out (fun k _ e => e.1), HP2.out.st (by omega)⟩
  by_cases k3 : kk = 3
  · exact H34 (Or.inl k3)
  by_cases k4 : kk = 4
  · exact H34 (Or.inr k4)
  by_cases k5 : kk = 5
  · subst k5
    have HC : Hid _ := HHAD.out WA st HBA.out HPA.out
    go_enter Try.func11, Try.ntmps11
    go_wp2_with fail
    refine Calls.mono HC.out ?_
    rintro e w1 ⟨rfl, kb1, p1⟩
    have HK1 : Hid _ := kb1
    have HP1 : Hid _ := p1
    clear kb1 p1 HC
    go_wp2_with fail
    go_ret
    exact ⟨rfl, HK.out _ _ HBA.out HK1.out, HP1.out.st (by omega)⟩
  · have e1 : (kk == 1) = false := by simpa using k1
    have e2 : (kk == 2) = false := by simpa using k2
    have e3 : (kk == 3) = false := by simpa using k3
    have e4 : (kk == 4) = false := by simpa using k4
    have e5 : (kk == 5) = false := by simpa using k5
    have HC : Hid _ := HHLK.out WA st HPA.out
    go_enter Try.func11, Try.ntmps11
    go_wp2_with fail
    refine Calls.mono HC.out ?_
    rintro e w1 ⟨rfl, b1⟩
    have HB1 : Hid _ := b1
    clear b1
    go_wp2_with fail
    go_ret
    exact ⟨rfl, (Kb.of_below HBA.out).trans (Kb.of_below (S := fun _ => False) HB1.out) (fun _ _ e => e.elim), (HPA.out.below HB1.out).st (by omega)⟩
end Go.Proofs.Ytefmhghdehokcaa
namespace Go.Proofs.Ytefmhghdehokcaa
open Go.RowKit
theorem cell_up {w W : World} {a : Addr} {v : Value} (k : Below w.heap.size w W) (h : w.cell? a = some v) : W.cell? a = some v := (k.cell (p := a) (World.block_lt_of_cell? w _ h)).trans h
theorem va_up {w W : World} {a : Option Addr} {vs : List Value} (k : Below w.heap.size w W) (h : VA w.heap.size w a vs) : VA W.heap.size W a vs := by
  intro j v hj
  obtain ⟨b, off, ha, hb, h0⟩ := h j v hj
  exact ⟨b, off, ha, Nat.lt_of_lt_of_le hb k.size, cell_up k h0⟩
theorem nI_iV (l : List Nat) : l.map nI = (l.map (fun n : Nat => (n : Int))).map iV := by rw [List.map_map]; rfl
theorem all_same {ws : List Int} (h : ∀ y ∈ ws, y = -1 ∨ (0 ≤ y ∧ y ≤ 1024)) : ws.all (fun y => decide (y < 0)) = ws.all (fun y => y == -1) := by
  induction ws with
  | nil => rfl
  | cons a l ih =>
    rw [List.all_cons, List.all_cons, ih (fun y hy => h y (List.mem_cons_of_mem _ hy))]
    rcases h a (List.mem_cons_self ..) with e | e
    · simp [e]
    · have e1 : decide (a < 0) = false := decide_eq_false (by omega)
      have e2 : (a == -1) = false := by simp; omega
      rw [e1, e2]
/-- Task i of both. -/
structure LKi (w : World) (n : Nat) (ws : List Int) (aA aT : Option Addr) (i q y gA gT : Nat) (wt : Int) (tl : List Int) (av : Option Addr) (cv : Nat) : Prop where
  ea : aA = some ⟨gA, 0, none⟩
  ca : w.cell? ⟨gA, i, none⟩ = some (.pointer (some ⟨q, 0, none⟩))
  et : aT = some ⟨gT, 0, none⟩
  ct : w.cell? ⟨gT, i, none⟩ = some (.pointer (some ⟨y, 0, none⟩))
  y2 : w.cell? ⟨y, 2, none⟩ = some (.int .i64 wt)
  y3 : w.cell? ⟨y, 3, none⟩ = some (.slice av tl.length cv)
  wi : ws[i]? = some wt
  va : VA w.heap.size w av (tl.map nV)
  tle : tl.length ≤ 10000000000000
  told : ∀ W, Below w.heap.size w W → Calls Try.prog 30 #[.pointer (some ⟨q, 0, none⟩)] W fun r w' => ∃ a c, r = .returned (.slice a tl.length c) ∧ VA w'.heap.size w' a (tl.map nV) ∧ Below W.heap.size W w'
structure LK (w : World) (b p x n nr : Nat) (ws rs : List Int) (now cnt : Int) (d : Bool) (aA : Option Addr) (cA : Nat) (aT : Option Addr) (cT : Nat) : Prop where
  c0 : w.cell? ⟨b, 0, none⟩ = some (.pointer (some ⟨p, 0, none⟩))
  c1 : w.cell? ⟨b, 1, none⟩ = some (.slice aA n cA)
  c2 : w.cell? ⟨b, 2, none⟩ = some (.pointer (some ⟨x, 0, none⟩))
  x3 : w.cell? ⟨x, 3, none⟩ = some (.slice aT n cT)
  x4 : w.cell? ⟨x, 4, none⟩ = some (.int .u64 now)
  x5 : w.cell? ⟨x, 5, none⟩ = some (.int .i64 cnt)
  wl : ws.length = n
  rl : rs.length = nr
  nl : n ≤ 64
  nrl : nr ≤ 64
  each : ∀ i, i < n → ∃ q y gA gT wt tl av cv, LKi w n ws aA aT i q y gA gT wt tl av cv
  ready : ∀ W, Below w.heap.size w W → Calls Try.prog 19 #[.pointer (some ⟨p, 0, none⟩)] W fun r w' => ∃ a c, r = .returned (.slice a nr c) ∧ VA w'.heap.size w' a (rs.map iV) ∧ Below W.heap.size W w'
  tready : ∀ W, Below w.heap.size w W → Calls Try.prog 39 #[.pointer (some ⟨x, 0, none⟩)] W fun r w' => ∃ a c, r = .returned (.slice a nr c) ∧ VA w'.heap.size w' a (rs.map iV) ∧ Below W.heap.size W w'
  waits : ∀ W, Below w.heap.size w W → Calls Try.prog 16 #[.pointer (some ⟨p, 0, none⟩)] W fun r w' => ∃ a c, r = .returned (.slice a n c) ∧ VA w'.heap.size w' a (ws.map iV) ∧ Below W.heap.size W w'
  nowc : ∀ W, Below w.heap.size w W → Calls Try.prog 14 #[.pointer (some ⟨p, 0, none⟩)] W fun r w' => r = .returned (.int .u64 now) ∧ w' = W
  steps : ∀ W, Below w.heap.size w W → Calls Try.prog 17 #[.pointer (some ⟨p, 0, none⟩)] W fun r w' => r = .returned (.int .i64 cnt) ∧ w' = W
  done : ∀ W, Below w.heap.size w W → Calls Try.prog 27 #[.pointer (some ⟨p, 0, none⟩)] W fun r w' => r = .returned (.bool d) ∧ Below W.heap.size W w'
  tdone : ∀ W, Below w.heap.size w W → Calls Try.prog 40 #[.pointer (some ⟨x, 0, none⟩)] W fun r w' => r = .returned (.bool d) ∧ w' = W
theorem PX.lk {w : World} {b p x lo st : Nat} (h : PX w b p x lo st) : ∃ n nr ws rs now cnt d aA cA aT cT, LK w b p x n nr ws rs now cnt d aA cA aT cT := by
  obtain ⟨va, S, T, h1, h2, h3, h4, h5⟩ := h.ex
  have hl : S.tks.length ≤ 64 := by have := h3.len; simpa [LS.ps] using this
  have hlT : T.ts.length = S.tks.length := by
    have : T.ps.tasks.length = S.ps.tasks.length := by rw [h2]
    simpa [TS.ps, LS.ps] using this
  have hw : T.ps.waits = S.waits := by rw [h2]; rfl
  have hnow : T.clock = S.now := by have : T.ps.now = S.ps.now := by rw [h2]
                                    exact this
  have hcnt : T.count = S.steps := by have : T.ps.steps = S.ps.steps := by rw [h2]
                                      exact this
  obtain ⟨aA, cA, eA⟩ := row_form h1.oa
  obtain ⟨aT, cT, eT⟩ := row_form h1.tw.row
  have hb := h1.hb
  have hx := h1.tw.hx
  rw [eA] at hb
  rw [eT, hlT, hnow, hcnt] at hx
  refine ⟨S.tks.length, (readyL S.waits).length, S.waits, (readyL S.waits).map (fun n : Nat => (n : Int)), S.now, ((S.steps : Nat) : Int), S.waits.all (fun y => y == -1), aA, cA, aT, cT, ?_⟩
  refine { c0 := by have := cells_of_block hb 0; simpa using this, c1 := by have := cells_of_block hb 1; simpa using this, c2 := by have := cells_of_block hb 2; simpa using this, x3 := by have := cells_of_block hx 3; simpa using this, x4 := by have := cells_of_block hx 4; simpa using this, x5 := by have := cells_of_block hx 5; simpa using this, wl := h1.la.wlen, rl := by simp, nl := hl, nrl := ?_, each := ?_, ready := ?_, tready := ?_, waits := ?_, nowc := ?_, steps := ?_, done := ?_, tdone := ?_ }
  · have := readyTo_len S.waits S.waits.length
    have e : readyL S.waits = readyTo S.waits S.waits.length := rfl
    rw [e]
    have := h1.la.wlen
    omega
  · intro i hi
    obtain ⟨t, ht⟩ : ∃ t, T.ts[i]? = some t := ⟨T.ts[i]'(by omega), List.getElem?_eq_getElem _⟩
    obtain ⟨k, hk⟩ : ∃ k, S.tks[i]? = some k := ⟨S.tks[i]'(by omega), List.getElem?_eq_getElem _⟩
    have htold : t.told = k.told := by
      have e : T.ps.tasks[i]? = S.ps.tasks[i]? := by rw [h2]
      have e1 : T.ps.tasks[i]? = some (t.acts.drop t.pos, t.told) := by
        show (T.ts.map _)[i]? = _
        rw [List.getElem?_map, ht]; rfl
      have e2 : S.ps.tasks[i]? = some (k.acts, k.told) := by
        show (S.tks.map _)[i]? = _
        rw [List.getElem?_map, hk]; rfl
      rw [e1, e2] at e
      simp only [Option.some.injEq, Prod.mk.injEq] at e
      exact e.2
    have hwt : S.waits[i]? = some t.wait := by
      rw [← hw]
      show (T.ts.map _)[i]? = _
      rw [List.getElem?_map, ht]; rfl
    obtain ⟨gT, c, e1, d0, _, _, d2, d3⟩ := h1.tw.at ht
    rw [eT] at e1
    simp only [Value.slice.injEq] at e1
    have ho := h1.oa
    rw [eA] at ho
    obtain ⟨gA, ea, _, hc⟩ := row_cell ho (j := i) (x := qV k) (by rw [List.getElem?_map, hk]; rfl)
    obtain ⟨av, cv, ev, hva, _⟩ := va_own (h1.tw.each i t ht).told
    have hle : k.told.length ≤ 10000000000000 := by
      have : (k.acts, k.told) ∈ S.ps.tasks := List.mem_map.2 ⟨k, List.mem_of_getElem? hk, rfl⟩
      have := h3.acts _ this
      simp only at this
      omega
    refine ⟨k.q, t.y, gA, gT, t.wait, t.told, av, cv, { ea := ea, ca := hc, et := e1.1, ct := d0, y2 := d2, y3 := by rw [d3, ev], wi := hwt, va := hva, tle := by rw [htold]; exact hle, told := fun W kW => ?_ }⟩
    rw [htold]
    exact told_any (p + 1) k W ((h1.la.below kW).each i k hk).1 hle
  · intro W k
    refine (la_ready p S W (h1.la.below k) (by omega)).mono ?_
    rintro r w' ⟨a, c, rfl, g1, g2⟩
    exact ⟨a, c, rfl, by rw [← nI_iV]; exact g1, g2⟩
  · intro W k
    refine (Go.Proofs.Ytefmhghdehokcaa.tready _ x T W (h1.tw.below k) (by omega)).mono ?_
    rintro r w' ⟨v, rfl, g1, g2⟩
    rw [hw] at g1
    obtain ⟨a, c, rfl, g3, _⟩ := va_own g1
    exact ⟨a, c, rfl, by rw [← nI_iV]; exact g3, g2⟩
  · intro W k
    have := la_waits p S W (h1.la.below k) (by omega)
    rw [h1.la.wlen] at this
    exact this
  · intro W k
    exact now_any p _ _ _ _ _ _ _ S.now W (h1.la.below k).hp
  · intro W k
    exact steps_any p _ _ _ _ _ _ _ ((S.steps : Nat) : Int) W (h1.la.below k).hp
  · intro W k
    exact la_done_any p S W (h1.la.below k) (by omega)
  · intro W k
    refine (Go.Proofs.Ytefmhghdehokcaa.tdone _ x T W (h1.tw.below k) (by omega)).mono ?_
    rintro r w' ⟨rfl, g2⟩
    exact ⟨by rw [hw, all_same (ws := S.waits) (fun y hy => h4 y hy)], g2⟩
theorem LKi.up {w W : World} {n : Nat} {ws : List Int} {aA aT : Option Addr} {i q y gA gT : Nat} {wt : Int} {tl : List Int} {av : Option Addr} {cv : Nat} (h : LKi w n ws aA aT i q y gA gT wt tl av cv) (k : Below w.heap.size w W) : LKi W n ws aA aT i q y gA gT wt tl av cv :=
  { ea := h.ea, ca := cell_up k h.ca, et := h.et, ct := cell_up k h.ct, y2 := cell_up k h.y2, y3 := cell_up k h.y3, wi := h.wi, va := va_up k h.va, tle := h.tle, told := fun V kV => h.told V (k.trans (kV.mono k.size)) }
theorem LK.up {w W : World} {b p x n nr : Nat} {ws rs : List Int} {now cnt : Int} {d : Bool} {aA : Option Addr} {cA : Nat} {aT : Option Addr} {cT : Nat} (h : LK w b p x n nr ws rs now cnt d aA cA aT cT) (k : Below w.heap.size w W) : LK W b p x n nr ws rs now cnt d aA cA aT cT := by
  have tr : ∀ V, Below W.heap.size W V → Below w.heap.size w V := fun V kV => k.trans (kV.mono k.size)
  exact { c0 := cell_up k h.c0, c1 := cell_up k h.c1, c2 := cell_up k h.c2, x3 := cell_up k h.x3, x4 := cell_up k h.x4, x5 := cell_up k h.x5, wl := h.wl, rl := h.rl, nl := h.nl, nrl := h.nrl, each := fun i hi => by
            obtain ⟨q, y, gA, gT, wt, tl, av, cv, g⟩ := h.each i hi
            exact ⟨q, y, gA, gT, wt, tl, av, cv, g.up k⟩, ready := fun V kV => h.ready V (tr V kV), tready := fun V kV => h.tready V (tr V kV), waits := fun V kV => h.waits V (tr V kV), nowc := fun V kV => h.nowc V (tr V kV), steps := fun V kV => h.steps V (tr V kV), done := fun V kV => h.done V (tr V kV), tdone := fun V kV => h.tdone V (tr V kV) }
end Go.Proofs.Ytefmhghdehokcaa
namespace Go.Proofs.Ytefmhghdehokcaa
open Go.RowKit
theorem pt_cells {w : World} {b p x : Nat} (h : PtAt w b p x) : w.cell? ⟨b, 0, none⟩ = some (.pointer (some ⟨p, 0, none⟩)) ∧ w.cell? ⟨b, 2, none⟩ = some (.pointer (some ⟨x, 0, none⟩)) := by
  obtain ⟨va, hb⟩ := h
  exact ⟨by have := cells_of_block hb 0; simpa using this, by have := cells_of_block hb 2; simpa using this⟩
theorem px_lo {w : World} {b p x lo st : Nat} (h : PX w b p x lo st) : lo ≤ w.heap.size := by
  obtain ⟨va, S, T, h1, _⟩ := h.ex
  have := h1.lop
  have := h1.la.ps
  omega
set_option maxRecDepth 100000 in
set_option maxHeartbeats 4000000 in
theorem does_run (lo b p x st : Nat) (nn : Int) (v : Value) (w : World) (h : PX w b p x lo st) (hst : st < 7000000000000000) :
    Calls Try.prog 11 #[.pointer (some ⟨b, 0, none⟩), .agg #[.int .i64 3, .int .i64 nn, v]] w fun r w' => r = .returned (.bool true) ∧ Kb (fun k => lo ≤ k) w w' ∧ PX w' b p x lo (st + 1000) := by
  obtain ⟨WA, hWA⟩ : ∃ WA, w.alloc (.cells #[.int .i64 3, .int .i64 nn, v] 35) = WA := ⟨_, rfl⟩
  obtain ⟨M, hM⟩ : ∃ M, w.heap.size = M := ⟨_, rfl⟩
  have hmA : WA.heap[M]? = some (.cells #[.int .i64 3, .int .i64 nn, v] 35 (0, 0)) := by rw [← hWA, ← hM]; exact World.alloc_heap_new _ _
  have bA : Below w.heap.size w WA := by rw [← hWA]; exact (Below.refl _ w).alloc (Nat.le_refl _) _
  have HPA : Hid (PX WA b p x lo st) := h.below bA
  have SS := pt_cells (PX.at43 HPA.out)
  obtain ⟨ct0, ct2⟩ := pt_cells (PX.at43 HPA.out)
  have cM0 : WA.cell? ⟨M, 0, none⟩ = some (.int .i64 3) := by have := cells_of_block hmA 0; simpa using this
  have cM1 : WA.cell? ⟨M, 1, none⟩ = some (.int .i64 nn) := by have := cells_of_block hmA 1; simpa using this
  have HBA : Hid (Below w.heap.size w WA) := bA
  have HK : Hid (∀ W w1 W2 w2, Below WA.heap.size WA W → Kb (D35 lo W) W w1 → Below w1.heap.size w1 W2 → Kb (D35 lo W2) W2 w2 → Kb (fun k => lo ≤ k) w w2) := fun W w1 W2 w2 q1 q2 q3 q4 => by
    have e1 : Kb (fun k => lo ≤ k) w W := (Kb.of_below (HBA.out.trans (q1.mono HBA.out.size)))
    have e2 : Kb (fun k => lo ≤ k) w w1 := e1.trans q2 (fun k _ e => e.1)
    have e3 : Kb (fun k => lo ≤ k) w W2 := e2.trans (Kb.of_below (S := fun _ => False) q3) (fun k _ e => e.elim)
    exact e3.trans q4 (fun k _ e => e.1)
  have SD : Below WA.heap.size WA WA.drew := (Below.refl _ _).drew
  have HSI : Hid (st < 7000000000000000) := hst
  clear h bA hmA hst
  have HC : Hid (∀ W m, Below WA.heap.size WA W → m ≤ 1000 → Calls Try.prog 26 #[.pointer (some ⟨p, 0, none⟩), .int .i64 m] W fun r w1 => ∃ N : Nat, r = .returned (.int .i64 (N : Nat)) ∧ (w1.cell? ⟨b, 0, none⟩ = some (.pointer (some ⟨p, 0, none⟩)) ∧ w1.cell? ⟨b, 2, none⟩ = some (.pointer (some ⟨x, 0, none⟩))) ∧ Hid (∀ W2, Below w1.heap.size w1 W2 → Calls Try.prog 37 #[.pointer (some ⟨x, 0, none⟩), .int .i64 m] W2 fun r w2 => r = .returned (.int .i64 (N : Nat)) ∧ (w2.cell? ⟨b, 0, none⟩ = some (.pointer (some ⟨p, 0, none⟩)) ∧ w2.cell? ⟨b, 2, none⟩ = some (.pointer (some ⟨x, 0, none⟩))) ∧ Hid (Kb (fun k => lo ≤ k) w w2 ∧ PX w2 b p x lo (st + 1000)))) := fun W m k hm => by
    refine ((HPA.out.below k).run m (by have := HSI.out; omega) hm).mono ?_
    rintro r w1 ⟨N, rfl, p1, kb1, c2⟩
    refine ⟨N, rfl, pt_cells p1, fun W2 k2 => (c2 W2 k2).mono ?_⟩
    rintro r w2 ⟨rfl, kb2, p2⟩
    exact ⟨rfl, pt_cells p2.at43, HK.out W w1 W2 w2 k kb1 k2 kb2, p2⟩
  by_cases hb : 1000 < nn
  · have HC1 : Hid (∀ W, Below WA.heap.size WA W → _) := fun W k => HC.out W 1000 k (by omega)
    clear HC HPA HK HSI
    go_enter Try.func11, Try.ntmps11
    go_wp2_with fail
    go_region_held (fun W => W.cell? ⟨b, 0, none⟩ = some (.pointer (some ⟨p, 0, none⟩)) ∧ W.cell? ⟨b, 2, none⟩ = some (.pointer (some ⟨x, 0, none⟩))) (first | assumption | go_keep)
      (first
      | (go_at_call 26; refine Calls.mono (HC1.out _ (by assumption)) ?_; rintro e w1 ⟨N, rfl, s1, c2⟩; have hNN : ((N : Int) == (N : Int)) = true := by simp)
      | (go_at_call 37; refine Calls.mono (Hid.out c2 _ (Below.refl _ _)) ?_; rintro e w2 ⟨rfl, s2, hf⟩))
    all_goals
      go_wp2_with fail
      go_ret
      exact ⟨rfl, hf.out⟩
  · have hbd : decide (1000 < nn) = false := decide_eq_false hb
    have HC1 : Hid (∀ W, Below WA.heap.size WA W → _) := fun W k => HC.out W nn k (by omega)
    clear HC HPA HK HSI hb
    go_enter Try.func11, Try.ntmps11
    go_wp2_with fail
    go_region_held (fun W => W.cell? ⟨b, 0, none⟩ = some (.pointer (some ⟨p, 0, none⟩)) ∧ W.cell? ⟨b, 2, none⟩ = some (.pointer (some ⟨x, 0, none⟩))) (first | assumption | go_keep)
      (first
      | (go_at_call 26; refine Calls.mono (HC1.out _ (by assumption)) ?_; rintro e w1 ⟨N, rfl, s1, c2⟩; have hNN : ((N : Int) == (N : Int)) = true := by simp)
      | (go_at_call 37; refine Calls.mono (Hid.out c2 _ (Below.refl _ _)) ?_; rintro e w2 ⟨rfl, s2, hf⟩))
    all_goals
      go_wp2_with fail
      go_ret
      exact ⟨rfl, hf.out⟩
set_option maxRecDepth 100000 in
set_option maxHeartbeats 4000000 in
theorem does_wake (lo b p x st : Nat) (nn : Int) (v : Value) (w : World) (h : PX w b p x lo st) :
    Calls Try.prog 11 #[.pointer (some ⟨b, 0, none⟩), .agg #[.int .i64 4, .int .i64 nn, v]] w fun r w' => r = .returned (.bool true) ∧ Kb (fun k => lo ≤ k) w w' ∧ PX w' b p x lo st := by
  obtain ⟨WA, hWA⟩ : ∃ WA, w.alloc (.cells #[.int .i64 4, .int .i64 nn, v] 35) = WA := ⟨_, rfl⟩
  obtain ⟨M, hM⟩ : ∃ M, w.heap.size = M := ⟨_, rfl⟩
  have hmA : WA.heap[M]? = some (.cells #[.int .i64 4, .int .i64 nn, v] 35 (0, 0)) := by rw [← hWA, ← hM]; exact World.alloc_heap_new _ _
  have bA : Below w.heap.size w WA := by rw [← hWA]; exact (Below.refl _ w).alloc (Nat.le_refl _) _
  have HPA : Hid (PX WA b p x lo st) := h.below bA
  obtain ⟨ct0, ct2⟩ := pt_cells (PX.at43 HPA.out)
  have cM0 : WA.cell? ⟨M, 0, none⟩ = some (.int .i64 4) := by have := cells_of_block hmA 0; simpa using this
  have cM1 : WA.cell? ⟨M, 1, none⟩ = some (.int .i64 nn) := by have := cells_of_block hmA 1; simpa using this
  have SS : WA.cell? ⟨b, 0, none⟩ = some (.pointer (some ⟨p, 0, none⟩)) ∧ WA.cell? ⟨b, 2, none⟩ = some (.pointer (some ⟨x, 0, none⟩)) ∧ WA.cell? ⟨M, 1, none⟩ = some (.int .i64 nn) := ⟨ct0, ct2, cM1⟩
  have HBA : Hid (Below w.heap.size w WA) := bA
  have HMA : Hid (WA.heap[M]? = some (.cells #[.int .i64 4, .int .i64 nn, v] 35 (0, 0))) := hmA
  have HK : Hid (∀ W w1 W2 w2, Below WA.heap.size WA W → Kb (D35 lo W) W w1 → Below w1.heap.size w1 W2 → Kb (D35 lo W2) W2 w2 → Kb (fun k => lo ≤ k) w w2) := fun W w1 W2 w2 q1 q2 q3 q4 => by
    have e1 : Kb (fun k => lo ≤ k) w W := (Kb.of_below (HBA.out.trans (q1.mono HBA.out.size)))
    have e2 : Kb (fun k => lo ≤ k) w w1 := e1.trans q2 (fun k _ e => e.1)
    have e3 : Kb (fun k => lo ≤ k) w W2 := e2.trans (Kb.of_below (S := fun _ => False) q3) (fun k _ e => e.elim)
    exact e3.trans q4 (fun k _ e => e.1)
  have SD : Below WA.heap.size WA WA.drew := (Below.refl _ _).drew
  clear h bA hmA
  have HC : Hid (∀ W, Below WA.heap.size WA W → ∃ N : Nat, Calls Try.prog 20 #[.pointer (some ⟨p, 0, none⟩), .int .i64 nn] W fun r w1 => r = .returned (.int .i64 (N : Nat)) ∧ (w1.cell? ⟨b, 0, none⟩ = some (.pointer (some ⟨p, 0, none⟩)) ∧ w1.cell? ⟨b, 2, none⟩ = some (.pointer (some ⟨x, 0, none⟩)) ∧ w1.cell? ⟨M, 1, none⟩ = some (.int .i64 nn)) ∧ Hid (∀ W2, Below w1.heap.size w1 W2 → Calls Try.prog 38 #[.pointer (some ⟨x, 0, none⟩), .int .i64 nn] W2 fun r w2 => r = .returned (.int .i64 (N : Nat)) ∧ (w2.cell? ⟨b, 0, none⟩ = some (.pointer (some ⟨p, 0, none⟩)) ∧ w2.cell? ⟨b, 2, none⟩ = some (.pointer (some ⟨x, 0, none⟩)) ∧ w2.cell? ⟨M, 1, none⟩ = some (.int .i64 nn)) ∧ Hid (Kb (fun k => lo ≤ k) w w2 ∧ PX w2 b p x lo st))) := fun W k => by
    obtain ⟨N, hN⟩ := (HPA.out.below k).wake nn
    refine ⟨N, hN.mono ?_⟩
    rintro r w1 ⟨rfl, p1, kb1, c2⟩
    have hMW : W.heap[M]? = some (.cells #[.int .i64 4, .int .i64 nn, v] 35 (0, 0)) := (k.block M (Array.getElem?_eq_some_iff.1 HMA.out).1).trans HMA.out
    have hM1 : w1.heap[M]? = some (.cells #[.int .i64 4, .int .i64 nn, v] 35 (0, 0)) := (kb1.block M (Array.getElem?_eq_some_iff.1 hMW).1 (fun e => e.2 _ _ hMW)).trans hMW
    refine ⟨rfl, ⟨(pt_cells p1).1, (pt_cells p1).2, by have := cells_of_block hM1 1; simpa using this⟩, fun W2 k2 => (c2 W2 k2).mono ?_⟩
    rintro r w2 ⟨rfl, kb2, p2⟩
    have hM2 : W2.heap[M]? = some (.cells #[.int .i64 4, .int .i64 nn, v] 35 (0, 0)) := (k2.block M (Array.getElem?_eq_some_iff.1 hM1).1).trans hM1
    have hM3 : w2.heap[M]? = some (.cells #[.int .i64 4, .int .i64 nn, v] 35 (0, 0)) := (kb2.block M (Array.getElem?_eq_some_iff.1 hM2).1 (fun e => e.2 _ _ hM2)).trans hM2
    exact ⟨rfl, ⟨(pt_cells p2.at43).1, (pt_cells p2.at43).2, by have := cells_of_block hM3 1; simpa using this⟩, HK.out W w1 W2 w2 k kb1 k2 kb2, p2⟩
  obtain ⟨N, hN⟩ := HC.out WA.drew SD
  have HC1 : Hid _ := hN
  have hNN : ((N : Int) == (N : Int)) = true := by simp
  clear HC HPA HK HMA hN
  go_enter Try.func11, Try.ntmps11
  go_wp2_with fail
  go_region_held (fun W => W.cell? ⟨b, 0, none⟩ = some (.pointer (some ⟨p, 0, none⟩)) ∧ W.cell? ⟨b, 2, none⟩ = some (.pointer (some ⟨x, 0, none⟩)) ∧ W.cell? ⟨M, 1, none⟩ = some (.int .i64 nn)) (first | assumption | go_keep)
    (first
    | (go_at_call 20; refine Calls.mono HC1.out ?_; rintro e w1 ⟨rfl, s1, c2⟩)
    | (go_at_call 38; refine Calls.mono (Hid.out c2 _ (Below.refl _ _)) ?_; rintro e w2 ⟨rfl, s2, hf⟩))
  all_goals
    go_wp2_with fail
    go_ret
    exact ⟨rfl, hf.out⟩
end Go.Proofs.Ytefmhghdehokcaa
namespace Go.Proofs.Ytefmhghdehokcaa
open Go.RowKit
theorem take_row {W : World} {B j : Nat} {v : Value} {ws : List Int} {wt : Int} (hw : ws[j]? = some wt) (h : W.ownsRow B 3 1 v (j + 1) ((ws.take j).map iV ++ [.int .i64 wt])) : W.ownsRow B 3 1 v (j + 1) ((ws.take (j + 1)).map iV) := by
  have e : ws.take (j + 1) = ws.take j ++ [wt] := by
    rw [List.take_add_one, hw]; rfl
  rw [e, List.map_append]
  exact h
set_option maxRecDepth 100000 in
set_option maxHeartbeats 8000000 in
theorem looks_any (b p x n nr : Nat) (ws rs : List Int) (now cnt : Int) (d : Bool) (aA : Option Addr) (cA : Nat) (aT : Option Addr) (cT : Nat) (w : World) (h : LK w b p x n nr ws rs now cnt d aA cA aT cT) :
    Calls Try.prog 12 #[.pointer (some ⟨b, 0, none⟩)] w fun r w' => r = .returned (.bool true) ∧ Below w.heap.size w w' := by
  obtain ⟨i0, hi, hz0, hz1, hz2⟩ := info_parts info3
  have hn := h.nl
  have HH : Hid (LK w b p x n nr ws rs now cnt d aA cA aT cT) := h
  clear h
  go_enter Try.func12, Try.ntmps12
  go_wp2_with fail
  go_loopw [3, 4] (fun v i wr => ∃ j : Nat, j ≤ n ∧ i = .int .i64 (j : Nat) ∧ Hid (wr.ownsRow w.heap.size 3 1 v j ((ws.take j).map iV)) ∧ Hid (Below w.heap.size w wr)) (fun _ i _ => n - (intOf i).toNat)
  case atStart => exact ⟨0, by omega, rfl, World.ownsRow_nil _ _ _ _, Below.refl _ _⟩
  case round =>
    obtain ⟨j, hj, rfl, HR, HB⟩ := hrel
    have HL : Hid (LK wr b p x n nr ws rs now cnt d aA cA aT cT) := LK.up HH.out HB.out
    by_cases hlt : j < n
    · obtain ⟨q, y, gA, gT, wt, tl, av, cv, hi'⟩ := LK.each HL.out j hlt
      have cb2 := LK.c2 HL.out
      have cx3 := LK.x3 HL.out
      obtain rfl := hi'.ea
      obtain rfl := hi'.et
      have k0 := hi'.ct
      have k2 := hi'.y2
      have HI : Hid (LKi wr n ws (some ⟨gA, 0, none⟩) (some ⟨gT, 0, none⟩) j q y gA gT wt tl av cv) := hi'
      have hrow : wr.ownsRow w.heap.size 3 1 u3 j ((ws.take j).map iV) := HR.out
      obtain ⟨a3, c3', rfl⟩ := row_form hrow
      have HRW : Hid _ := hrow
      have hra : Hid (∀ o, (wr.alloc o).ownsRow w.heap.size 3 1 (.slice a3 j c3') j ((ws.take j).map iV)) := fun o => World.ownsRow.alloc HRW.out o
      have hsz := HB.out.size
      clear hrow hi'
      go_wp2_with (at_builtin; refine wpList_append_own _ rfl (.tmp 19) (.tmp 33) 22 rfl w.heap.size 3 i0 (.int .i64 0) 1 8 Try.underlying22 hi hz0 hz1 hz2 rfl (by decide) _ _ _ rfl (hra.out _) ⟨wr.heap.size, 0, none⟩ 1 1 [.int .i64 wt] rfl rfl (cell_one_new _ _ _) (by simp [Value.oneCell']) (by unfold maxLen; omega) (by omega) (by simp; omega) ?_)
      intro v2 w2 hown2 hg2 _
      have HO : Hid (w2.ownsRow w.heap.size 3 1 v2 (j + 1) ((ws.take (j + 1)).map iV)) := take_row (LKi.wi HI.out) (by rw [List.map_take]; exact hown2)
      have HB2 : Hid (Below w.heap.size w w2) := (HB.out.alloc hsz _).grown hg2 (by simp; omega) (fun i hi => (World.ownsRow.lt HRW.out i hi).1)
      have HL2 : Hid (LK w2 b p x n nr ws rs now cnt d (some ⟨gA, 0, none⟩) cA (some ⟨gT, 0, none⟩) cT) := LK.up HH.out HB2.out
      obtain ⟨q', y', gA', gT', wt', tl', av', cv', hi2⟩ := LK.each HL2.out j hlt
      obtain ⟨e1⟩ : gA = gA' := by have := hi2.ea; simpa using this
      obtain ⟨e2⟩ : gT = gT' := by have := hi2.et; simpa using this
      have cb1 := LK.c1 HL2.out
      have ca2 := hi2.ca
      obtain ⟨m, hm⟩ : ∃ m, tl'.length = m := ⟨_, rfl⟩
      have hml : m ≤ 10000000000000 := by rw [← hm]; exact hi2.tle
      have HTO : Hid (Calls Try.prog 30 #[.pointer (some ⟨q', 0, none⟩)] w2 fun r w' => ∃ a c, r = .returned (.slice a m c) ∧ VA w'.heap.size w' a (tl'.map nV) ∧ Below w2.heap.size w2 w') := by rw [← hm]; exact hi2.told w2 (Below.refl _ _)
      have HI2 : Hid (LKi w2 n ws (some ⟨gA, 0, none⟩) (some ⟨gT, 0, none⟩) j q' y' gA gT wt' tl' av' cv') := hi2
      have HM : Hid _ := hm
      clear hown2 hg2 hra HRW HR HB HL HI hi2 hm cb2 cx3 k0 k2 hsz
      go_wp2_with fail
      refine Calls.mono HTO.out ?_
      rintro r w3 ⟨a5, c5, rfl, va5, b3⟩
      have HB3 : Hid (Below w2.heap.size w2 w3) := b3
      have HI3 : Hid (LKi w3 n ws (some ⟨gA, 0, none⟩) (some ⟨gT, 0, none⟩) j q' y' gA gT wt' tl' av' cv') := LKi.up HI2.out b3
      have HL3 : Hid (LK w3 b p x n nr ws rs now cnt d (some ⟨gA, 0, none⟩) cA (some ⟨gT, 0, none⟩) cT) := LK.up HL2.out b3
      have cb2 := LK.c2 HL3.out
      have cx3 := LK.x3 HL3.out
      have k0 := LKi.ct HI3.out
      have k3 := LKi.y3 HI3.out
      rw [HM.out] at k3
      have HV5 : Hid (VA w3.heap.size w3 a5 (tl'.map nV)) := va5
      have HV6 : Hid (VA w3.heap.size w3 av' (tl'.map nV)) := LKi.va HI3.out
      have hmm : ((m : Int) != (m : Int)) = false := by simp
      clear va5 b3 HTO cb1 ca2 HI2 HI3 HL2
      go_wp2_with fail
      go_loopw [6] (fun s wr => ∃ k : Nat, k ≤ m ∧ s = .int .i64 (k : Nat) ∧ ∃ qd, wr = w3.drewN qd) (fun s _ => m - (intOf s).toNat)
      case atStart => exact ⟨0, by omega, rfl, 0, rfl⟩
      case round =>
        obtain ⟨k, hk, rfl, qd, rfl⟩ := hrel
        by_cases hkm : k < m
        · obtain ⟨z, hz⟩ : ∃ z, tl'[k]? = some z := ⟨tl'[k]'(by rw [HM.out]; exact hkm), List.getElem?_eq_getElem _⟩
          obtain ⟨g, og, rfl, _, z0⟩ := HV5.out k (nV z) (by rw [List.getElem?_map, hz]; rfl)
          obtain ⟨g6, og6, rfl, _, z6⟩ := HV6.out k (nV z) (by rw [List.getElem?_map, hz]; rfl)
          rw [nV] at z0 z6
          have hzz : (z != z) = false := by simp
          have hze : (z == z) = true := by simp
          clear hz
          go_wp2_with fail
          go_quiet (fail)
          go_wp2_with fail
          go_roundw
          case rel => exact ⟨k + 1, by omega, by go_num, qd + nq, by simp⟩
          case measure => simp [intOf]; omega
        · obtain rfl : k = m := by omega
          have HB4 : Hid (Below w2.heap.size w2 (w3.drewN qd)) := HB3.out.trans ((belD w3 qd).mono HB3.out.size)
          have HO4 : Hid ((w3.drewN qd).ownsRow w.heap.size 3 1 v2 (j + 1) ((ws.take (j + 1)).map iV)) := owns_same HO.out (fun g e => HB4.out.block g (World.ownsRow.lt HO.out g e).2)
          go_wp2_with fail
          go_roundw
          case rel => exact ⟨j + 1, by omega, by go_num, HO4.out, HB2.out.trans (HB4.out.mono HB2.out.size)⟩
          case measure => simp [intOf]; omega
    · obtain rfl : j = n := by omega
      obtain ⟨a3, c3, rfl, hv3, _⟩ := va_own HR.out
      have HV3 : Hid (VA wr.heap.size wr a3 (ws.map iV)) := by
        have e : ws.take j = ws := by rw [← LK.wl HL.out, List.take_length]
        rw [e] at hv3
        exact hv3
      have cb0 := LK.c0 HL.out
      have cx3 := LK.x3 HL.out
      have cb2 := LK.c2 HL.out
      have cx4 := LK.x4 HL.out
      have cx5 := LK.x5 HL.out
      have HSS : Hid (∀ W : World, Below wr.heap.size wr W → W.cell? ⟨b, 0, none⟩ = some (.pointer (some ⟨p, 0, none⟩)) ∧ W.cell? ⟨b, 2, none⟩ = some (.pointer (some ⟨x, 0, none⟩)) ∧ W.cell? ⟨x, 4, none⟩ = some (.int .u64 now) ∧ W.cell? ⟨x, 5, none⟩ = some (.int .i64 cnt)) := fun W k => ⟨cell_up k (LK.c0 HL.out), cell_up k (LK.c2 HL.out), cell_up k (LK.x4 HL.out), cell_up k (LK.x5 HL.out)⟩
      have HR1 : Hid _ := LK.ready HL.out
      have HR2 : Hid _ := LK.tready HL.out
      have HW1 : Hid _ := LK.waits HL.out
      have HN1 : Hid _ := LK.nowc HL.out
      have HP1 : Hid _ := LK.steps HL.out
      have HD1 : Hid _ := LK.done HL.out
      have HD2 : Hid _ := LK.tdone HL.out
      have HSM1 : Hid (∀ (W : World) a1 c1 a2 c2, VA W.heap.size W a1 (rs.map iV) → VA W.heap.size W a2 (rs.map iV) → Calls Try.prog 15 #[.slice a1 nr c1, .slice a2 nr c2] W fun r w' => r = .returned (.bool true) ∧ ∃ q, w' = W.drewN q) := fun W a1 c1 a2 c2 h1 h2 => by
        have := same_any W.heap.size a1 a2 c1 c2 rs rs W h1 h2 (by have := LK.rl HL.out; have := LK.nrl HL.out; omega)
        rw [decide_eq_true rfl, LK.rl HL.out] at this
        exact this
      have HSM2 : Hid (∀ (W : World) a1 c1, VA W.heap.size W a1 (ws.map iV) → Below wr.heap.size wr W → Calls Try.prog 15 #[.slice a1 j c1, .slice a3 j c3] W fun r w' => r = .returned (.bool true) ∧ ∃ q, w' = W.drewN q) := fun W a1 c1 h1 h2 => by
        have := same_any W.heap.size a1 a3 c1 c3 ws ws W h1 (va_up h2 HV3.out) (by have := LK.wl HL.out; have := LK.nl HL.out; omega)
        rw [decide_eq_true rfl, LK.wl HL.out] at this
        exact this
      have HTR : Hid (∀ W V : World, Below wr.heap.size wr W → Below W.heap.size W V → Below wr.heap.size wr V) := fun W V k k' => k.trans (k'.mono k.size)
      have HGR : Hid (∀ (W V : World) a, VA W.heap.size W a (rs.map iV) → Below W.heap.size W V → VA V.heap.size V a (rs.map iV)) := fun W V a h k => va_up k h
      have HDN : Hid (∀ (W : World) q, Below wr.heap.size wr W → Below wr.heap.size wr (W.drewN q)) := fun W q k => k.trans ((belD W q).mono k.size)
      have e1 : (now == now) = true := by simp
      have e2 : (cnt == cnt) = true := by simp
      have e3 : (d == d) = true := by simp
      have SD : Below wr.heap.size wr wr.drew := (Below.refl _ _).drew
      have HFI : Hid (∀ W, Below wr.heap.size wr W → Below w.heap.size w W) := fun W k => HB.out.trans (k.mono HB.out.size)
      clear hv3 HR HV3 HL HH
      go_wp2_with fail
      go_region_held (fun W => W.cell? ⟨b, 0, none⟩ = some (.pointer (some ⟨p, 0, none⟩)) ∧ W.cell? ⟨b, 2, none⟩ = some (.pointer (some ⟨x, 0, none⟩)) ∧ W.cell? ⟨x, 4, none⟩ = some (.int .u64 now) ∧ W.cell? ⟨x, 5, none⟩ = some (.int .i64 cnt)) (first | assumption | go_keep)
        (first
        | (go_at_call 19; refine Calls.mono (HR1.out _ (by assumption)) ?_; rintro e wa ⟨a1, c1, rfl, va1, ka⟩; have ba := HTR.out _ _ (by assumption) ka; have sa := HSS.out _ ba)
        | (go_at_call 39; refine Calls.mono (HR2.out _ (by assumption)) ?_; rintro e wb ⟨a2, c2, rfl, va2, kb⟩; have bb := HTR.out _ _ (by assumption) kb; have sb := HSS.out _ bb)
        | (go_at_call 15; have hv := HGR.out wa wb _ va1 kb; refine Calls.mono (HSM1.out wb _ _ _ _ hv va2) ?_; rintro e wc ⟨rfl, q, hwc⟩; have bc : Below wr.heap.size wr wc := by rw [hwc]; exact HDN.out _ _ bb
           have sc := HSS.out _ bc; clear hwc va1 va2 hv ka kb)
        | (go_at_call 16; refine Calls.mono (HW1.out _ (by assumption)) ?_; rintro e wd ⟨a4, c4, rfl, va4, kd⟩; have bd := HTR.out _ _ (by assumption) kd; have sd := HSS.out _ bd)
        | (go_at_call 15; have hv := va4; refine Calls.mono (HSM2.out wd _ _ hv bd) ?_; rintro e we ⟨rfl, q2, hwe⟩; have be : Below wr.heap.size wr we := by rw [hwe]; exact HDN.out _ _ bd
           have se := HSS.out _ be; clear hwe)
        | (go_at_call 14; refine Calls.mono (HN1.out _ (by assumption)) ?_; rintro e wf ⟨rfl, hwf⟩; subst hwf)
        | (go_at_call 17; refine Calls.mono (HP1.out _ (by assumption)) ?_; rintro e wg ⟨rfl, hwg⟩; subst hwg)
        | (go_at_call 27; refine Calls.mono (HD1.out _ (by assumption)) ?_; rintro e wh ⟨rfl, kh⟩; have bh := HTR.out _ _ (by assumption) kh; have sh := HSS.out _ bh)
        | (go_at_call 40; refine Calls.mono (HD2.out _ (by assumption)) ?_; rintro e wi ⟨rfl, hwi⟩; subst hwi))
      all_goals
        go_wp2_with fail
        go_ret
        exact ⟨rfl, HFI.out _ (by assumption)⟩
end Go.Proofs.Ytefmhghdehokcaa
