/-
  The walk of WalLays: whatever comes in, the call returns true, and turns nothing that was there.
-/
import Derived.Test.YtefigcnfcbdecaaLives
import Derived.Deep.RegionWith
namespace Go.Proofs.Ytefigcnfcbdecaa
open Go.RowKit
theorem length_gen (a n : Int) : ∃ (v e : Int),
    (∀ w : World, Calls Try.prog 9 #[.int .i64 a, .int .i64 n] w fun r w' => r = .returned (.tuple #[.int .i64 v, .int .i64 e]) ∧ Below w.heap.size w w') ∧
    (∀ w : World, Calls Try.prog 10 #[.int .i64 a, .int .i64 n] w fun r w' => r = .returned (.tuple #[.int .i64 v, .int .i64 e]) ∧ Below w.heap.size w w') := by
  by_cases h : a < 0 ∨ 1048576 < a ∨ n < 0 ∨ 262144 < n
  · refine ⟨0, 1, fun w => (length_bad a n w h).mono ?_, fun w => (rlength_bad a n w h).mono ?_⟩
    · rintro r w' ⟨rfl, rfl⟩; exact ⟨rfl, Below.refl _ _⟩
    · rintro r w' ⟨rfl, rfl⟩; exact ⟨rfl, Below.refl _ _⟩
  · obtain ⟨A, rfl⟩ : ∃ A : Nat, a = (A : Int) := ⟨a.toNat, by omega⟩
    obtain ⟨N, rfl⟩ : ∃ N : Nat, n = (N : Int) := ⟨n.toNat, by omega⟩
    refine ⟨(spanN A N : Nat), 0, fun w => (length_ok A N w (by omega) (by omega)).mono ?_, fun w => rlength_ok A N w (by omega) (by omega)⟩
    rintro r w' ⟨rfl, rfl⟩; exact ⟨rfl, Below.refl _ _⟩
/-- What a round has of the two writers. -/
structure Two (w W : World) (x y s : Nat) : Prop where
  hx : W.heap[x]? = some (.cells #[.int .i64 (s : Nat)] 59 (0, 0))
  hy : W.heap[y]? = some (.cells #[.int .i64 (s : Nat)] 39 (0, 0))
  bel : Below w.heap.size w W
  le : s ≤ 1048576
theorem Two.ne {w W : World} {x y s : Nat} (h : Two w W x y s) : x ≠ y := fun e => by
  have h1 := h.hx
  rw [e, h.hy] at h1
  simp at h1
theorem lay_gen {w W : World} {x y s : Nat} (h : Two w W x y s) (rec : ByteArray) (hr : rec.size ≤ 140737488355328) : ∃ (X : List UInt8) (L : Nat) (e : Int) (s' : Nat), X.length = L ∧ L ≤ 1048576 ∧ s' ≤ 1048576 ∧
    (Calls Try.prog 13 #[.pointer (some ⟨x, 0, none⟩), .string rec] W fun r w' => ∃ a c, r = .returned (.tuple #[.slice a L c, .int .i64 e]) ∧ w'.ownsRow W.heap.size 5 1 (.slice a L c) L (bl X) ∧ w'.heap[x]? = some (.cells #[.int .i64 (s' : Nat)] 59 (0, 0)) ∧ Kept x W w') ∧
    (∀ W1 : World, W1.heap[y]? = some (.cells #[.int .i64 (s : Nat)] 39 (0, 0)) → Calls Try.prog 14 #[.pointer (some ⟨y, 0, none⟩), .string rec] W1 fun r w' => ∃ a c, r = .returned (.tuple #[.slice a L c, .int .i64 e]) ∧ w'.ownsRow W1.heap.size 5 1 (.slice a L c) L (bl X) ∧ w'.heap[y]? = some (.cells #[.int .i64 (s' : Nat)] 39 (0, 0)) ∧ Kept y W1 w') := by
  cases hok : layOk s rec with
  | false =>
    refine ⟨[], 0, 3, s, rfl, by omega, h.le, (layM_bad x s rec W h.hx h.le hr hok).mono ?_, fun W1 h1 => (rlayM_bad y s rec W1 h1 h.le hr hok).mono ?_⟩
    · rintro r w' ⟨rfl, rfl⟩
      exact ⟨none, 0, rfl, World.ownsRow_nil _ _ _ _, h.hx, Kept.refl _ _⟩
    · rintro r w' ⟨rfl, b⟩
      exact ⟨none, 0, rfl, World.ownsRow_nil _ _ _ _, (b.block y (Array.getElem?_eq_some_iff.1 h1).1).trans h1, Kept.of_below (Nat.le_refl _) b⟩
  | true =>
    have hk := hok
    simp only [layOk, Bool.and_eq_true, decide_eq_true_eq] at hk
    have hLn : (layL s rec.data.toList).length = spanN s rec.size := by
      rw [layL_len]
      congr 1
    refine ⟨layL s rec.data.toList, (layL s rec.data.toList).length, 0, s + (layL s rec.data.toList).length, rfl, by omega, by omega, (layM_ok x s rec W h.hx h.le hok).mono ?_, fun W1 h1 => (rlayM_ok y s rec W1 h1 h.le hok).mono ?_⟩
    · rintro r w' ⟨v, rfl, ho, hx', hk'⟩
      obtain ⟨a, c, rfl⟩ := form_of_row ho
      exact ⟨a, c, rfl, ho, hx', hk'⟩
    · rintro r w' ⟨v, rfl, ho, hx', hk'⟩
      obtain ⟨a, c, rfl⟩ := form_of_row ho
      exact ⟨a, c, rfl, ho, hx', hk'⟩
set_option maxRecDepth 100000 in
set_option maxHeartbeats 8000000 in
theorem lays_walk (size : Int) (a : Option Addr) (ca : Nat) (ks : List ByteArray) (at_ n : Int) (w : World) (hk : StrsAt w a ks) (hks : ∀ s ∈ ks, s.size ≤ 140737488355328) (hl : ks.length ≤ 140737488355328) :
    Calls Try.prog 3 #[.int .i64 size, .slice a ks.length ca, .int .i64 at_, .int .i64 n] w fun r w' => r = .returned (.bool true) ∧ Below w.heap.size w w' := by
  obtain ⟨lv, le, h1, h2⟩ := length_gen at_ n
  have HL1 : Hid _ := h1
  have HL2 : Hid _ := h2
  have q1 : (lv != lv) = false := by simp
  have q2 : (le != le) = false := by simp
  obtain ⟨m, hm⟩ : ∃ m, ks.length = m := ⟨_, rfl⟩
  have HM : Hid _ := hm
  have HK : Hid _ := hk
  have HKS : Hid _ := hks
  rw [hm] at hl ⊢
  clear h1 h2 hk hks hm
  by_cases hbad : size < 0 ∨ 1048576 < size
  · have HN1 : Hid (∀ W : World, Calls Try.prog 11 #[.int .i64 size] W fun r w' => r = .returned (.tuple #[.pointer none, .int .i64 1]) ∧ w' = W) := fun W => newWriter_bad size W hbad
    have HN2 : Hid (∀ W : World, Calls Try.prog 12 #[.int .i64 size] W fun r w' => r = .returned (.tuple #[.pointer none, .int .i64 1]) ∧ w' = W) := fun W => rnew_bad size W hbad
    clear hbad
    go_enter Try.func3, Try.ntmps3
    go_wp2_with fail
    refine (lives_any _).mono ?_
    rintro e w1 ⟨rfl, B1⟩
    go_wp2_with fail
    refine (HL1.out _).mono ?_
    rintro e w2 ⟨rfl, b2⟩
    have B2 := B1.trans (b2.mono B1.size)
    clear b2 B1
    go_wp2_with fail
    refine (HL2.out _).mono ?_
    rintro e w3 ⟨rfl, b3⟩
    have B3 := B2.trans (b3.mono B2.size)
    clear b3 B2
    go_wp2_with fail
    refine (HN1.out _).mono ?_
    rintro e w4 ⟨rfl, hw⟩
    subst hw
    go_wp2_with fail
    refine (HN2.out _).mono ?_
    rintro e w5 ⟨rfl, hw⟩
    subst hw
    go_wp2_with fail
    go_loopw [15] (fun i wr => i = .int .i64 0 ∧ Below w.heap.size w wr) (fun _ _ => 0)
    case atStart => exact ⟨rfl, B3⟩
    case round =>
      obtain ⟨rfl, hB⟩ := hrel
      clear B3
      by_cases hm0 : 0 < m
      all_goals
        go_wp2_with fail
        go_ret
        exact ⟨rfl, hB⟩
  · obtain ⟨s0, rfl⟩ : ∃ s0 : Nat, size = (s0 : Int) := ⟨size.toNat, by omega⟩
    have hs0 : s0 ≤ 1048576 := by omega
    have HN1 : Hid (∀ W : World, Calls Try.prog 11 #[.int .i64 (s0 : Nat)] W fun r w' => r = .returned (.tuple #[.pointer (some ⟨W.heap.size, 0, none⟩), .int .i64 0]) ∧ w' = W.alloc (.cells #[.int .i64 (s0 : Nat)] 59)) := fun W => newWriter_ok s0 W hs0
    have HN2 : Hid (∀ W : World, Calls Try.prog 12 #[.int .i64 (s0 : Nat)] W fun r w' => r = .returned (.tuple #[.pointer (some ⟨W.heap.size, 0, none⟩), .int .i64 0]) ∧ w' = W.alloc (.cells #[.int .i64 (s0 : Nat)] 39)) := fun W => rnew_ok s0 W hs0
    clear hbad
    go_enter Try.func3, Try.ntmps3
    go_wp2_with fail
    refine (lives_any _).mono ?_
    rintro e w1 ⟨rfl, B1⟩
    go_wp2_with fail
    refine (HL1.out _).mono ?_
    rintro e w2 ⟨rfl, b2⟩
    have B2 := B1.trans (b2.mono B1.size)
    clear b2 B1
    go_wp2_with fail
    refine (HL2.out _).mono ?_
    rintro e w3 ⟨rfl, b3⟩
    have B3 := B2.trans (b3.mono B2.size)
    clear b3 B2
    go_wp2_with fail
    refine (HN1.out _).mono ?_
    rintro e w4 ⟨rfl, hw4⟩
    have x4 : w4.heap[w3.heap.size]? = some (.cells #[.int .i64 (s0 : Nat)] 59 (0, 0)) := by rw [hw4]; exact World.alloc_heap_new _ _
    have B4 : Below w.heap.size w w4 := by rw [hw4]; exact B3.alloc B3.size _
    obtain ⟨x, hx⟩ : ∃ x, w3.heap.size = x := ⟨_, rfl⟩
    have hxw : w.heap.size ≤ x := by rw [← hx]; exact B3.size
    rw [hx] at x4
    rw [hx]
    clear hw4 hx B3
    go_wp2_with fail
    refine (HN2.out _).mono ?_
    rintro e w5 ⟨rfl, hw5⟩
    have T5 : Two w w5 x w4.heap.size s0 := by
      refine ⟨?_, ?_, ?_, hs0⟩
      · rw [hw5]; exact (Below.heap_alloc _ _ _ (Array.getElem?_eq_some_iff.1 x4).1).trans x4
      · rw [hw5]; exact World.alloc_heap_new _ _
      · rw [hw5]; exact B4.alloc B4.size _
    obtain ⟨y, hy⟩ : ∃ y, w4.heap.size = y := ⟨_, rfl⟩
    have hyw : w.heap.size ≤ y := by rw [← hy]; exact B4.size
    rw [hy] at T5
    rw [hy]
    clear hw5 hy x4 B4 HN1 HN2 HL1 HL2 q1 q2
    go_wp2_with fail
    go_loopw [15] (fun i wr => ∃ j s : Nat, j ≤ m ∧ i = .int .i64 (j : Nat) ∧ Two w wr x y s) (fun i _ => m - (intOf i).toNat)
    case atStart => exact ⟨0, s0, by omega, rfl, T5⟩
    case round =>
      obtain ⟨j, s, hj, rfl, hT⟩ := hrel
      clear T5
      by_cases hlt : j < m
      · obtain ⟨rec, hrec⟩ : ∃ rec, ks[j]? = some rec := ⟨ks[j]'(by rw [HM.out]; exact hlt), List.getElem?_eq_getElem _⟩
        obtain ⟨b, off, rfl, hb, hc⟩ := HK.out j rec hrec
        have hrs := HKS.out rec (List.mem_of_getElem? hrec)
        have hcw := (hT.bel.cell (p := ⟨b, off + j, none⟩) hb).trans hc
        have HC : Hid _ := hc
        obtain ⟨X, L, ee, s', hXL, hL, hs', H1, H2⟩ := lay_gen hT rec hrs
        have hq : (ee != ee) = false := by simp
        have hq2 : ((s' : Int) != (s' : Int)) = false := by simp
        have HXL : Hid _ := hXL
        have hxy := hT.ne
        have hxl : x < wr.heap.size := (Array.getElem?_eq_some_iff.1 hT.hx).1
        have hyl : y < wr.heap.size := (Array.getElem?_eq_some_iff.1 hT.hy).1
        have HH1 : Hid _ := H1
        have HH2 : Hid _ := H2
        have hwr := hT.bel.size
        have HTW : Hid _ := hT
        clear hrec hc hT H1 H2 hXL
        go_wp2_with fail
        refine Calls.mono HH1.out ?_
        rintro e w6 ⟨a1, c1, rfl, o1, x6, k6⟩
        have y6 := (k6.block y hyl hxy.symm).trans HTW.out.hy
        have c6 : w6.cell? ⟨b, off + j, none⟩ = some (.string rec) := (cell_of_heap (k6.block b (by omega) (by omega)) _).trans hcw
        have B6 : Below w.heap.size w w6 := HTW.out.bel.trans (k6.below hxw hwr)
        go_wp2_with fail
        refine Calls.mono (HH2.out _ y6) ?_
        rintro e w7 ⟨a2, c2, rfl, o2, y7, k7⟩
        have x7 := (k7.block x (Nat.lt_of_lt_of_le hxl k6.size) hxy).trans x6
        have B7 : Below w.heap.size w w7 := B6.trans (k7.below hyw B6.size)
        have o17 : w7.ownsRow wr.heap.size 5 1 (.slice a1 L c1) L (bl X) := owns_same o1 (fun g hg => k7.block g (o1.lt g hg).2 (fun e => by have := (o1.lt g hg).1; omega))
        have p1 := bytes_of_owns o17 HXL.out
        have p2 := bytes_of_owns o2 HXL.out
        have HSM : Hid (∀ q : Nat, Calls Try.prog 15 #[.slice a1 L c1, .slice a2 L c2] (w7.drewN q) fun r w' => r = .returned (.bool true) ∧ ∃ n, w' = (w7.drewN q).drewN n) := fun q => by
          have h := sameBytes_any a1 a2 c1 c2 X X (w7.drewN q) (p1.below (Nat.le_refl _) (belD _ _)) (p2.below (Nat.le_refl _) (belD _ _)) (by rw [HXL.out]; omega)
          rw [HXL.out, decide_eq_true rfl] at h
          exact h
        have HSZ : Hid (∀ q : Nat, Calls Try.prog 16 #[.pointer (some ⟨x, 0, none⟩)] (w7.drewN q) fun r w' => r = .returned (.int .i64 (s' : Nat)) ∧ w' = w7.drewN q) := fun q => size_any x s' (w7.drewN q) x7
        have cy7 := cells_of_block y7 0
        simp only [List.getElem?_toArray, List.getElem?_cons_zero] at cy7
        have T7 : Two w w7 x y s' := ⟨x7, y7, B7, hs'⟩
        clear o1 o2 x6 y6 x7 y7 k6 k7 B6 c6 p1 p2 hcw
        go_wp2_with fail
        go_quiet (first | (go_at_call 15; exact Calls.quiet_of (HSM.out _)) | (go_at_call 16; exact Calls.quiet_of_same (HSZ.out _)))
        have T8 : Two w (w7.drewN nq) x y s' := ⟨T7.hx, T7.hy, T7.bel.trans (belD _ _ |>.mono T7.bel.size), hs'⟩
        have o18 : (w7.drewN nq).ownsRow wr.heap.size 5 1 (.slice a1 L c1) L (bl X) := o17
        clear T7 o17 HSM HSZ cy7
        generalize w7.drewN nq = w8 at *
        obtain ⟨B0, hB0⟩ : ∃ B0, wr.heap.size = B0 := ⟨_, rfl⟩
        rw [hB0] at o18 hxl hyl hwr
        clear hB0 HTW HH1 HH2
        go_wp2_with fail
        go_loopw [20] (fun r20 wq => ∃ (k : Nat) (Y : List UInt8), k ≤ L ∧ r20 = .int .i64 (k : Nat) ∧ Y.length = L ∧ Two w wq x y s' ∧ wq.ownsRow B0 5 1 (.slice a1 L c1) L (bl Y)) (fun r20 _ => L - (intOf r20).toNat)
        case atStart => exact ⟨0, X, by omega, rfl, HXL.out, T8, o18⟩
        case round =>
          obtain ⟨k, Y, hkL, rfl, hYL, TT, oo⟩ := hrel
          clear T8 o18
          by_cases hkl : k < L
          · obtain ⟨g, cg, hv⟩ := form_pos oo (by omega)
            simp only [Value.slice.injEq, true_and] at hv
            obtain ⟨rfl, rfl⟩ := hv
            have hgw := (oo.lt g rfl).1
            have ck := oo.cells (g := g) rfl k _ (bl_at (by omega))
            rw [addr_add, Nat.zero_add] at ck
            have fk : wr.frozen? ⟨g, k, none⟩ = false := World.ownsRow.frozenAt oo k
            have HO : Hid ((wr.setCell ⟨g, k, none⟩ (.int .u8 9)).ownsRow B0 5 1 (.slice (some ⟨g, 0, none⟩) L c1) L (bl (Y.set k 9))) := by
              have := (World.ownsRow.stored oo k (.int .u8 9)).1
              rw [show (bl Y).set k (.int .u8 9) = bl (Y.set k 9) by simp [bl, List.map_set]] at this
              exact this
            have HT : Hid (Two w (wr.setCell ⟨g, k, none⟩ (.int .u8 9)) x y s') := ⟨(Below.heap_setCell _ _ _ _ (show x ≠ g by omega)).trans TT.hx, (Below.heap_setCell _ _ _ _ (show y ≠ g by omega)).trans TT.hy, TT.bel.setCell (p := ⟨g, k, none⟩) (by show w.heap.size ≤ g; omega) _, hs'⟩
            have hkI : (k : Int) < (L : Int) := by omega
            clear oo TT
            go_wp2_with fail
            go_roundw
            case rel => exact ⟨k + 1, Y.set k 9, by omega, by go_num, by simpa using hYL, HT.out, HO.out⟩
            case measure => simp [intOf]; omega
          · obtain rfl : k = L := by omega
            clear oo hYL
            go_wp2_with fail
            go_roundw
            case rel => exact ⟨j + 1, s', by omega, by go_num, TT⟩
            case measure => simp [intOf]; omega
      · obtain rfl : j = m := by omega
        have hB := hT.bel
        clear hT
        go_wp2_with fail
        go_ret
        exact ⟨rfl, hB⟩
end Go.Proofs.Ytefigcnfcbdecaa
