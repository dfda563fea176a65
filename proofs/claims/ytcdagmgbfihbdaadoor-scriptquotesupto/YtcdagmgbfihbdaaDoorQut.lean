/-
  Quoted texts: the pure side; the contracts of quoteByte and Quote.
-/
import Derived.Test.YtcdagmgbfihbdaaDoorBld
namespace Go.Proofs.YtcdagmgbfihbdaaDoor
open Go.RowKit
def digitsL : List UInt8 := [48, 49, 50, 51, 52, 53, 54, 55, 56, 57, 97, 98, 99, 100, 101, 102]
def hexL (n : Nat) : UInt8 := digitsL.getD n 0
/-- A byte within a quoted text. -/
def qB (c : UInt8) : List UInt8 := if c.toNat < 32 ∨ 126 < c.toNat then [92, 120, hexL (c.toNat / 16), hexL (c.toNat % 16)] else if c.toNat = 34 ∨ c.toNat = 92 then [92, c] else [c]
def quoteL (l : List UInt8) : List UInt8 := 34 :: (l.flatMap qB ++ [34])
theorem qB_len (c : UInt8) : (qB c).length ≤ 4 := by
  unfold qB
  split
  · simp
  · split <;> simp
theorem qBs_len (l : List UInt8) : (l.flatMap qB).length ≤ 4 * l.length := by
  induction l with
  | nil => simp
  | cons c l ih => have := qB_len c; rw [List.flatMap_cons, List.length_append, List.length_cons]; omega
theorem quoteL_len (l : List UInt8) : (quoteL l).length ≤ 4 * l.length + 2 := by
  have := qBs_len l
  unfold quoteL
  simp only [List.length_cons, List.length_append, List.length_nil]
  omega
theorem hexL_at {q : Nat} (h : q < 16) : ∀ (p : q < (⟨#[48, 49, 50, 51, 52, 53, 54, 55, 56, 57, 97, 98, 99, 100, 101, 102]⟩ : ByteArray).size), (⟨#[48, 49, 50, 51, 52, 53, 54, 55, 56, 57, 97, 98, 99, 100, 101, 102]⟩ : ByteArray)[q]'p = hexL q := by
  intro p
  have : q = 0 ∨ q = 1 ∨ q = 2 ∨ q = 3 ∨ q = 4 ∨ q = 5 ∨ q = 6 ∨ q = 7 ∨ q = 8 ∨ q = 9 ∨ q = 10 ∨ q = 11 ∨ q = 12 ∨ q = 13 ∨ q = 14 ∨ q = 15 := by omega
  rcases this with rfl | rfl | rfl | rfl | rfl | rfl | rfl | rfl | rfl | rfl | rfl | rfl | rfl | rfl | rfl | rfl <;> rfl
theorem run_hexL {q : Nat} (h : q < 16) (W : World) : (Instr.index 9 (.string ⟨#[48, 49, 50, 51, 52, 53, 54, 55, 56, 57, 97, 98, 99, 100, 101, 102]⟩) (.int .u8 (q : Int))).run Tryd.prog W = .ok (.int .u8 ((hexL q).toNat : Int)) W := by
  rw [run_index_string W 9 _ .u8 (q : Int) Tryd.underlying9, dif_pos ⟨by omega, by show (q : Int) < 16; omega⟩]
  congr 3
  exact congrArg UInt8.toNat (hexL_at h (by show q < 16; exact h))
theorem u8_and15 : ∀ x : Fin 256, bits BinOp.and IntKind.u8 ((x.val : Nat) : Int) 15 = ((x.val % 16 : Nat) : Int) := by decide +kernel
set_option maxRecDepth 100000 in
set_option maxHeartbeats 4000000 in
theorem qbyte_any (B T b : Nat) (rest : List Value) (l : List UInt8) (c : UInt8) (w : World) (hL : Lay T (rest.length + 2)) (h : BA B T b rest l w) (hlen : l.length ≤ 140737488355000) (hBw : B ≤ w.heap.size) :
    Calls Tryd.prog 20 #[.pointer (some ⟨b, 0, none⟩), .int .u8 ((c.toNat : Nat) : Int)] w fun e w' => e = .returned (.tuple #[]) ∧ BA B T b rest (l ++ qB c) w' ∧ KP b w w' ∧ Below B w w' := by
  have HW : Hid (∀ (W : World) (m : List UInt8) (d : UInt8), BA B T b rest m W → m.length ≤ 140737488355100 → B ≤ W.heap.size → Calls Tryd.prog 19 #[.pointer (some ⟨b, 0, none⟩), .int .u8 ((d.toNat : Nat) : Int)] W fun e w' => e = .returned .nilIface ∧ BA B T b rest (m ++ [d]) w' ∧ KP b W w' ∧ Below B W w') := fun W m d hm hl hb =>
    (wbyte_any B T b rest m d W hL hm (by omega) hb).mono (fun e w' q => ⟨q.1, q.2.1.ba, q.2.2⟩)
  have HB : Hid (BA B T b rest l w) := h
  obtain ⟨x, hx⟩ : ∃ x, c.toNat = x := ⟨_, rfl⟩
  have hxl : x < 256 := by rw [← hx]; exact c.toNat_lt
  have HX : Hid (c.toNat = x) := hx
  have HL : Hid (l.length ≤ 140737488355000) := hlen
  have HBW : Hid (B ≤ w.heap.size) := hBw
  clear h hL hlen hBw
  by_cases h1 : x < 32 ∨ 126 < x
  · have HQ : Hid (qB c = [92, 120, hexL (x / 16), hexL (x % 16)]) := by unfold Hid qB; rw [hx, if_pos h1]
    have W1 : Hid (∀ W m, BA B T b rest m W → m.length ≤ 140737488355100 → B ≤ W.heap.size → Calls Tryd.prog 19 #[.pointer (some ⟨b, 0, none⟩), .int .u8 92] W fun e w' => e = .returned .nilIface ∧ BA B T b rest (m ++ [92]) w' ∧ KP b W w' ∧ Below B W w') := fun W m => HW.out W m 92
    have W2 : Hid (∀ W m, BA B T b rest m W → m.length ≤ 140737488355100 → B ≤ W.heap.size → Calls Tryd.prog 19 #[.pointer (some ⟨b, 0, none⟩), .int .u8 120] W fun e w' => e = .returned .nilIface ∧ BA B T b rest (m ++ [120]) w' ∧ KP b W w' ∧ Below B W w') := fun W m => HW.out W m 120
    obtain ⟨q1, hq1⟩ : ∃ q, x / 16 = q := ⟨_, rfl⟩
    obtain ⟨q2, hq2⟩ : ∃ q, x % 16 = q := ⟨_, rfl⟩
    have e1 : (x : Int) / 16 = (q1 : Int) := by omega
    have e2 : bits BinOp.and IntKind.u8 (x : Int) 15 = (q2 : Int) := by rw [← hq2]; exact u8_and15 ⟨x, hxl⟩
    have l1 : q1 < 16 := by omega
    have l2 : q2 < 16 := by omega
    rw [hq1, hq2] at HQ
    have r1 := fun W => run_hexL l1 W
    have r2 := fun W => run_hexL l2 W
    have hsplit : (decide (x < 32) = true) ∨ (decide (x < 32) = false ∧ decide (126 < x) = true) := by
      rcases Nat.lt_or_ge x 32 with h | h
      · exact .inl (decide_eq_true h)
      · exact .inr ⟨decide_eq_false (by omega), decide_eq_true (by omega)⟩
    rw [hx]
    clear hx h1 hq1 hq2
    have W3 : Hid (∀ W m, BA B T b rest m W → m.length ≤ 140737488355100 → B ≤ W.heap.size → Calls Tryd.prog 19 #[.pointer (some ⟨b, 0, none⟩), .int .u8 (((hexL q1).toNat : Nat) : Int)] W fun e w' => e = .returned .nilIface ∧ BA B T b rest (m ++ [hexL q1]) w' ∧ KP b W w' ∧ Below B W w') := fun W m => HW.out W m (hexL q1)
    have W4 : Hid (∀ W m, BA B T b rest m W → m.length ≤ 140737488355100 → B ≤ W.heap.size → Calls Tryd.prog 19 #[.pointer (some ⟨b, 0, none⟩), .int .u8 (((hexL q2).toNat : Nat) : Int)] W fun e w' => e = .returned .nilIface ∧ BA B T b rest (m ++ [hexL q2]) w' ∧ KP b W w' ∧ Below B W w') := fun W m => HW.out W m (hexL q2)
    rcases hsplit with d1 | ⟨d1, d2⟩
    · have z1 : ((x : Nat) : Int) < 32 := by have := of_decide_eq_true d1; omega
      go_enter Tryd.func20, Tryd.ntmps20
      go_wp2_with fail
      refine Calls.mono (W1.out _ _ HB.out (by have := HL.out; simp; omega) (by have := HBW.out; omega)) ?_
      rintro e w1 ⟨rfl, hb1, hk1, hl1⟩
      have HB1 : Hid _ := hb1
      have HK1 : Hid (KP b w w1) := hk1
      have HE1 : Hid (Below B w w1) := hl1
      have HS1 : Hid (w.heap.size ≤ w1.heap.size) := HE1.out.size
      clear hb1 hk1 hl1
      go_wp2_with fail
      refine Calls.mono (W2.out _ _ HB1.out (by have := HL.out; simp; omega) (by have := HBW.out; have := HS1.out; omega)) ?_
      rintro e w2 ⟨rfl, hb2, hk2, hl2⟩
      have HB2 : Hid _ := hb2
      have HK2 : Hid (KP b w w2) := HK1.out.trans hk2
      have HE2 : Hid (Below B w w2) := HE1.out.trans hl2
      have HS2 : Hid (w.heap.size ≤ w2.heap.size) := HE2.out.size
      clear hb2 hk2 hl2
      go_wp2_with fail
      refine Calls.mono (W3.out _ _ HB2.out (by have := HL.out; simp; omega) (by have := HBW.out; have := HS2.out; omega)) ?_
      rintro e w3 ⟨rfl, hb3, hk3, hl3⟩
      have HB3 : Hid _ := hb3
      have HK3 : Hid (KP b w w3) := HK2.out.trans hk3
      have HE3 : Hid (Below B w w3) := HE2.out.trans hl3
      have HS3 : Hid (w.heap.size ≤ w3.heap.size) := HE3.out.size
      clear hb3 hk3 hl3
      go_wp2_with fail
      refine Calls.mono (W4.out _ _ HB3.out (by have := HL.out; simp; omega) (by have := HBW.out; have := HS3.out; omega)) ?_
      rintro e w4 ⟨rfl, hb4, hk4, hl4⟩
      have HB4 : Hid _ := hb4
      have HK4 : Hid (KP b w w4) := HK3.out.trans hk4
      have HE4 : Hid (Below B w w4) := HE3.out.trans hl4
      have HS4 : Hid (w.heap.size ≤ w4.heap.size) := HE4.out.size
      clear hb4 hk4 hl4
      go_wp2_with fail
      go_end0
      exact ⟨rfl, by have this : BA B T b rest (l ++ [92] ++ [120] ++ [hexL q1] ++ [hexL q2]) w4 := HB4.out; (try simp only [List.append_assoc, List.cons_append, List.nil_append] at this); rw [HQ.out]; exact this, HK4.out, HE4.out⟩
    · have z1 : ¬ ((x : Nat) : Int) < 32 := by have := of_decide_eq_false d1; omega
      have z2 : (126 : Int) < ((x : Nat) : Int) := by have := of_decide_eq_true d2; omega
      go_enter Tryd.func20, Tryd.ntmps20
      go_wp2_with fail
      refine Calls.mono (W1.out _ _ HB.out (by have := HL.out; simp; omega) (by have := HBW.out; omega)) ?_
      rintro e w1 ⟨rfl, hb1, hk1, hl1⟩
      have HB1 : Hid _ := hb1
      have HK1 : Hid (KP b w w1) := hk1
      have HE1 : Hid (Below B w w1) := hl1
      have HS1 : Hid (w.heap.size ≤ w1.heap.size) := HE1.out.size
      clear hb1 hk1 hl1
      go_wp2_with fail
      refine Calls.mono (W2.out _ _ HB1.out (by have := HL.out; simp; omega) (by have := HBW.out; have := HS1.out; omega)) ?_
      rintro e w2 ⟨rfl, hb2, hk2, hl2⟩
      have HB2 : Hid _ := hb2
      have HK2 : Hid (KP b w w2) := HK1.out.trans hk2
      have HE2 : Hid (Below B w w2) := HE1.out.trans hl2
      have HS2 : Hid (w.heap.size ≤ w2.heap.size) := HE2.out.size
      clear hb2 hk2 hl2
      go_wp2_with fail
      refine Calls.mono (W3.out _ _ HB2.out (by have := HL.out; simp; omega) (by have := HBW.out; have := HS2.out; omega)) ?_
      rintro e w3 ⟨rfl, hb3, hk3, hl3⟩
      have HB3 : Hid _ := hb3
      have HK3 : Hid (KP b w w3) := HK2.out.trans hk3
      have HE3 : Hid (Below B w w3) := HE2.out.trans hl3
      have HS3 : Hid (w.heap.size ≤ w3.heap.size) := HE3.out.size
      clear hb3 hk3 hl3
      go_wp2_with fail
      refine Calls.mono (W4.out _ _ HB3.out (by have := HL.out; simp; omega) (by have := HBW.out; have := HS3.out; omega)) ?_
      rintro e w4 ⟨rfl, hb4, hk4, hl4⟩
      have HB4 : Hid _ := hb4
      have HK4 : Hid (KP b w w4) := HK3.out.trans hk4
      have HE4 : Hid (Below B w w4) := HE3.out.trans hl4
      have HS4 : Hid (w.heap.size ≤ w4.heap.size) := HE4.out.size
      clear hb4 hk4 hl4
      go_wp2_with fail
      go_end0
      exact ⟨rfl, by have this : BA B T b rest (l ++ [92] ++ [120] ++ [hexL q1] ++ [hexL q2]) w4 := HB4.out; (try simp only [List.append_assoc, List.cons_append, List.nil_append] at this); rw [HQ.out]; exact this, HK4.out, HE4.out⟩
  · have z1 : ¬ ((x : Nat) : Int) < 32 := by omega
    have z2 : ¬ (126 : Int) < ((x : Nat) : Int) := by omega
    have d1 : decide (x < 32) = false := decide_eq_false (by omega)
    have d2 : decide (126 < x) = false := decide_eq_false (by omega)
    have W0 : Hid (∀ W m, BA B T b rest m W → m.length ≤ 140737488355100 → B ≤ W.heap.size → Calls Tryd.prog 19 #[.pointer (some ⟨b, 0, none⟩), .int .u8 ((x : Nat) : Int)] W fun e w' => e = .returned .nilIface ∧ BA B T b rest (m ++ [c]) w' ∧ KP b W w' ∧ Below B W w') := fun W m => by rw [← HX.out]; exact HW.out W m c
    have W1 : Hid (∀ W m, BA B T b rest m W → m.length ≤ 140737488355100 → B ≤ W.heap.size → Calls Tryd.prog 19 #[.pointer (some ⟨b, 0, none⟩), .int .u8 92] W fun e w' => e = .returned .nilIface ∧ BA B T b rest (m ++ [92]) w' ∧ KP b W w' ∧ Below B W w') := fun W m => HW.out W m 92
    by_cases h2 : x = 34 ∨ x = 92
    · have HQ : Hid (qB c = [92, c]) := by unfold Hid qB; rw [hx, if_neg h1, if_pos h2]
      rw [hx]
      have hsp : (((x : Nat) : Int) == 34) = true ∨ ((((x : Nat) : Int) == 34) = false ∧ (((x : Nat) : Int) == 92) = true) := by
        rcases h2 with h | h
        · exact .inl (by rw [h]; rfl)
        · exact .inr (by rw [h]; exact ⟨rfl, rfl⟩)
      clear hx h1 h2
      rcases hsp with y1 | ⟨y1, y2⟩
      · skip
        go_enter Tryd.func20, Tryd.ntmps20
        go_wp2_with fail
        refine Calls.mono (W1.out _ _ HB.out (by have := HL.out; simp; omega) (by have := HBW.out; omega)) ?_
        rintro e w1 ⟨rfl, hb1, hk1, hl1⟩
        have HB1 : Hid _ := hb1
        have HK1 : Hid (KP b w w1) := hk1
        have HE1 : Hid (Below B w w1) := hl1
        have HS1 : Hid (w.heap.size ≤ w1.heap.size) := HE1.out.size
        clear hb1 hk1 hl1
        go_wp2_with fail
        refine Calls.mono (W0.out _ _ HB1.out (by have := HL.out; simp; omega) (by have := HBW.out; have := HS1.out; omega)) ?_
        rintro e w2 ⟨rfl, hb2, hk2, hl2⟩
        have HB2 : Hid _ := hb2
        have HK2 : Hid (KP b w w2) := HK1.out.trans hk2
        have HE2 : Hid (Below B w w2) := HE1.out.trans hl2
        have HS2 : Hid (w.heap.size ≤ w2.heap.size) := HE2.out.size
        clear hb2 hk2 hl2
        go_wp2_with fail
        go_end0
        exact ⟨rfl, by have this : BA B T b rest (l ++ [92] ++ [c]) w2 := HB2.out; (try simp only [List.append_assoc, List.cons_append, List.nil_append] at this); rw [HQ.out]; exact this, HK2.out, HE2.out⟩
      · skip
        go_enter Tryd.func20, Tryd.ntmps20
        go_wp2_with fail
        refine Calls.mono (W1.out _ _ HB.out (by have := HL.out; simp; omega) (by have := HBW.out; omega)) ?_
        rintro e w1 ⟨rfl, hb1, hk1, hl1⟩
        have HB1 : Hid _ := hb1
        have HK1 : Hid (KP b w w1) := hk1
        have HE1 : Hid (Below B w w1) := hl1
        have HS1 : Hid (w.heap.size ≤ w1.heap.size) := HE1.out.size
        clear hb1 hk1 hl1
        go_wp2_with fail
        refine Calls.mono (W0.out _ _ HB1.out (by have := HL.out; simp; omega) (by have := HBW.out; have := HS1.out; omega)) ?_
        rintro e w2 ⟨rfl, hb2, hk2, hl2⟩
        have HB2 : Hid _ := hb2
        have HK2 : Hid (KP b w w2) := HK1.out.trans hk2
        have HE2 : Hid (Below B w w2) := HE1.out.trans hl2
        have HS2 : Hid (w.heap.size ≤ w2.heap.size) := HE2.out.size
        clear hb2 hk2 hl2
        go_wp2_with fail
        go_end0
        exact ⟨rfl, by have this : BA B T b rest (l ++ [92] ++ [c]) w2 := HB2.out; (try simp only [List.append_assoc, List.cons_append, List.nil_append] at this); rw [HQ.out]; exact this, HK2.out, HE2.out⟩
    · have HQ : Hid (qB c = [c]) := by unfold Hid qB; rw [hx, if_neg h1, if_neg h2]
      rw [hx]
      have y1 : (((x : Nat) : Int) == 34) = false := by simp; omega
      have y2 : (((x : Nat) : Int) == 92) = false := by simp; omega
      clear hx h1 h2
      go_enter Tryd.func20, Tryd.ntmps20
      go_wp2_with fail
      refine Calls.mono (W0.out _ _ HB.out (by have := HL.out; simp; omega) (by have := HBW.out; omega)) ?_
      rintro e w1 ⟨rfl, hb1, hk1, hl1⟩
      have HB1 : Hid _ := hb1
      have HK1 : Hid (KP b w w1) := hk1
      have HE1 : Hid (Below B w w1) := hl1
      have HS1 : Hid (w.heap.size ≤ w1.heap.size) := HE1.out.size
      clear hb1 hk1 hl1
      go_wp2_with fail
      go_end0
      exact ⟨rfl, by have this : BA B T b rest (l ++ [c]) w1 := HB1.out; (try simp only [List.append_assoc, List.cons_append, List.nil_append] at this); rw [HQ.out]; exact this, HK1.out, HE1.out⟩
theorem layB : Lay 48 2 := ⟨by kernel_rfl, by decide⟩
theorem fresh_ba (W : World) : BA W.heap.size 48 W.heap.size [] [] (W.alloc (.cells #[.pointer none, .slice none 0 0] 48)) :=
  ⟨Nat.le_refl _, _, _, block_alloc_at _ _, World.ownsRow_nil _ _ _ _, .inl rfl⟩
theorem run_byteB (l : List UInt8) {k : Nat} {c : UInt8} (hk : l[k]? = some c) (W : World) : (Instr.index 9 (.string (bOf l)) (.int .i64 ((k : Nat) : Int))).run Tryd.prog W = .ok (.int .u8 ((c.toNat : Nat) : Int)) W := by
  have hlt : k < l.length := (List.getElem?_eq_some_iff.1 hk).1
  have hlt' : k < (bOf l).size := by rw [bOf_size]; exact hlt
  rw [run_index_string W 9 _ .i64 (k : Int) Tryd.underlying9, dif_pos ⟨by omega, by omega⟩]
  congr 3
  have e : (bOf l)[k]'hlt' = c := by
    have := (List.getElem?_eq_some_iff.1 hk).2
    rw [← this]
    rfl
  rw [← e]
  rfl
set_option maxRecDepth 100000 in
set_option maxHeartbeats 4000000 in
theorem quote_any (l : List UInt8) (w : World) (hlen : l.length ≤ 30000000000000) :
    Calls Tryd.prog 8 #[.string (bOf l)] w fun e w' => e = .returned (.string (bOf (quoteL l))) ∧ Below w.heap.size w w' := by
  obtain ⟨B, hB⟩ : ∃ q, w.heap.size = q := ⟨_, rfl⟩
  obtain ⟨W0, hW0⟩ : ∃ V, w.alloc (.cells #[.pointer none, .slice none 0 0] 48) = V := ⟨_, rfl⟩
  have HA0 : Hid (BA B 48 B [] [] W0) := by rw [Hid, ← hW0, ← hB]; exact fresh_ba w
  have HE0 : Hid (Below B w W0) := by rw [Hid, ← hW0, ← hB]; exact below_new _ _
  have HBB : Hid (w.heap.size = B) := hB
  have HL : Hid (l.length ≤ 30000000000000) := hlen
  have HWB : Hid (∀ (W : World) (m : List UInt8), BA B 48 B [] m W → m.length ≤ 140737488355100 → B ≤ W.heap.size → Calls Tryd.prog 19 #[.pointer (some ⟨B, 0, none⟩), .int .u8 34] W fun e w' => e = .returned .nilIface ∧ BA B 48 B [] (m ++ [34]) w' ∧ Below B W w') := fun W m hm hl hb =>
    (wbyte_any B 48 B [] m 34 W layB hm (by omega) hb).mono (fun e w' q => ⟨q.1, q.2.1.ba, q.2.2.2⟩)
  obtain ⟨n, hn⟩ : ∃ q, l.length = q := ⟨_, rfl⟩
  have HN : Hid (l.length = n) := hn
  have hsz : (bOf l).size = n := by rw [bOf_size]; exact hn
  have hn3 : n ≤ 30000000000000 := by omega
  rw [hB]
  clear hlen hn
  go_enter Tryd.func8, Tryd.ntmps8
  go_wp2_with fail
  clear hW0 hB
  refine Calls.mono (HWB.out _ _ HA0.out (by simp) (le_s HBB.out HE0.out)) ?_
  rintro e w1 ⟨rfl, ha1, hb1⟩
  have HA1 : Hid (BA B 48 B [] ([] ++ [34]) w1) := ha1
  have HE1 : Hid (Below B w w1) := HE0.out.trans hb1
  clear ha1 hb1
  go_wp2_with fail
  go_loopw [8] (fun i wr => ∃ k : Nat, k ≤ n ∧ i = .int .i64 ((k : Nat) : Int) ∧ Hid (BA B 48 B [] (34 :: (l.take k).flatMap qB) wr) ∧ Hid (Below B w wr)) (fun i _ => n - (intOf i).toNat)
  case atStart => exact ⟨0, by omega, rfl, HA1.out, HE1.out⟩
  case round =>
    obtain ⟨k, hk, rfl, HA, HE⟩ := hrel
    by_cases hlt : k < n
    · have hlz : ((k : Nat) : Int) < ((n : Nat) : Int) := by omega
      obtain ⟨c, hc⟩ : ∃ c, l[k]? = some c := ⟨_, List.getElem?_eq_getElem (by rw [HN.out]; exact hlt)⟩
      have r0 := fun W => run_byteB l hc W
      have HTK : Hid ((l.take (k + 1)).flatMap qB = (l.take k).flatMap qB ++ qB c) := by rw [Hid, List.take_add_one, hc, Option.toList, List.flatMap_append]; simp
      have HLN : Hid ((34 :: (l.take k).flatMap qB).length ≤ 140737488355000) := by
        have := qBs_len (l.take k)
        rw [List.length_take] at this
        rw [Hid, List.length_cons]
        omega
      have HQB : Hid (∀ _ : Unit, _) := fun _ => qbyte_any B 48 B [] _ c wr layB HA.out HLN.out (le_s HBB.out HE.out)
      clear hc
      go_wp2_with fail
      refine Calls.mono (HQB.out ()) ?_
      rintro e w2 ⟨rfl, ha2, _, hb2⟩
      have HA2 : Hid (BA B 48 B [] (34 :: (l.take (k + 1)).flatMap qB) w2) := by rw [HTK.out]; exact ha2
      have HE2 : Hid (Below B w w2) := HE.out.trans hb2
      clear ha2 hb2 HQB
      go_wp2_with fail
      go_roundw
      case rel => exact ⟨k + 1, by omega, by go_num, HA2.out, HE2.out⟩
      case measure => simp [intOf]; omega
    · obtain rfl : k = n := by omega
      have hlz : ¬ ((k : Nat) : Int) < ((k : Nat) : Int) := by omega
      have HLN : Hid ((34 :: (l.take k).flatMap qB).length ≤ 140737488355000) := by
        have := qBs_len (l.take k)
        rw [List.length_take] at this
        rw [Hid, List.length_cons]
        omega
      have HCL : Hid (∀ _ : Unit, _) := fun _ => HWB.out _ _ HA.out (by have := HLN.out; omega) (le_s HBB.out HE.out)
      go_wp2_with fail
      refine Calls.mono (HCL.out ()) ?_
      rintro e w3 ⟨rfl, ha3, hb3⟩
      have HA3 : Hid (BA B 48 B [] (quoteL l) w3) := by
        have e : quoteL l = 34 :: (l.take k).flatMap qB ++ [34] := by rw [← HN.out, List.take_length]; rfl
        rw [Hid, e]
        exact ha3
      have HE3 : Hid (Below B w w3) := HE.out.trans hb3
      clear ha3 hb3 HCL
      go_wp2_with fail
      refine Calls.mono (bstr_any B 48 B [] (quoteL l) w3 HA3.out (by unfold quoteL; simp)) ?_
      rintro e w4 ⟨rfl, hb4⟩
      have HE4 : Hid (Below B w w4) := HE3.out.trans hb4
      clear hb4
      go_wp2_with fail
      go_ret
      exact ⟨rfl, HE4.out⟩
end Go.Proofs.YtcdagmgbfihbdaaDoor
