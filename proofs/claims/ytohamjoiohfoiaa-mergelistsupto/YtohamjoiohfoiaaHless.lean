/-
  Which of two heads comes out first.
-/
import Derived.Test.YtohamjoiohfoiaaHeap0
namespace Go.Proofs.Ytohamjoiohfoiaa
open Go.RowKit
/-- Does head a come out ahead of head b? -/
def lessH (ca cb : Cl) (na nb : Nat) : Bool := lessC ca cb || (!lessC cb ca && decide (na < nb))
set_option maxRecDepth 100000 in
set_option maxHeartbeats 4000000 in
theorem hless_any (z p i j : Nat) (hs : List Hd) (x y : Hd) (cx cy : Cl) (W : World) (h : HAt z W p hs) (hx : hs[i]? = some x) (hy : hs[j]? = some y) (hcx : x.cs[0]? = some cx) (hcy : y.cs[0]? = some cy) :
    Calls Try.prog 65 #[.pointer (some ⟨p, 0, none⟩), .int .i64 (i : Nat), .int .i64 (j : Nat)] W fun r W' => r = .returned (.bool (lessH cx cy x.nth y.nth)) ∧ Below W.heap.size W W' := by
  obtain ⟨g, cap, c0, hat⟩ := h.at
  obtain ⟨a0, a1⟩ := hat i x hx
  obtain ⟨b0, b1⟩ := hat j y hy
  have hi := (List.getElem?_eq_some_iff.1 hx).1
  have hj := (List.getElem?_eq_some_iff.1 hy).1
  rw [hdS] at a0 b0
  obtain ⟨n, hn⟩ : ∃ n, hs.length = n := ⟨_, rfl⟩
  rw [hn] at c0 hi hj
  clear hat hn
  have S0 : W.cell? ⟨p, 0, none⟩ = some (.slice (some ⟨g, 0, none⟩) n cap) ∧ W.cell? ⟨g, i * 2, none⟩ = some (.slice (some ⟨x.b, x.off, none⟩) x.cs.length x.cap) ∧ W.cell? ⟨g, i * 2 + 1, none⟩ = some (.int .i64 (x.nth : Nat)) ∧ W.cell? ⟨g, j * 2, none⟩ = some (.slice (some ⟨y.b, y.off, none⟩) y.cs.length y.cap) ∧ W.cell? ⟨g, j * 2 + 1, none⟩ = some (.int .i64 (y.nth : Nat)) := ⟨c0, a0, a1, b0, b1⟩
  have n1 : W.heap.size ≠ p := World.new_ne W _ c0
  have n2 : W.heap.size ≠ g := World.new_ne W _ a0
  have n3 : W.heap.size + 1 ≠ p := by have := World.block_lt_of_cell? W _ c0; simp at this; omega
  have n4 : W.heap.size + 1 ≠ g := by have := World.block_lt_of_cell? W _ a0; simp at this; omega
  have xe := h.each x (List.mem_of_getElem? hx)
  have ye := h.each y (List.mem_of_getElem? hy)
  obtain ⟨bx, ox, ex, _, p0, p1, p2, p3⟩ := xe.1 0 cx hcx
  obtain ⟨by', oy, ey, _, q0, q1, q2, q3⟩ := ye.1 0 cy hcy
  have hxl : 0 < x.cs.length := (List.getElem?_eq_some_iff.1 hcx).1
  have hyl : 0 < y.cs.length := (List.getElem?_eq_some_iff.1 hcy).1
  simp only [Option.some.injEq, Addr.mk.injEq, and_true] at ex ey
  obtain ⟨rfl, rfl⟩ := ex
  obtain ⟨rfl, rfl⟩ := ey
  simp only [Nat.zero_mul, Nat.add_zero] at p0 p1 p2 p3 q0 q1 q2 q3
  clear h hx hy hcx hcy xe ye
  go_enter Try.func65, Try.ntmps65
  go_wp2_with fail
  go_cut [7, 8] from 9 (fun s7 s8 wx => ∃ x7 x8, s7 = .pointer (some ⟨x7, 0, none⟩) ∧ s8 = .pointer (some ⟨x8, 0, none⟩) ∧ Hid (wx.heap[x7]? = some (.cells #[.slice (some ⟨x.b, x.off, none⟩) x.cs.length x.cap, .int .i64 (x.nth : Nat)] 72 (0, 0)) ∧ wx.heap[x8]? = some (.cells #[.slice (some ⟨y.b, y.off, none⟩) y.cs.length y.cap, .int .i64 (y.nth : Nat)] 72 (0, 0)) ∧ Below W.heap.size W wx))
  case first =>
    go_region_held (fun w => w.cell? ⟨p, 0, none⟩ = some (.slice (some ⟨g, 0, none⟩) n cap) ∧ w.cell? ⟨g, i * 2, none⟩ = some (.slice (some ⟨x.b, x.off, none⟩) x.cs.length x.cap) ∧ w.cell? ⟨g, i * 2 + 1, none⟩ = some (.int .i64 (x.nth : Nat)) ∧ w.cell? ⟨g, j * 2, none⟩ = some (.slice (some ⟨y.b, y.off, none⟩) y.cs.length y.cap) ∧ w.cell? ⟨g, j * 2 + 1, none⟩ = some (.int .i64 (y.nth : Nat))) (first | assumption | go_keep) (fail)
    all_goals
      go_wp2_with fail
      go_meet
    · refine ⟨_, _, rfl, rfl, ?_, ?_, ?_⟩
      · exact (Below.heap_alloc _ _ _ (by simp)).trans (World.alloc_heap_new _ _)
      · have := World.alloc_heap_new (W.alloc (.cells #[.slice (some ⟨x.b, x.off, none⟩) x.cs.length x.cap, .int .i64 (x.nth : Nat)] 72)) (.cells #[.slice (some ⟨y.b, y.off, none⟩) y.cs.length y.cap, .int .i64 (y.nth : Nat)] 72)
        rw [World.size_alloc] at this
        exact this
      · exact (((Below.refl _ W).alloc (Nat.le_refl _) _).alloc (by simp) _).drew
    · refine ⟨_, _, rfl, rfl, ?_, ?_, ?_⟩
      · have := World.alloc_heap_new (W.alloc (.cells #[.slice (some ⟨y.b, y.off, none⟩) y.cs.length y.cap, .int .i64 (y.nth : Nat)] 72)) (.cells #[.slice (some ⟨x.b, x.off, none⟩) x.cs.length x.cap, .int .i64 (x.nth : Nat)] 72)
        rw [World.size_alloc] at this
        exact this
      · exact (Below.heap_alloc _ _ _ (by simp)).trans (World.alloc_heap_new _ _)
      · exact (((Below.refl _ W).alloc (Nat.le_refl _) _).alloc (by simp) _).drew
  case rest =>
  obtain ⟨x7, x8, rfl, rfl, HC⟩ := hcut
  obtain ⟨W1, hW1⟩ : ∃ W1, wc = W1 := ⟨_, rfl⟩
  rw [hW1] at HC ⊢
  clear hW1 c0 a0 a1 b0 b1 S0 n1 n2 n3 n4
  obtain ⟨xb, xo, xc, xcs, nx⟩ := x
  obtain ⟨yb, yo, yc, ycs, ny⟩ := y
  obtain ⟨k1, s1, v1, g1⟩ := cx
  obtain ⟨k2, s2, v2, g2⟩ := cy
  simp only at HC p0 p1 p2 p3 q0 q1 q2 q3 hxl hyl
  obtain ⟨xn, hxn⟩ : ∃ xn, xcs.length = xn := ⟨_, rfl⟩
  obtain ⟨yn, hyn⟩ : ∃ yn, ycs.length = yn := ⟨_, rfl⟩
  rw [hxn] at HC hxl
  rw [hyn] at HC hyl
  have up : ∀ {a : Addr} {v : Value}, W.cell? a = some v → W1.cell? a = some v := fun {a v} e => (HC.out.2.2.cell (p := a) (World.block_lt_of_cell? W _ e)).trans e
  have S1 : W1.cell? ⟨x7, 0, none⟩ = some (.slice (some ⟨xb, xo, none⟩) xn xc) ∧ W1.cell? ⟨x7, 1, none⟩ = some (.int .i64 (nx : Nat)) ∧ W1.cell? ⟨x8, 0, none⟩ = some (.slice (some ⟨yb, yo, none⟩) yn yc) ∧ W1.cell? ⟨x8, 1, none⟩ = some (.int .i64 (ny : Nat)) ∧ W1.cell? ⟨xb, xo, none⟩ = some (.string k1) ∧ W1.cell? ⟨xb, xo + 1, none⟩ = some (.int .u64 (s1 : Nat)) ∧ W1.cell? ⟨xb, xo + 2, none⟩ = some (.string v1) ∧ W1.cell? ⟨xb, xo + 3, none⟩ = some (.bool g1) ∧ W1.cell? ⟨yb, yo, none⟩ = some (.string k2) ∧ W1.cell? ⟨yb, yo + 1, none⟩ = some (.int .u64 (s2 : Nat)) ∧ W1.cell? ⟨yb, yo + 2, none⟩ = some (.string v2) ∧ W1.cell? ⟨yb, yo + 3, none⟩ = some (.bool g2) := ⟨by have := cells_of_block HC.out.1 0; simpa using this, by have := cells_of_block HC.out.1 1; simpa using this, by have := cells_of_block HC.out.2.1 0; simpa using this, by have := cells_of_block HC.out.2.1 1; simpa using this, up p0, up p1, up p2, up p3, up q0, up q1, up q2, up q3⟩
  obtain ⟨e0, e1, e2, e3, f0, f1, f2, f3, f4, f5, f6, f7⟩ := id S1
  have HUP : Hid (∀ V, Below W1.heap.size W1 V → V.cell? ⟨x7, 0, none⟩ = some (.slice (some ⟨xb, xo, none⟩) xn xc) ∧ V.cell? ⟨x7, 1, none⟩ = some (.int .i64 (nx : Nat)) ∧ V.cell? ⟨x8, 0, none⟩ = some (.slice (some ⟨yb, yo, none⟩) yn yc) ∧ V.cell? ⟨x8, 1, none⟩ = some (.int .i64 (ny : Nat)) ∧ V.cell? ⟨xb, xo, none⟩ = some (.string k1) ∧ V.cell? ⟨xb, xo + 1, none⟩ = some (.int .u64 (s1 : Nat)) ∧ V.cell? ⟨xb, xo + 2, none⟩ = some (.string v1) ∧ V.cell? ⟨xb, xo + 3, none⟩ = some (.bool g1) ∧ V.cell? ⟨yb, yo, none⟩ = some (.string k2) ∧ V.cell? ⟨yb, yo + 1, none⟩ = some (.int .u64 (s2 : Nat)) ∧ V.cell? ⟨yb, yo + 2, none⟩ = some (.string v2) ∧ V.cell? ⟨yb, yo + 3, none⟩ = some (.bool g2)) := fun V k => by
    have u : ∀ {a : Addr} {v : Value}, W1.cell? a = some v → V.cell? a = some v := fun {a v} e => (k.cell (p := a) (World.block_lt_of_cell? W1 _ e)).trans e
    exact ⟨u e0, u e1, u e2, u e3, u f0, u f1, u f2, u f3, u f4, u f5, u f6, u f7⟩
  have HL1 : Hid (∀ V, Calls Try.prog 10 #[.agg #[.string k1, .int .u64 (s1 : Nat), .string v1, .bool g1], .agg #[.string k2, .int .u64 (s2 : Nat), .string v2, .bool g2]] V fun r w' => r = .returned (.bool (lessC ⟨k1, s1, v1, g1⟩ ⟨k2, s2, v2, g2⟩)) ∧ Below V.heap.size V w') := fun V => less_any ⟨k1, s1, v1, g1⟩ ⟨k2, s2, v2, g2⟩ V
  have HL2 : Hid (∀ V, Calls Try.prog 10 #[.agg #[.string k2, .int .u64 (s2 : Nat), .string v2, .bool g2], .agg #[.string k1, .int .u64 (s1 : Nat), .string v1, .bool g1]] V fun r w' => r = .returned (.bool (lessC ⟨k2, s2, v2, g2⟩ ⟨k1, s1, v1, g1⟩)) ∧ Below V.heap.size V w') := fun V => less_any ⟨k2, s2, v2, g2⟩ ⟨k1, s1, v1, g1⟩ V
  have HBW : Hid (Below W.heap.size W W1) := HC.out.2.2
  clear HC p0 p1 p2 p3 q0 q1 q2 q3 up hxn hyn S1
  cases hb1 : lessC ⟨k1, s1, v1, g1⟩ ⟨k2, s2, v2, g2⟩ with
  | true =>
    rw [hb1] at HL1
    have HR : Hid (lessH ⟨k1, s1, v1, g1⟩ ⟨k2, s2, v2, g2⟩ nx ny = true) := by rw [Hid, lessH, hb1]; rfl
    clear hb1
    go_wp2_with fail
    go_region_with (go_at_call 10; refine Calls.mono (HL1.out _) ?_; rintro e w2 ⟨rfl, k2'⟩; have HB2 : Hid (Below W1.heap.size W1 w2) := (Below.refl _ W1).drew.trans k2'; clear k2')
    all_goals
      go_wp2_with fail
      go_ret
      exact ⟨by rw [HR.out]; rfl, HBW.out.trans (HB2.out.mono HBW.out.size)⟩
  | false =>
    rw [hb1] at HL1
    cases hb2 : lessC ⟨k2, s2, v2, g2⟩ ⟨k1, s1, v1, g1⟩ with
    | true =>
      rw [hb2] at HL2
      have HR : Hid (lessH ⟨k1, s1, v1, g1⟩ ⟨k2, s2, v2, g2⟩ nx ny = false) := by rw [Hid, lessH, hb1, hb2]; rfl
      clear hb1 hb2
      go_wp2_with fail
      go_cut [29] from 21 (fun s29 wx => s29 = .bool false ∧ Hid (Below W1.heap.size W1 wx))
      case first =>
        go_region_with (go_at_call 10; refine Calls.mono (HL1.out _) ?_; rintro e w2 ⟨rfl, k2'⟩; have HB2 : Hid (Below W1.heap.size W1 w2) := (Below.refl _ W1).drew.trans k2'; clear k2')
        all_goals
          go_wp2_with fail
          go_meet
          exact ⟨rfl, HB2.out⟩
      case rest =>
      obtain ⟨rfl, HB2⟩ := hcut
      obtain ⟨w2, hw2⟩ : ∃ w2, wc = w2 := ⟨_, rfl⟩
      rw [hw2] at HB2 ⊢
      clear hw2
      obtain ⟨m0, m1, m2, m3, h0, h1, h2, h3, h4, h5, h6, h7⟩ := HUP.out _ HB2.out
      clear e0 e1 e2 e3 f0 f1 f2 f3 f4 f5 f6 f7
      go_wp2_with fail
      first | go_region_with (go_at_call 10; refine Calls.mono (HL2.out _) ?_; rintro e w4 ⟨rfl, k4'⟩; have HB4 : Hid (Below W1.heap.size W1 w4) := (HB2.out.trans ((Below.refl _ w2).drew.mono HB2.out.size)).trans (k4'.mono HB2.out.size); obtain ⟨r0, r1, r2, r3, _⟩ := HUP.out _ HB4.out; clear k4') | fail
      all_goals
        go_wp2_with fail
        go_ret
        exact ⟨by rw [HR.out]; rfl, HBW.out.trans (HB4.out.mono HBW.out.size)⟩
    | false =>
      rw [hb2] at HL2
      obtain ⟨R, hR⟩ : ∃ R, decide (nx < ny) = R := ⟨_, rfl⟩
      have HR : Hid (lessH ⟨k1, s1, v1, g1⟩ ⟨k2, s2, v2, g2⟩ nx ny = R) := by rw [Hid, lessH, hb1, hb2, hR]; rfl
      have hnd : decide ((nx : Int) < (ny : Int)) = R := by
        rw [← hR]
        by_cases h : nx < ny
        · rw [decide_eq_true h, decide_eq_true (by omega)]
        · rw [decide_eq_false h, decide_eq_false (by omega)]
      clear hb1 hb2
      go_wp2_with fail
      go_cut [29] from 21 (fun s29 wx => s29 = .bool false ∧ Hid (Below W1.heap.size W1 wx))
      case first =>
        go_region_with (go_at_call 10; refine Calls.mono (HL1.out _) ?_; rintro e w2 ⟨rfl, k2'⟩; have HB2 : Hid (Below W1.heap.size W1 w2) := (Below.refl _ W1).drew.trans k2'; clear k2')
        all_goals
          go_wp2_with fail
          go_meet
          exact ⟨rfl, HB2.out⟩
      case rest =>
      obtain ⟨rfl, HB2⟩ := hcut
      obtain ⟨w2, hw2⟩ : ∃ w2, wc = w2 := ⟨_, rfl⟩
      rw [hw2] at HB2 ⊢
      clear hw2
      obtain ⟨m0, m1, m2, m3, h0, h1, h2, h3, h4, h5, h6, h7⟩ := HUP.out _ HB2.out
      clear e0 e1 e2 e3 f0 f1 f2 f3 f4 f5 f6 f7
      go_wp2_with fail
      go_region_with (go_at_call 10; refine Calls.mono (HL2.out _) ?_; rintro e w4 ⟨rfl, k4'⟩; have HB4 : Hid (Below W1.heap.size W1 w4) := (HB2.out.trans ((Below.refl _ w2).drew.mono HB2.out.size)).trans (k4'.mono HB2.out.size); obtain ⟨r0, r1, r2, r3, _⟩ := HUP.out _ HB4.out; clear k4')
      all_goals
        go_wp2_with fail
        go_ret
        exact ⟨by rw [HR.out]; rfl, HBW.out.trans (HB4.out.mono HBW.out.size)⟩
end Go.Proofs.Ytohamjoiohfoiaa
