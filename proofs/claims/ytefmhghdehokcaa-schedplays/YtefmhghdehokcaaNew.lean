/-
  Timings, new loops, new tasks.
-/
import Derived.Test.YtefmhghdehokcaaActs
import Derived.Deep.RegionHeld
namespace Go.Proofs.Ytefmhghdehokcaa
open Go.RowKit
theorem one_of_block {w : World} {g : Nat} {x : Value} {t : TypeId} (h : w.heap[g]? = some (.cells #[x] t (0, 0))) : w.cell? ⟨g, 0, none⟩ = some x := by have := cells_of_block h 0; simpa using this
theorem max011 (w : World) : (Builtin.max_ #[3, 3, 3] 3 #[.int .i64 0, .int .i64 1, .int .i64 1]).run Try.prog w = .ok (.int .i64 1) w := by kernel_rfl
theorem max000 (w : World) : (Builtin.max_ #[3, 3, 3] 3 #[.int .i64 0, .int .i64 0, .int .i64 0]).run Try.prog w = .ok (.int .i64 0) w := by kernel_rfl
set_option maxRecDepth 100000 in
set_option maxHeartbeats 4000000 in
/-- Check of a timing without picks, with one tick and one draw. -/
theorem check_tick (g2 g3 : Nat) (x : Int) (w : World) (h : w.cell? ⟨g2, 0, none⟩ = some (.int .i64 x)) (hx0 : 0 ≤ x) (hx1 : x ≤ 2147483647) :
    Calls Try.prog 34 #[.agg #[.slice none 0 0, .slice (some ⟨g2, 0, none⟩) 1 1, .slice (some ⟨g3, 0, none⟩) 1 1]] w fun r w' => r = .returned (.int .i64 0) ∧ Below w.heap.size w w' := by
  have hg2 := World.block_lt_of_cell? w _ h
  have hb : ∀ o, (w.alloc o).cell? ⟨g2, 0, none⟩ = some (.int .i64 x) := fun o => (((Below.refl w.heap.size w).alloc (Nat.le_refl _) o).cell (p := ⟨g2, 0, none⟩) hg2).trans h
  have hb2 := hb (.cells #[.slice none 0 0, .slice (some ⟨g2, 0, none⟩) 1 1, .slice (some ⟨g3, 0, none⟩) 1 1] 25)
  have d1 : decide (x < 0) = false := decide_eq_false (by omega)
  have d2 : decide (2147483647 < x) = false := decide_eq_false (by omega)
  have mx := max011
  clear h hb
  go_enter Try.func34, Try.ntmps34
  go_wp2_with fail
  refine wp_loop_rounds 1 ?_
  rw [rounds_succ]
  go_wp2_with fail
  refine wp_loop_rounds 2 ?_
  rw [rounds_succ]
  go_wp2_with fail
  rw [rounds_succ]
  go_wp2_with fail
  go_ret
  exact ⟨rfl, (Below.refl _ _).alloc (Nat.le_refl _) _⟩
theorem check_none (w : World) : Calls Try.prog 34 #[.agg #[.slice none 0 0, .slice none 0 0, .slice none 0 0]] w fun r w' => r = .returned (.int .i64 0) ∧ Below w.heap.size w w' := by
  have mx := max000
  go_enter Try.func34, Try.ntmps34
  go_wp2_with fail
  refine wp_loop_rounds 1 ?_
  rw [rounds_succ]
  go_wp2_with fail
  refine wp_loop_rounds 1 ?_
  rw [rounds_succ]
  go_wp2_with fail
  go_ret
  exact ⟨rfl, (Below.refl _ _).alloc (Nat.le_refl _) _⟩
set_option maxRecDepth 100000 in
set_option maxHeartbeats 4000000 in
theorem new_none (w : World) : Calls Try.prog 25 #[.agg #[.slice none 0 0, .slice none 0 0, .slice none 0 0]] w fun r w' => ∃ p, r = .returned (.tuple #[.pointer (some ⟨p, 0, none⟩), .int .i64 0]) ∧ w'.heap[p]? = some (.cells #[.slice none 0 0, .slice none 0 0, .slice none 0 0, .slice none 0 0, .int .i64 0, .int .u64 0, .slice none 0 0, .int .u64 0] 83 (0, 0)) ∧ Below w.heap.size w w' := by
  have HC : Hid (∀ W : World, Calls Try.prog 34 #[.agg #[.slice none 0 0, .slice none 0 0, .slice none 0 0]] W fun r w' => r = .returned (.int .i64 0) ∧ Below W.heap.size W w') := check_none
  have H42 : Hid (∀ W : World, Calls Try.prog 42 #[.slice none 0 0] W fun r w' => r = .returned (.slice none 0 0) ∧ w' = W) := clone22_nil
  have H47 : Hid (∀ W : World, Calls Try.prog 47 #[.slice none 0 0] W fun r w' => r = .returned (.slice none 0 0) ∧ w' = W) := clone23_nil
  go_enter Try.func25, Try.ntmps25
  go_wp2_with fail
  refine (HC.out _).mono ?_
  rintro e w1 ⟨rfl, b1⟩
  have k0 : (w.alloc (.cells #[.slice none 0 0, .slice none 0 0, .slice none 0 0] 25)).heap[w.heap.size]? = some (.cells #[.slice none 0 0, .slice none 0 0, .slice none 0 0] 25 (0, 0)) := World.alloc_heap_new _ _
  have h1 := (b1.block w.heap.size (by simp)).trans k0
  have x0 : w1.cell? ⟨w.heap.size, 0, none⟩ = some (.slice none 0 0) := by have := cells_of_block h1 0; simpa using this
  have x1 : w1.cell? ⟨w.heap.size, 1, none⟩ = some (.slice none 0 0) := by have := cells_of_block h1 1; simpa using this
  have x2 : w1.cell? ⟨w.heap.size, 2, none⟩ = some (.slice none 0 0) := by have := cells_of_block h1 2; simpa using this
  have B1 : Hid (Below w.heap.size w w1) := ((Below.refl _ w).alloc (Nat.le_refl _) _).trans (b1.mono (by simp))
  clear b1 k0 h1
  go_wp2_with fail
  go_region_with (first | (go_at_call 42; refine (H42.out _).mono ?_; rintro e w5 ⟨rfl, hw5⟩; subst hw5) | (go_at_call 47; refine (H47.out _).mono ?_; rintro e w5 ⟨rfl, hw5⟩; subst hw5))
  all_goals
    go_wp2_with fail
    go_ret2
    exact ⟨_, rfl, World.alloc_heap_new _ _, B1.out.drew.alloc B1.out.size _⟩
theorem fin_a {w w1 u v : World} {a b : Nat} {x y : Value} (k1 : Below w.heap.size w w1) (k2 : Below w1.heap.size w1 u) (k3 : Below u.heap.size u v) (ha : u.cell? ⟨a, 0, none⟩ = some x) (hb : v.cell? ⟨b, 0, none⟩ = some y) :
    w.heap.size ≤ v.heap.size ∧ a < v.heap.size ∧ b < v.heap.size ∧ (∀ o, (v.alloc o).cell? ⟨a, 0, none⟩ = some x) ∧ (∀ o, (v.alloc o).cell? ⟨b, 0, none⟩ = some y) ∧ (∀ o, Below w.heap.size w (v.alloc o)) := by
  have hau := World.block_lt_of_cell? u _ ha
  have hbv := World.block_lt_of_cell? v _ hb
  have hau' : a < u.heap.size := hau
  have s1 := k1.size
  have s2 := k2.size
  have s3 := k3.size
  have hav := (k3.cell (p := ⟨a, 0, none⟩) hau).trans ha
  refine ⟨by omega, by omega, hbv, fun o => (((Below.refl v.heap.size v).alloc (Nat.le_refl _) o).cell (p := ⟨a, 0, none⟩) (by show a < v.heap.size; omega)).trans hav, fun o => (((Below.refl v.heap.size v).alloc (Nat.le_refl _) o).cell (p := ⟨b, 0, none⟩) hbv).trans hb, fun o => ?_⟩
  exact ((k1.trans (k2.mono s1)).trans (k3.mono (by omega))).alloc (by omega) o
/-- What is read while a loop is made. -/
def InS (H0 g2 g3 : Nat) (x y : Int) (W : World) : Prop := W.cell? ⟨H0, 0, none⟩ = some (.slice none 0 0) ∧ W.cell? ⟨H0, 1, none⟩ = some (.slice (some ⟨g2, 0, none⟩) 1 1) ∧ W.cell? ⟨H0, 2, none⟩ = some (.slice (some ⟨g3, 0, none⟩) 1 1) ∧ W.cell? ⟨g2, 0, none⟩ = some (.int .i64 x) ∧ W.cell? ⟨g3, 0, none⟩ = some (.int .u64 y)
set_option maxRecDepth 100000 in
set_option maxHeartbeats 8000000 in
/-- New of a timing without picks, with one tick and one draw. -/
theorem new_one (g2 g3 : Nat) (x y : Int) (w : World) (h2 : w.cell? ⟨g2, 0, none⟩ = some (.int .i64 x)) (h3 : w.cell? ⟨g3, 0, none⟩ = some (.int .u64 y)) (hx0 : 0 ≤ x) (hx1 : x ≤ 2147483647) :
    Calls Try.prog 25 #[.agg #[.slice none 0 0, .slice (some ⟨g2, 0, none⟩) 1 1, .slice (some ⟨g3, 0, none⟩) 1 1]] w fun r w' => ∃ p a2 c2 a3 c3, r = .returned (.tuple #[.pointer (some ⟨p, 0, none⟩), .int .i64 0]) ∧
      w'.heap[p]? = some (.cells #[.slice none 0 0, .slice (some ⟨a2, 0, none⟩) 1 c2, .slice none 0 0, .slice none 0 0, .int .i64 0, .int .u64 0, .slice (some ⟨a3, 0, none⟩) 1 c3, .int .u64 0] 83 (0, 0)) ∧ w.heap.size ≤ p ∧ a2 < p ∧ a3 < p ∧ 1 ≤ c3 ∧ w'.cell? ⟨a2, 0, none⟩ = some (.int .i64 x) ∧ w'.cell? ⟨a3, 0, none⟩ = some (.int .u64 y) ∧ w'.heap.size = p + 1 ∧ Below w.heap.size w w' := by
  have HC : Hid (∀ W : World, W.cell? ⟨g2, 0, none⟩ = some (.int .i64 x) → Calls Try.prog 34 #[.agg #[.slice none 0 0, .slice (some ⟨g2, 0, none⟩) 1 1, .slice (some ⟨g3, 0, none⟩) 1 1]] W fun r w' => r = .returned (.int .i64 0) ∧ Below W.heap.size W w') := fun W h => check_tick g2 g3 x W h hx0 hx1
  have H42 : Hid (∀ W : World, Calls Try.prog 42 #[.slice none 0 0] W fun r w' => r = .returned (.slice none 0 0) ∧ w' = W) := clone22_nil
  have H42s : Hid (∀ W : World, W.cell? ⟨g2, 0, none⟩ = some (.int .i64 x) → Calls Try.prog 42 #[.slice (some ⟨g2, 0, none⟩) 1 1] W fun r w' => ∃ g cap, r = .returned (.slice (some ⟨g, 0, none⟩) 1 cap) ∧ W.heap.size ≤ g ∧ w'.cell? ⟨g, 0, none⟩ = some (.int .i64 x) ∧ Below W.heap.size W w') := fun W h => by
    refine (clone22_some ⟨g2, 0, none⟩ 1 1 [.int .i64 x] W (fun j u hj => ?_) (World.block_lt_of_cell? W _ h) rfl (by simp [Value.oneCell']) (by decide)).mono ?_
    · have h0 : j = 0 := by have := (List.getElem?_eq_some_iff.1 hj).1; simp at this; omega
      subst h0
      simp at hj
      rw [addr_add, ← hj]
      exact h
    · rintro r w' ⟨g, cap, rfl, _, ho, hB⟩
      obtain ⟨g', e, hg', hc⟩ := row_cell ho (j := 0) (x := .int .i64 x) rfl
      cases e
      exact ⟨g, cap, rfl, hg', hc, hB⟩
  have H47s : Hid (∀ W : World, W.cell? ⟨g3, 0, none⟩ = some (.int .u64 y) → Calls Try.prog 47 #[.slice (some ⟨g3, 0, none⟩) 1 1] W fun r w' => ∃ g cap, r = .returned (.slice (some ⟨g, 0, none⟩) 1 cap) ∧ W.heap.size ≤ g ∧ 1 ≤ cap ∧ w'.cell? ⟨g, 0, none⟩ = some (.int .u64 y) ∧ Below W.heap.size W w') := fun W h => by
    refine (clone23_some ⟨g3, 0, none⟩ 1 1 [.int .u64 y] W (fun j u hj => ?_) (World.block_lt_of_cell? W _ h) rfl (by simp [Value.oneCell']) (by decide)).mono ?_
    · have h0 : j = 0 := by have := (List.getElem?_eq_some_iff.1 hj).1; simp at this; omega
      subst h0
      simp at hj
      rw [addr_add, ← hj]
      exact h
    · rintro r w' ⟨g, cap, rfl, hcap, ho, hB⟩
      obtain ⟨g', e, hg', hc⟩ := row_cell ho (j := 0) (x := .int .u64 y) rfl
      cases e
      exact ⟨g, cap, rfl, hg', hcap, hc, hB⟩
  have hg2 := World.block_lt_of_cell? w _ h2
  have hg3 := World.block_lt_of_cell? w _ h3
  have l2 : (w.alloc (.cells #[.slice none 0 0, .slice (some ⟨g2, 0, none⟩) 1 1, .slice (some ⟨g3, 0, none⟩) 1 1] 25)).cell? ⟨g2, 0, none⟩ = some (.int .i64 x) := (((Below.refl w.heap.size w).alloc (Nat.le_refl _) _).cell (p := ⟨g2, 0, none⟩) hg2).trans h2
  have l3 : (w.alloc (.cells #[.slice none 0 0, .slice (some ⟨g2, 0, none⟩) 1 1, .slice (some ⟨g3, 0, none⟩) 1 1] 25)).cell? ⟨g3, 0, none⟩ = some (.int .u64 y) := (((Below.refl w.heap.size w).alloc (Nat.le_refl _) _).cell (p := ⟨g3, 0, none⟩) hg3).trans h3
  have L2 : Hid _ := l2
  have L3 : Hid _ := l3
  clear h2 h3 l2 l3
  go_enter Try.func25, Try.ntmps25
  go_wp2_with fail
  refine (HC.out _ L2.out).mono ?_
  rintro e w1 ⟨rfl, b1⟩
  have k0 : (w.alloc (.cells #[.slice none 0 0, .slice (some ⟨g2, 0, none⟩) 1 1, .slice (some ⟨g3, 0, none⟩) 1 1] 25)).heap[w.heap.size]? = some (.cells #[.slice none 0 0, .slice (some ⟨g2, 0, none⟩) 1 1, .slice (some ⟨g3, 0, none⟩) 1 1] 25 (0, 0)) := World.alloc_heap_new _ _
  have h1 := (b1.block w.heap.size (by simp)).trans k0
  have y2 : w1.cell? ⟨g2, 0, none⟩ = some (.int .i64 x) := (b1.cell (p := ⟨g2, 0, none⟩) (by show g2 < _; simp; have : g2 < w.heap.size := hg2; omega)).trans L2.out
  have y3 : w1.cell? ⟨g3, 0, none⟩ = some (.int .u64 y) := (b1.cell (p := ⟨g3, 0, none⟩) (by show g3 < _; simp; have : g3 < w.heap.size := hg3; omega)).trans L3.out
  have B1 : Hid (Below w.heap.size w w1) := ((Below.refl _ w).alloc (Nat.le_refl _) _).trans (b1.mono (by simp))
  have hws : w.heap.size < w1.heap.size := (Array.getElem?_eq_some_iff.1 h1).1
  obtain ⟨H0, hH0⟩ : ∃ H0, w.heap.size = H0 := ⟨_, rfl⟩
  rw [hH0] at h1 hws
  rw [hH0]
  have s1 : InS H0 g2 g3 x y w1 := by
    have e0 := cells_of_block h1 0
    have e1 := cells_of_block h1 1
    have e2 := cells_of_block h1 2
    exact ⟨by simpa using e0, by simpa using e1, by simpa using e2, y2, y3⟩
  have HB : Hid (∀ W V : World, InS H0 g2 g3 x y W → Below W.heap.size W V → InS H0 g2 g3 x y V) := fun W V h k => ⟨(k.cell (p := ⟨H0, 0, none⟩) (World.block_lt_of_cell? W _ h.1)).trans h.1, (k.cell (p := ⟨H0, 1, none⟩) (World.block_lt_of_cell? W _ h.2.1)).trans h.2.1, (k.cell (p := ⟨H0, 2, none⟩) (World.block_lt_of_cell? W _ h.2.2.1)).trans h.2.2.1, (k.cell (p := ⟨g2, 0, none⟩) (World.block_lt_of_cell? W _ h.2.2.2.1)).trans h.2.2.2.1, (k.cell (p := ⟨g3, 0, none⟩) (World.block_lt_of_cell? W _ h.2.2.2.2)).trans h.2.2.2.2⟩
  have HH0 : Hid _ := hH0
  have SD : Hid (InS H0 g2 g3 x y w1.drew) := s1
  obtain ⟨t0, t1, t2, t3, t4⟩ := s1
  clear b1 k0 h1 L2 L3 y2 y3 hg2 hg3 HC
  go_wp2_with fail
  go_region_held (fun W => W.cell? ⟨H0, 0, none⟩ = some (.slice none 0 0) ∧ W.cell? ⟨H0, 1, none⟩ = some (.slice (some ⟨g2, 0, none⟩) 1 1) ∧ W.cell? ⟨H0, 2, none⟩ = some (.slice (some ⟨g3, 0, none⟩) 1 1) ∧ W.cell? ⟨g2, 0, none⟩ = some (.int .i64 x) ∧ W.cell? ⟨g3, 0, none⟩ = some (.int .u64 y)) (first | assumption | go_keep)
    (first
    | (go_at_call_of 42 (none : Option Addr); refine (H42.out _).mono ?_; rintro e w5 ⟨rfl, hw5⟩; subst hw5)
    | (go_at_call 42; refine (H42s.out w1.drew t3).mono ?_; rintro e w6 ⟨a2, c2, rfl, q1, q2, q3⟩; have s6 := HB.out w1.drew w6 SD.out q3)
    | (go_at_call 47; refine (H47s.out w1.drew t4).mono ?_; rintro e w7 ⟨a3, c3, rfl, r1, r2, r3, r4⟩; have s7 := HB.out w1.drew w7 SD.out r4)
    | (go_at_call 47; refine (H47s.out w6 s6.2.2.2.2).mono ?_; rintro e w8 ⟨a3, c3, rfl, r1, r2, r3, r4⟩; have s8 := HB.out w6 w8 s6 r4)
    | (go_at_call 42; refine (H42s.out w7 s7.2.2.2.1).mono ?_; rintro e w9 ⟨a2, c2, rfl, q1, q2, q3⟩; have s9 := HB.out w7 w9 s7 q3))
  all_goals
    go_wp2_with fail
    go_ret2
  all_goals first
    | exact ⟨w8.heap.size, a2, c2, a3, c3, rfl, World.alloc_heap_new _ _, (fin_a B1.out.drew q3 r4 q2 r3).1, (fin_a B1.out.drew q3 r4 q2 r3).2.1, (fin_a B1.out.drew q3 r4 q2 r3).2.2.1, r2, (fin_a B1.out.drew q3 r4 q2 r3).2.2.2.1 _, (fin_a B1.out.drew q3 r4 q2 r3).2.2.2.2.1 _, by simp, (fin_a B1.out.drew q3 r4 q2 r3).2.2.2.2.2 _⟩
    | exact ⟨w9.heap.size, a2, c2, a3, c3, rfl, World.alloc_heap_new _ _, (fin_a B1.out.drew r4 q3 r3 q2).1, (fin_a B1.out.drew r4 q3 r3 q2).2.2.1, (fin_a B1.out.drew r4 q3 r3 q2).2.1, r2, (fin_a B1.out.drew r4 q3 r3 q2).2.2.2.2.1 _, (fin_a B1.out.drew r4 q3 r3 q2).2.2.2.1 _, by simp, (fin_a B1.out.drew r4 q3 r3 q2).2.2.2.2.2 _⟩
end Go.Proofs.Ytefmhghdehokcaa
