/-
  Both loops of a timing.
-/
import Derived.Test.YtefmhghdehokcaaNews
import Derived.Test.YtefmhghdehokcaaLives
import Derived.Test.YtefmhghdehokcaaMany
namespace Go.Proofs.Ytefmhghdehokcaa
open Go.RowKit
def S0 (vp : Value) (picks : List Int) (vk : Value) (ticks : List Int) (vd : Value) (draws : List Int) : LS where
  vp := vp
  picks := picks
  vk := vk
  ticks := ticks
  vs := .slice none 0 0
  tks := []
  vw := .slice none 0 0
  waits := []
  steps := 0
  now := 0
  vd := vd
  draws := draws
  fu := 0
theorem la_new {w : World} {p : Nat} {vp vk vd : Value} {picks ticks draws : List Int} (hp : w.heap[p]? = some (.cells #[vp, vk, .slice none 0 0, .slice none 0 0, .int .i64 0, .int .u64 0, vd, .int .u64 0] 83 (0, 0))) (h1 : RowAt p w vp (picks.map iV)) (h2 : RowAt p w vk (ticks.map iV)) (h3 : RowAt p w vd (draws.map nV)) : LA w p (S0 vp picks vk ticks vd draws) where
  hp := hp
  picks := h1
  ticks := h2
  draws := h3
  tasks := World.ownsRow_nil _ _ _ _
  waits := World.ownsRow_nil _ _ _ _
  each := fun i t hi => by simp [S0] at hi
  apart := fun i j t t' _ hi => by simp [S0] at hi
theorem box3 {w w' : World} {a b c : Value} {H0 : Nat} (h : w.heap[H0]? = some (.cells #[a, b, c] 25 (0, 0))) (k : Below w.heap.size w w') : w'.heap[H0]? = some (.cells #[a, b, c] 25 (0, 0)) ∧ w'.cell? ⟨H0, 0, none⟩ = some a ∧ w'.cell? ⟨H0, 1, none⟩ = some b ∧ w'.cell? ⟨H0, 2, none⟩ = some c := by
  have h2 := (k.block H0 (Array.getElem?_eq_some_iff.1 h).1).trans h
  have e0 := cells_of_block h2 0
  have e1 := cells_of_block h2 1
  have e2 := cells_of_block h2 2
  exact ⟨h2, by simpa using e0, by simpa using e1, by simpa using e2⟩
set_option maxRecDepth 100000 in
set_option maxHeartbeats 8000000 in
theorem start_ok (ap ak ad : Option Addr) (np nk nd cp ck cd : Nat) (picks ticks draws : List Int) (w : World) (hp : Arg w ap np cp (picks.map iV)) (hk : Arg w ak nk ck (ticks.map iV)) (hd : Arg w ad nd cd (draws.map nV)) (hc : chkT picks ticks nd = 0) :
    Calls Try.prog 9 #[.agg #[.slice ap np cp, .slice ak nk ck, .slice ad nd cd]] w fun r w' => ∃ b p x vp vk vd, r = .returned (.tuple #[.pointer (some ⟨b, 0, none⟩), .bool true]) ∧ w'.heap[b]? = some (.cells #[.pointer (some ⟨p, 0, none⟩), .slice none 0 0, .pointer (some ⟨x, 0, none⟩)] 43 (0, 0)) ∧
      w'.heap[x]? = some (.cells #[.slice ap np cp, .slice ak nk ck, .slice ad nd cd, .slice none 0 0, .int .u64 0, .int .i64 0, .int .i64 0, .int .i64 0] 75 (0, 0)) ∧ LA w' p (S0 vp picks vk ticks vd draws) ∧ w.heap.size ≤ p ∧ p < x ∧ p < b ∧ Below w.heap.size w w' := by
  have hnp : picks.length = np := by have := hp.1; rw [List.length_map] at this; exact this
  have hnk : ticks.length = nk := by have := hk.1; rw [List.length_map] at this; exact this
  have HN : Hid (∀ W : World, Below w.heap.size w W → Calls Try.prog 25 #[.agg #[.slice ap np cp, .slice ak nk ck, .slice ad nd cd]] W fun r w' => ∃ p vp vk vd, r = .returned (.tuple #[.pointer (some ⟨p, 0, none⟩), .int .i64 0]) ∧ w'.heap[p]? = some (.cells #[vp, vk, .slice none 0 0, .slice none 0 0, .int .i64 0, .int .u64 0, vd, .int .u64 0] 83 (0, 0)) ∧ W.heap.size ≤ p ∧
      RowAt p w' vp (picks.map iV) ∧ RowAt p w' vk (ticks.map iV) ∧ RowAt p w' vd (draws.map nV) ∧ Below W.heap.size W w') := fun W k => new_any ap ak ad np nk nd cp ck cd picks ticks draws W (hp.below k) (hk.below k) (hd.below k) hc
  have HC : Hid (∀ W : World, Below w.heap.size w W → Calls Try.prog 34 #[.agg #[.slice ap np cp, .slice ak nk ck, .slice ad nd cd]] W fun r w' => r = .returned (.int .i64 0) ∧ Below W.heap.size W w') := fun W k => by
    have := check_any ap ak ad np nk nd cp ck cd W.heap.size picks ticks W hnp hnk (hp.below k).2.1 (hk.below k).2.1 (Nat.le_refl _)
    rw [hc] at this
    exact this
  have HR : Hid (∀ W : World, Below w.heap.size w W → Calls Try.prog 33 #[.agg #[.slice ap np cp, .slice ak nk ck, .slice ad nd cd]] W fun r w' => r = .returned (.int .i64 0) ∧ Below W.heap.size W w') := fun W k => by
    have := rcheck_any ap ak ad np nk nd cp ck cd W.heap.size picks ticks W hnp hnk (hp.below k).2.1 (hk.below k).2.1 (Nat.le_refl _)
    rw [hc] at this
    exact this
  clear hp hk hd hc hnp hnk
  go_enter Try.func9, Try.ntmps9
  go_wp2_with fail
  have k0 : (w.alloc (.cells #[.slice ap np cp, .slice ak nk ck, .slice ad nd cd] 25)).heap[w.heap.size]? = some (.cells #[.slice ap np cp, .slice ak nk ck, .slice ad nd cd] 25 (0, 0)) := World.alloc_heap_new _ _
  have A0 : Below w.heap.size w (w.alloc (.cells #[.slice ap np cp, .slice ak nk ck, .slice ad nd cd] 25)) := (Below.refl _ w).alloc (Nat.le_refl _) _
  refine (HN.out _ A0).mono ?_
  rintro e w1 ⟨p, vp, vk, vd, rfl, hp1, hpg, r1, r2, r3, b1⟩
  have L1 : LA w1 p (S0 vp picks vk ticks vd draws) := la_new hp1 r1 r2 r3
  obtain ⟨g1, c10, c11, c12⟩ := box3 k0 b1
  have B1 : Below w.heap.size w w1 := A0.trans (b1.mono A0.size)
  have hpg' : w.heap.size < p := by simp at hpg; omega
  obtain ⟨H0, hH0⟩ : ∃ H0, w.heap.size = H0 := ⟨_, rfl⟩
  rw [hH0] at g1 c10 c11 c12 hpg'
  rw [hH0]
  have HH0 : Hid _ := hH0
  have HP1 : Hid _ := hp1
  have HL1 : Hid _ := L1
  have HG1 : Hid _ := g1
  clear hp1 r1 r2 r3 b1 k0 A0 hpg hH0 L1 g1
  go_wp2_with fail
  refine (HR.out _ B1).mono ?_
  rintro e w2 ⟨rfl, b2⟩
  obtain ⟨g2, c20, c21, c22⟩ := box3 HG1.out b2
  have B2 : Below w.heap.size w w2 := B1.trans (b2.mono B1.size)
  have HL2 : Hid _ := HL1.out.below b2
  have HG2 : Hid _ := g2
  clear B1 HL1 HG1 c10 c11 c12 g2 HP1 b2
  go_wp2_with fail
  refine (lives_any _).mono ?_
  rintro e w3 ⟨rfl, b3⟩
  obtain ⟨g3, c30, c31, c32⟩ := box3 HG2.out b3
  have B3 : Below w.heap.size w w3 := B2.trans (b3.mono B2.size)
  have HL3 : Hid _ := HL2.out.below b3
  have HG3 : Hid _ := g3
  clear B2 HL2 HG2 c20 c21 c22 g3 b3
  go_wp2_with fail
  refine (HC.out _ B3).mono ?_
  rintro e w4 ⟨rfl, b4⟩
  obtain ⟨g4, c40, c41, c42⟩ := box3 HG3.out b4
  have HB4 : Hid (Below w.heap.size w w4) := B3.trans (b4.mono B3.size)
  have HL4 : Hid _ := HL3.out.below b4
  clear B3 HL3 HG3 c30 c31 c32 g4 b4
  have hps : p < w4.heap.size := (Array.getElem?_eq_some_iff.1 HL4.out.hp).1
  go_wp2_with fail
  go_ret2
  rw [← HH0.out]
  refine ⟨w4.heap.size + 1, p, w4.heap.size, vp, vk, vd, rfl, ?_, ?_, ?_, ?_, hps, by omega, ?_⟩
  · have h := World.alloc_heap_new (w4.alloc (.cells #[.slice ap np cp, .slice ak nk ck, .slice ad nd cd, .slice none 0 0, .int .u64 0, .int .i64 0, .int .i64 0, .int .i64 0] 75)) (.cells #[.pointer (some ⟨p, 0, none⟩), .slice none 0 0, .pointer (some ⟨w4.heap.size, 0, none⟩)] 43)
    rw [World.size_alloc] at h
    exact h
  · exact (Below.heap_alloc _ _ _ (by simp)).trans (World.alloc_heap_new _ _)
  · exact LA.below (HL4.out.below ((Below.refl _ _).alloc (Nat.le_refl _) _)) ((Below.refl _ _).alloc (Nat.le_refl _) _)
  · rw [HH0.out]; omega
  · exact (HB4.out.alloc HB4.out.size _).alloc (by have := HB4.out.size; simp; omega) _
set_option maxRecDepth 100000 in
set_option maxHeartbeats 8000000 in
theorem start_bad (ap ak ad : Option Addr) (np nk nd cp ck cd : Nat) (picks ticks : List Int) (e : Int) (w : World) (hp : Arg w ap np cp (picks.map iV)) (hk : Arg w ak nk ck (ticks.map iV)) (hc : chkT picks ticks nd = e) (he : e ≠ 0) :
    Calls Try.prog 9 #[.agg #[.slice ap np cp, .slice ak nk ck, .slice ad nd cd]] w fun r w' => r = .returned (.tuple #[.pointer none, .bool true]) ∧ Below w.heap.size w w' := by
  have hnp : picks.length = np := by have := hp.1; rw [List.length_map] at this; exact this
  have hnk : ticks.length = nk := by have := hk.1; rw [List.length_map] at this; exact this
  have HN : Hid (∀ W : World, Below w.heap.size w W → Calls Try.prog 25 #[.agg #[.slice ap np cp, .slice ak nk ck, .slice ad nd cd]] W fun r w' => r = .returned (.tuple #[.pointer none, .int .i64 e]) ∧ Below W.heap.size W w') := fun W k => new_bad ap ak ad np nk nd cp ck cd picks ticks e W (hp.below k) (hk.below k) hc he
  have HC : Hid (∀ W : World, Below w.heap.size w W → Calls Try.prog 34 #[.agg #[.slice ap np cp, .slice ak nk ck, .slice ad nd cd]] W fun r w' => r = .returned (.int .i64 e) ∧ Below W.heap.size W w') := fun W k => by
    have := check_any ap ak ad np nk nd cp ck cd W.heap.size picks ticks W hnp hnk (hp.below k).2.1 (hk.below k).2.1 (Nat.le_refl _)
    rw [hc] at this
    exact this
  have HR : Hid (∀ W : World, Below w.heap.size w W → Calls Try.prog 33 #[.agg #[.slice ap np cp, .slice ak nk ck, .slice ad nd cd]] W fun r w' => r = .returned (.int .i64 e) ∧ Below W.heap.size W w') := fun W k => by
    have := rcheck_any ap ak ad np nk nd cp ck cd W.heap.size picks ticks W hnp hnk (hp.below k).2.1 (hk.below k).2.1 (Nat.le_refl _)
    rw [hc] at this
    exact this
  have he' : (e != 0) = true := by simpa using he
  have he2 : (e == 0) = false := by simpa using he
  have he3 : (e == e) = true := by simp
  have he4 : (e != e) = false := by simp
  clear hp hk hc hnp hnk he
  go_enter Try.func9, Try.ntmps9
  go_wp2_with fail
  have k0 : (w.alloc (.cells #[.slice ap np cp, .slice ak nk ck, .slice ad nd cd] 25)).heap[w.heap.size]? = some (.cells #[.slice ap np cp, .slice ak nk ck, .slice ad nd cd] 25 (0, 0)) := World.alloc_heap_new _ _
  have A0 : Below w.heap.size w (w.alloc (.cells #[.slice ap np cp, .slice ak nk ck, .slice ad nd cd] 25)) := (Below.refl _ w).alloc (Nat.le_refl _) _
  refine (HN.out _ A0).mono ?_
  rintro _ w1 ⟨rfl, b1⟩
  obtain ⟨g1, c10, c11, c12⟩ := box3 k0 b1
  have B1 : Below w.heap.size w w1 := A0.trans (b1.mono A0.size)
  obtain ⟨H0, hH0⟩ : ∃ H0, w.heap.size = H0 := ⟨_, rfl⟩
  rw [hH0] at g1 c10 c11 c12
  rw [hH0]
  have HG1 : Hid _ := g1
  clear b1 k0 A0 hH0 g1
  go_wp2_with fail
  refine (HR.out _ B1).mono ?_
  rintro _ w2 ⟨rfl, b2⟩
  obtain ⟨g2, c20, c21, c22⟩ := box3 HG1.out b2
  have B2 : Below w.heap.size w w2 := B1.trans (b2.mono B1.size)
  have HG2 : Hid _ := g2
  clear B1 HG1 c10 c11 c12 g2 b2
  go_wp2_with fail
  refine (lives_any _).mono ?_
  rintro _ w3 ⟨rfl, b3⟩
  obtain ⟨g3, c30, c31, c32⟩ := box3 HG2.out b3
  have B3 : Below w.heap.size w w3 := B2.trans (b3.mono B2.size)
  have HG3 : Hid _ := g3
  clear B2 HG2 c20 c21 c22 g3 b3
  go_wp2_with fail
  refine (HC.out _ B3).mono ?_
  rintro _ w4 ⟨rfl, b4⟩
  have HB4 : Hid (Below w.heap.size w w4) := B3.trans (b4.mono B3.size)
  clear B3 HG3 c30 c31 c32 b4
  go_wp2_with fail
  go_ret2
  exact ⟨rfl, HB4.out⟩
end Go.Proofs.Ytefmhghdehokcaa
