/-
  The contracts of Build where there is no filter, and of lives: it returns true, and turns nothing that was there.
-/
import Derived.Test.YtoopgddhkdekmaaFMath
namespace Go.Proofs.Ytoopgddhkdekmaa
open Go.RowKit
theorem bytes_of_block {W : World} {g : Nat} {bs : List UInt8} (h : W.heap[g]? = some (.cells (bcells bs) 5 (0, 0))) : BytesAt W (some ⟨g, 0, none⟩) bs := by
  intro j c hj
  have hb : (bcells bs)[j]? = some (.int .u8 (c.toNat : Nat)) := by
    simp only [bcells, List.getElem?_toArray, List.getElem?_map, hj]
    rfl
  exact ⟨g, 0, rfl, (Array.getElem?_eq_some_iff.1 h).1, by simp [World.cell?, h, hb]⟩
set_option maxHeartbeats 1000000 in
theorem build_bits (a : Option Addr) (n ca : Nat) (bits : Int) (w : World) (h : bits < 1 ∨ 32 < bits) : Calls Try.prog 10 #[.slice a n ca, .int .i64 bits] w fun r w' => r = .returned (.tuple #[.slice none 0 0, .int .i64 1]) ∧ w' = w := by
  rcases h with h | h
  · go_enter Try.func10, Try.ntmps10
    go_wp2
    go_ret2
    exact ⟨rfl, rfl⟩
  · have h1 : ¬ bits < 1 := by omega
    go_enter Try.func10, Try.ntmps10
    go_wp2
    go_ret2
    exact ⟨rfl, rfl⟩
set_option maxHeartbeats 1000000 in
theorem build_long (a : Option Addr) (n ca : Nat) (bits : Int) (w : World) (h1 : ¬ bits < 1) (h2 : ¬ 32 < bits) (hn : 65536 < n) : Calls Try.prog 10 #[.slice a n ca, .int .i64 bits] w fun r w' => r = .returned (.tuple #[.slice none 0 0, .int .i64 3]) ∧ w' = w := by
  go_enter Try.func10, Try.ntmps10
  go_wp2
  go_ret2
  exact ⟨rfl, rfl⟩
theorem may_a : mayB (buildF [⟨#[97]⟩] 10) ⟨#[97]⟩ = true := by decide +kernel
theorem may_c : mayB (buildF [] 10) ⟨#[97]⟩ = false := by decide +kernel
theorem ones_c : onesB (buildF [] 10) = 0 := by decide +kernel
theorem size_a : sizeOfF 1 10 = 8 := by decide
theorem size_c : sizeOfF 0 10 = 8 := by decide
set_option maxRecDepth 100000 in
set_option maxHeartbeats 2000000 in
theorem lives_any (w : World) : Calls Try.prog 9 #[] w fun r w' => r = .returned (.bool true) ∧ Below w.heap.size w w' := by
  have HB1 : Hid (∀ W : World, StrsAt W (some ⟨w.heap.size, 0, none⟩) [⟨#[97]⟩] → Calls Try.prog 10 #[.slice (some ⟨w.heap.size, 0, none⟩) 1 1, .int .i64 10] W fun r w' => ∃ g, r = .returned (.tuple #[.slice (some ⟨g, 0, none⟩) 9 9, .int .i64 0]) ∧ W.heap.size ≤ g ∧ w'.heap[g]? = some (.cells (bcells (buildF [⟨#[97]⟩] 10)) 5 (0, 0)) ∧ Below W.heap.size W w') := fun W h => by
    have := build_any (some ⟨w.heap.size, 0, none⟩) 1 [⟨#[97]⟩] 10 W h (fun s hs => by simp at hs; subst hs; decide) (by decide) (by decide) (by decide)
    exact this
  have HB2 : Hid (∀ W : World, Calls Try.prog 10 #[.slice none 0 0, .int .i64 10] W fun r w' => ∃ g, r = .returned (.tuple #[.slice (some ⟨g, 0, none⟩) 9 9, .int .i64 0]) ∧ W.heap.size ≤ g ∧ w'.heap[g]? = some (.cells (bcells (buildF [] 10)) 5 (0, 0)) ∧ Below W.heap.size W w') := fun W => by
    have := build_any none 0 [] 10 W (fun j s hj => by simp at hj) (fun s hs => by simp at hs) (by decide) (by decide) (by decide)
    exact this
  have HM1 : Hid (∀ (W : World) (g : Nat), BytesAt W (some ⟨g, 0, none⟩) (buildF [⟨#[97]⟩] 10) → Calls Try.prog 13 #[.slice (some ⟨g, 0, none⟩) 9 9, .string ⟨#[97]⟩] W fun r w' => r = .returned (.bool true) ∧ Below W.heap.size W w') := fun W g h => by
    have := may_any (some ⟨g, 0, none⟩) 9 _ ⟨#[97]⟩ W h (by rw [buildF_len]; decide) (by decide)
    rw [may_a, buildF_len] at this
    exact this
  have HM2 : Hid (∀ (W : World) (g : Nat), BytesAt W (some ⟨g, 0, none⟩) (buildF [] 10) → Calls Try.prog 13 #[.slice (some ⟨g, 0, none⟩) 9 9, .string ⟨#[97]⟩] W fun r w' => r = .returned (.bool false) ∧ Below W.heap.size W w') := fun W g h => by
    have := may_any (some ⟨g, 0, none⟩) 9 _ ⟨#[97]⟩ W h (by rw [buildF_len]; decide) (by decide)
    rw [may_c, buildF_len] at this
    exact this
  have HO : Hid (∀ (W : World) (g : Nat), BytesAt W (some ⟨g, 0, none⟩) (buildF [] 10) → Calls Try.prog 15 #[.slice (some ⟨g, 0, none⟩) 9 9] W fun r w' => r = .returned (.int .i64 0) ∧ w' = W) := fun W g h => by
    have := ones_any (some ⟨g, 0, none⟩) 9 _ W h (by rw [buildF_len]; decide) (by rw [buildF_len]; decide)
    rw [ones_c, buildF_len] at this
    exact this
  have hst : StrsAt (w.alloc (.cells #[.string ⟨#[97]⟩] 9)) (some ⟨w.heap.size, 0, none⟩) [⟨#[97]⟩] := by
    intro j s hj
    have h0 : j = 0 := by have := (List.getElem?_eq_some_iff.1 hj).1; simp at this; omega
    subst h0
    simp at hj
    subst hj
    exact ⟨w.heap.size, 0, rfl, by simp, by simp⟩
  have B0 : Below w.heap.size w (w.alloc (.cells #[.string ⟨#[97]⟩] 9)) := (Below.refl _ w).alloc (Nat.le_refl _) _
  go_enter Try.func9, Try.ntmps9
  go_wp2_with fail
  refine (HB1.out _ hst).mono ?_
  rintro e w1 ⟨g, rfl, hg, hrow, b1⟩
  have B1 := B0.trans (b1.mono (by simp))
  have y1 := bytes_of_block hrow
  clear hrow b1 B0 hg
  go_wp2_with fail
  refine (HB2.out _).mono ?_
  rintro e w2 ⟨g2, rfl, hg2, hrow2, b2⟩
  have B2 := B1.trans (b2.mono B1.size)
  have y2 := bytes_of_block hrow2
  have y1' := y1.below (Nat.le_refl _) b2
  clear hrow2 b2 B1 y1 hg2
  go_wp2_with fail
  refine (HM1.out _ _ y1').mono ?_
  rintro e w3 ⟨rfl, b3⟩
  have B3 := B2.trans (b3.mono B2.size)
  have y2' := y2.below (Nat.le_refl _) b3
  clear b3 B2 y2 y1'
  go_wp2_with fail
  refine (HM2.out _ _ y2').mono ?_
  rintro e w4 ⟨rfl, b4⟩
  have B4 := B3.trans (b4.mono B3.size)
  have y3 := y2'.below (Nat.le_refl _) b4
  clear b4 B3 y2'
  go_wp2_with fail
  refine (HO.out _ _ y3).mono ?_
  rintro e w5 ⟨rfl, rfl⟩
  go_wp2_with fail
  go_ret
  exact ⟨rfl, B4⟩
end Go.Proofs.Ytoopgddhkdekmaa
