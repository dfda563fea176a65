/-
  The contracts of mayBe and of the functions that the parts hold.
-/
import Derived.Test.YtimabpfahhbadaaDoorStp
namespace Go.Proofs.YtimabpfahhbadaaDoor
open Go.RowKit
theorem mayR_cut (c : Ck) : mayR c = (tokR c.name && octR c.value && pathR c.path && ageR c && sameR c.same) := rfl
theorem sameR_nil : sameR ⟨#[]⟩ = true := by decide
def ckZ (N : Nat) (c : Ck) : Prop := c.name.size ≤ N ∧ c.value.size ≤ N ∧ c.path.size ≤ N ∧ c.same.size ≤ N
theorem not_nil {s : ByteArray} (h : s ≠ ⟨#[]⟩) : s.toList.isEmpty = false := by
  rw [isEmpty_size, decide_eq_false]
  exact fun e => h (size_nil e)
theorem is_nil : (⟨#[]⟩ : ByteArray).toList.isEmpty = true := by rw [isEmpty_size]; rfl
set_option maxRecDepth 20000 in
set_option maxHeartbeats 8000000 in
theorem mayBe_any (c : Ck) (hz : ckZ 1000000000 c) (w : World) : Calls Tryd.prog 32 #[ckV c] w fun e w' => e = .returned (.bool (mayR c)) ∧ Below w.heap.size w w' := by
  have hm := mayR_cut c
  obtain ⟨nm, vl, pa, ag, hs, hh, sc, sm⟩ := c
  obtain ⟨z0, z1, z2, z3⟩ := hz
  simp only [ckV] at hm z0 z1 z2 z3 ⊢
  have hag : ageR ⟨nm, vl, pa, ag, hs, hh, sc, sm⟩ = decide (0 ≤ ag ∧ ag ≤ 2147483647 ∧ (ag = 0 ∨ hs = true)) := rfl
  rw [hag] at hm
  obtain ⟨T, hT⟩ : ∃ T, mayR ⟨nm, vl, pa, ag, hs, hh, sc, sm⟩ = T := ⟨_, rfl⟩
  rw [hT] at hm ⊢
  clear hT hag
  have H1 : Hid (∀ W : World, _) := fun W => token_any nm (by omega) W
  have H2 : Hid (∀ W : World, _) := fun W => isBare_any vl (by omega) W
  have H3 : Hid (∀ W : World, _) := fun W => isPath_any pa (by omega) W
  obtain ⟨t, ht⟩ : ∃ t, tokR nm = t := ⟨_, rfl⟩
  obtain ⟨o, ho⟩ : ∃ o, octR vl = o := ⟨_, rfl⟩
  obtain ⟨p, hp⟩ : ∃ p, pathR pa = p := ⟨_, rfl⟩
  rw [ht] at H1 hm
  rw [ho] at H2 hm
  rw [hp] at H3 hm
  clear ht ho hp z0 z1 z2 z3
  cases t with
  | false =>
    have HR : Hid (T = false) := by rw [Hid, hm]; rfl
    clear hm
    go_enter Tryd.func32, Tryd.ntmps32
    go_wp2_with (first
      | (go_at_call 24; refine (H1.out _).mono ?_; rintro e w' ⟨rfl, rfl⟩))
    go_ret
    exact ⟨by rw [HR.out]; first | rfl | trivial, (Below.refl _ _).alloc (Nat.le_refl _) _⟩
  | true =>
  cases o with
  | false =>
    have HR : Hid (T = false) := by rw [Hid, hm]; rfl
    clear hm
    go_enter Tryd.func32, Tryd.ntmps32
    go_wp2_with (first
      | (go_at_call 24; refine (H1.out _).mono ?_; rintro e w' ⟨rfl, rfl⟩)
      | (go_at_call 25; refine (H2.out _).mono ?_; rintro e w' ⟨rfl, rfl⟩))
    go_ret
    exact ⟨by rw [HR.out]; first | rfl | trivial, (Below.refl _ _).alloc (Nat.le_refl _) _⟩
  | true =>
  cases p with
  | false =>
    have HR : Hid (T = false) := by rw [Hid, hm]; rfl
    clear hm
    go_enter Tryd.func32, Tryd.ntmps32
    go_wp2_with (first
      | (go_at_call 24; refine (H1.out _).mono ?_; rintro e w' ⟨rfl, rfl⟩)
      | (go_at_call 25; refine (H2.out _).mono ?_; rintro e w' ⟨rfl, rfl⟩)
      | (go_at_call 54; refine (H3.out _).mono ?_; rintro e w' ⟨rfl, rfl⟩))
    go_ret
    exact ⟨by rw [HR.out]; first | rfl | trivial, (Below.refl _ _).alloc (Nat.le_refl _) _⟩
  | true =>
  rw [show (true && true && true) = true from rfl, Bool.true_and] at hm
  rcases (by omega : ag < 0 ∨ 2147483647 < ag ∨ (0 ≤ ag ∧ ag ≤ 2147483647)) with g | g | g
  · have HR : Hid (T = false) := by rw [Hid, hm]; rw [decide_eq_false (by omega)]; rfl
    have q0 : ag < 0 := g
    clear hm
    go_enter Tryd.func32, Tryd.ntmps32
    go_wp2_with (first
      | (go_at_call 24; refine (H1.out _).mono ?_; rintro e w' ⟨rfl, rfl⟩)
      | (go_at_call 25; refine (H2.out _).mono ?_; rintro e w' ⟨rfl, rfl⟩)
      | (go_at_call 54; refine (H3.out _).mono ?_; rintro e w' ⟨rfl, rfl⟩))
    go_ret
    exact ⟨by rw [HR.out]; first | rfl | trivial, (Below.refl _ _).alloc (Nat.le_refl _) _⟩
  · have HR : Hid (T = false) := by rw [Hid, hm]; rw [decide_eq_false (by omega)]; rfl
    have q0 : ¬ ag < 0 := by omega
    have q1 : 2147483647 < ag := g
    clear hm
    go_enter Tryd.func32, Tryd.ntmps32
    go_wp2_with (first
      | (go_at_call 24; refine (H1.out _).mono ?_; rintro e w' ⟨rfl, rfl⟩)
      | (go_at_call 25; refine (H2.out _).mono ?_; rintro e w' ⟨rfl, rfl⟩)
      | (go_at_call 54; refine (H3.out _).mono ?_; rintro e w' ⟨rfl, rfl⟩))
    go_ret
    exact ⟨by rw [HR.out]; first | rfl | trivial, (Below.refl _ _).alloc (Nat.le_refl _) _⟩
  · have q0 : ¬ ag < 0 := by omega
    have q1 : ¬ 2147483647 < ag := by omega
    by_cases ga : ag = 0
    · subst ga
      rw [decide_eq_true (by omega), Bool.true_and] at hm
      by_cases h0 : sm = ⟨#[]⟩
      · subst h0
        have HR : Hid (T = true) := by rw [Hid, hm]; exact sameR_nil
        have e0 := is_nil
        clear hm
        go_enter Tryd.func32, Tryd.ntmps32
        go_wp2_with (first
          | (go_at_call 24; refine (H1.out _).mono ?_; rintro e w' ⟨rfl, rfl⟩)
          | (go_at_call 25; refine (H2.out _).mono ?_; rintro e w' ⟨rfl, rfl⟩)
          | (go_at_call 54; refine (H3.out _).mono ?_; rintro e w' ⟨rfl, rfl⟩))
        go_ret
        exact ⟨by rw [HR.out]; first | rfl | trivial, (Below.refl _ _).alloc (Nat.le_refl _) _⟩
      have e0 := not_nil h0
      by_cases h1 : sm = sStrict
      · have HR : Hid (T = true) := by rw [Hid, hm]; rw [h1]; decide
        have e1 : (sm.toList == [83, 116, 114, 105, 99, 116]) = true := toList_lit h1
        clear hm h0 h1
        go_enter Tryd.func32, Tryd.ntmps32
        go_wp2_with (first
          | (go_at_call 24; refine (H1.out _).mono ?_; rintro e w' ⟨rfl, rfl⟩)
          | (go_at_call 25; refine (H2.out _).mono ?_; rintro e w' ⟨rfl, rfl⟩)
          | (go_at_call 54; refine (H3.out _).mono ?_; rintro e w' ⟨rfl, rfl⟩))
        go_ret
        exact ⟨by rw [HR.out]; first | rfl | trivial, (Below.refl _ _).alloc (Nat.le_refl _) _⟩
      have e1 : (sm.toList == [83, 116, 114, 105, 99, 116]) = false := toList_not h1
      by_cases h2 : sm = sLax
      · have HR : Hid (T = true) := by rw [Hid, hm]; rw [h2]; decide
        have e2 : (sm.toList == [76, 97, 120]) = true := toList_lit h2
        clear hm h0 h1 h2
        go_enter Tryd.func32, Tryd.ntmps32
        go_wp2_with (first
          | (go_at_call 24; refine (H1.out _).mono ?_; rintro e w' ⟨rfl, rfl⟩)
          | (go_at_call 25; refine (H2.out _).mono ?_; rintro e w' ⟨rfl, rfl⟩)
          | (go_at_call 54; refine (H3.out _).mono ?_; rintro e w' ⟨rfl, rfl⟩))
        go_ret
        exact ⟨by rw [HR.out]; first | rfl | trivial, (Below.refl _ _).alloc (Nat.le_refl _) _⟩
      have e2 : (sm.toList == [76, 97, 120]) = false := toList_not h2
      by_cases h3 : sm = sNone
      · have HR : Hid (T = true) := by rw [Hid, hm]; rw [h3]; decide
        have e3 : (sm.toList == [78, 111, 110, 101]) = true := toList_lit h3
        clear hm h0 h1 h2 h3
        go_enter Tryd.func32, Tryd.ntmps32
        go_wp2_with (first
          | (go_at_call 24; refine (H1.out _).mono ?_; rintro e w' ⟨rfl, rfl⟩)
          | (go_at_call 25; refine (H2.out _).mono ?_; rintro e w' ⟨rfl, rfl⟩)
          | (go_at_call 54; refine (H3.out _).mono ?_; rintro e w' ⟨rfl, rfl⟩))
        go_ret
        exact ⟨by rw [HR.out]; first | rfl | trivial, (Below.refl _ _).alloc (Nat.le_refl _) _⟩
      have e3 : (sm.toList == [78, 111, 110, 101]) = false := toList_not h3
      have HR : Hid (T = false) := by rw [Hid, hm]; unfold sameR; rw [decide_eq_false]; rintro (h | h | h | h) <;> contradiction
      clear hm h0 h1 h2 h3
      go_enter Tryd.func32, Tryd.ntmps32
      go_wp2_with (first
        | (go_at_call 24; refine (H1.out _).mono ?_; rintro e w' ⟨rfl, rfl⟩)
        | (go_at_call 25; refine (H2.out _).mono ?_; rintro e w' ⟨rfl, rfl⟩)
        | (go_at_call 54; refine (H3.out _).mono ?_; rintro e w' ⟨rfl, rfl⟩))
      go_ret
      exact ⟨by rw [HR.out]; first | rfl | trivial, (Below.refl _ _).alloc (Nat.le_refl _) _⟩
    · have q2 : (ag == 0) = false := by simp; exact ga
      cases hs with
      | false =>
        have HR : Hid (T = false) := by rw [Hid, hm]; rw [decide_eq_false (by simp; omega)]; rfl
        clear hm
        go_enter Tryd.func32, Tryd.ntmps32
        go_wp2_with (first
          | (go_at_call 24; refine (H1.out _).mono ?_; rintro e w' ⟨rfl, rfl⟩)
          | (go_at_call 25; refine (H2.out _).mono ?_; rintro e w' ⟨rfl, rfl⟩)
          | (go_at_call 54; refine (H3.out _).mono ?_; rintro e w' ⟨rfl, rfl⟩))
        go_ret
        exact ⟨by rw [HR.out]; first | rfl | trivial, (Below.refl _ _).alloc (Nat.le_refl _) _⟩
      | true =>
        rw [decide_eq_true (by simp; omega), Bool.true_and] at hm
        by_cases h0 : sm = ⟨#[]⟩
        · subst h0
          have HR : Hid (T = true) := by rw [Hid, hm]; exact sameR_nil
          have e0 := is_nil
          clear hm
          go_enter Tryd.func32, Tryd.ntmps32
          go_wp2_with (first
            | (go_at_call 24; refine (H1.out _).mono ?_; rintro e w' ⟨rfl, rfl⟩)
            | (go_at_call 25; refine (H2.out _).mono ?_; rintro e w' ⟨rfl, rfl⟩)
            | (go_at_call 54; refine (H3.out _).mono ?_; rintro e w' ⟨rfl, rfl⟩))
          go_ret
          exact ⟨by rw [HR.out]; first | rfl | trivial, (Below.refl _ _).alloc (Nat.le_refl _) _⟩
        have e0 := not_nil h0
        by_cases h1 : sm = sStrict
        · have HR : Hid (T = true) := by rw [Hid, hm]; rw [h1]; decide
          have e1 : (sm.toList == [83, 116, 114, 105, 99, 116]) = true := toList_lit h1
          clear hm h0 h1
          go_enter Tryd.func32, Tryd.ntmps32
          go_wp2_with (first
            | (go_at_call 24; refine (H1.out _).mono ?_; rintro e w' ⟨rfl, rfl⟩)
            | (go_at_call 25; refine (H2.out _).mono ?_; rintro e w' ⟨rfl, rfl⟩)
            | (go_at_call 54; refine (H3.out _).mono ?_; rintro e w' ⟨rfl, rfl⟩))
          go_ret
          exact ⟨by rw [HR.out]; first | rfl | trivial, (Below.refl _ _).alloc (Nat.le_refl _) _⟩
        have e1 : (sm.toList == [83, 116, 114, 105, 99, 116]) = false := toList_not h1
        by_cases h2 : sm = sLax
        · have HR : Hid (T = true) := by rw [Hid, hm]; rw [h2]; decide
          have e2 : (sm.toList == [76, 97, 120]) = true := toList_lit h2
          clear hm h0 h1 h2
          go_enter Tryd.func32, Tryd.ntmps32
          go_wp2_with (first
            | (go_at_call 24; refine (H1.out _).mono ?_; rintro e w' ⟨rfl, rfl⟩)
            | (go_at_call 25; refine (H2.out _).mono ?_; rintro e w' ⟨rfl, rfl⟩)
            | (go_at_call 54; refine (H3.out _).mono ?_; rintro e w' ⟨rfl, rfl⟩))
          go_ret
          exact ⟨by rw [HR.out]; first | rfl | trivial, (Below.refl _ _).alloc (Nat.le_refl _) _⟩
        have e2 : (sm.toList == [76, 97, 120]) = false := toList_not h2
        by_cases h3 : sm = sNone
        · have HR : Hid (T = true) := by rw [Hid, hm]; rw [h3]; decide
          have e3 : (sm.toList == [78, 111, 110, 101]) = true := toList_lit h3
          clear hm h0 h1 h2 h3
          go_enter Tryd.func32, Tryd.ntmps32
          go_wp2_with (first
            | (go_at_call 24; refine (H1.out _).mono ?_; rintro e w' ⟨rfl, rfl⟩)
            | (go_at_call 25; refine (H2.out _).mono ?_; rintro e w' ⟨rfl, rfl⟩)
            | (go_at_call 54; refine (H3.out _).mono ?_; rintro e w' ⟨rfl, rfl⟩))
          go_ret
          exact ⟨by rw [HR.out]; first | rfl | trivial, (Below.refl _ _).alloc (Nat.le_refl _) _⟩
        have e3 : (sm.toList == [78, 111, 110, 101]) = false := toList_not h3
        have HR : Hid (T = false) := by rw [Hid, hm]; unfold sameR; rw [decide_eq_false]; rintro (h | h | h | h) <;> contradiction
        clear hm h0 h1 h2 h3
        go_enter Tryd.func32, Tryd.ntmps32
        go_wp2_with (first
          | (go_at_call 24; refine (H1.out _).mono ?_; rintro e w' ⟨rfl, rfl⟩)
          | (go_at_call 25; refine (H2.out _).mono ?_; rintro e w' ⟨rfl, rfl⟩)
          | (go_at_call 54; refine (H3.out _).mono ?_; rintro e w' ⟨rfl, rfl⟩))
        go_ret
        exact ⟨by rw [HR.out]; first | rfl | trivial, (Below.refl _ _).alloc (Nat.le_refl _) _⟩
end Go.Proofs.YtimabpfahhbadaaDoor
