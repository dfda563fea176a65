/-
  The contract of the twin's may.
-/
import Derived.Test.YtimabpfahhbadaaDoorNmb
namespace Go.Proofs.YtimabpfahhbadaaDoor
open Go.RowKit
set_option maxRecDepth 20000 in
set_option maxHeartbeats 16000000 in
theorem qmay_any (c : Ck) (hz : ckZ 1000000000 c) (w : World) : Calls Tryd.prog 34 #[ckV c] w fun e w' => e = .returned (.bool (mayR c)) ∧ Below w.heap.size w w' := by
  have hm := mayR_cut c
  obtain ⟨nm, vl, pa, ag, hs, hh, sc, sm⟩ := c
  obtain ⟨z0, z1, z2, z3⟩ := hz
  simp only [ckV] at hm z0 z1 z2 z3 ⊢
  have hag : ageR ⟨nm, vl, pa, ag, hs, hh, sc, sm⟩ = decide (0 ≤ ag ∧ ag ≤ 2147483647 ∧ (ag = 0 ∨ hs = true)) := rfl
  rw [hag] at hm
  obtain ⟨T, hT⟩ : ∃ T, mayR ⟨nm, vl, pa, ag, hs, hh, sc, sm⟩ = T := ⟨_, rfl⟩
  rw [hT] at hm ⊢
  clear hT hag
  have H1 : Hid (∀ W : World, _) := fun W => rtoken_any nm (by omega) W
  have H2 : Hid (∀ W : World, _) := fun W => octets_any vl (by omega) W
  obtain ⟨t, ht⟩ : ∃ t, tokR nm = t := ⟨_, rfl⟩
  obtain ⟨o, ho⟩ : ∃ o, octR vl = o := ⟨_, rfl⟩
  rw [ht] at H1 hm
  rw [ho] at H2 hm
  have HMM : Hid _ := hm
  clear ht ho z0 z1 z3 hm
  obtain ⟨W0, hW0⟩ : ∃ W0, w.alloc (.cells #[.string nm, .string vl, .string pa, .int .i64 ag, .bool hs, .bool hh, .bool sc, .string sm] 37) = W0 := ⟨_, rfl⟩
  have HB0 : Hid (Below w.heap.size w W0) := by rw [Hid, ← hW0]; exact (Below.refl _ _).alloc (Nat.le_refl _) _
  have HX0 : Hid (W0.heap[w.heap.size]? = some (.cells (ckA ⟨nm, vl, pa, ag, hs, hh, sc, sm⟩) 37 (0, 0))) := by rw [Hid, ← hW0]; exact block_alloc_at _ _
  obtain ⟨c0, c1, c2, c3, c4, c5, c6, c7⟩ := ck_cells HX0.out
  simp only at c0 c1 c2 c3 c4 c5 c6 c7
  go_enter Tryd.func34, Tryd.ntmps34
  go_wp2_with fail
  try rw [hW0]
  clear hW0
  go_loopw [3] (fun i wr => ∃ k : Nat, k ≤ pa.size ∧ i = .int .i64 k ∧ Hid (allN pthB pa k = true) ∧ wr = W0) (fun i _ => pa.size - (intOf i).toNat)
  case atStart => exact ⟨0, by omega, rfl, rfl, rfl⟩
  case round =>
    obtain ⟨k, hk, rfl, HN, hwr⟩ := hrel
    rw [hwr]
    by_cases hlt : k < pa.size
    · have hlz : (k : Int) < (pa.size : Int) := by omega
      have r0 := fun W => run_byte pa (i := k) (z := (k : Int)) rfl hlt W
      have hnx : allN pthB pa (k + 1) = pthB (byteAt pa k) := by rw [allN, HN.out, Bool.true_and]
      obtain ⟨x, hx⟩ : ∃ x, byteAt pa k = x := ⟨_, rfl⟩
      rw [hx] at r0 hnx
      have HF : Hid (pthB x = false → T = false) := fun h => by
        have : allN pthB pa pa.size = false := allN_false (by rw [hnx, h]) hlt
        rw [HMM.out, pathR, this]
        simp
      clear hx
      rcases (by omega : (x < 33) ∨ (126 < x) ∨ x = 59 ∨ (33 ≤ x ∧ x ≤ 126 ∧ x ≠ 59)) with g | g | rfl | g
      · have HR : Hid (T = false) := HF.out (by simp [pthB]; omega)
        have q0 : (x : Int) < 33 := by omega
        clear g hnx HF
        go_wp2_with fail
        go_ret
        exact ⟨by rw [HR.out]; rfl, HB0.out⟩
      · have HR : Hid (T = false) := HF.out (by simp [pthB]; omega)
        have q0 : ¬ (x : Int) < 33 := by omega
        have q2 : (126 : Int) < (x : Int) := by omega
        clear g hnx HF
        go_wp2_with fail
        go_ret
        exact ⟨by rw [HR.out]; rfl, HB0.out⟩
      · have HR : Hid (T = false) := HF.out (by decide)
        clear hnx HF
        go_wp2_with fail
        go_ret
        exact ⟨by rw [HR.out]; rfl, HB0.out⟩
      · have HV : Hid (allN pthB pa (k + 1) = true) := by rw [Hid, hnx]; simp [pthB]; omega
        have q0 : ¬ (x : Int) < 33 := by omega
        have q2 : ¬ (126 : Int) < (x : Int) := by omega
        have q3 : ((x : Int) == 59) = false := by simp; omega
        have q4 : ¬ (x : Int) = 59 := by omega
        clear g hnx HF
        go_wp2_with fail
        go_roundw
        case rel => exact ⟨k + 1, by omega, by go_num, HV.out, by first | rfl | trivial⟩
        case measure => simp [intOf]; omega
    · obtain rfl : k = pa.size := by omega
      have hlz : ¬ (pa.size : Int) < (pa.size : Int) := by omega
      have he := isEmpty_size pa
      have hpr : pathR pa = (decide (pa.size = 0) || decide (byteAt pa 0 = 47)) := by rw [pathR, HN.out, Bool.true_and]
      have hm := HMM.out
      rw [hpr] at hm
      clear hpr HMM HX0
      by_cases h0p : pa.size = 0
      · rw [decide_eq_true h0p] at he hm
        rw [Bool.true_or] at hm
        clear h0p
        rcases (by omega : ag < 0 ∨ 2147483647 < ag ∨ (0 ≤ ag ∧ ag ≤ 2147483647)) with g | g | g
        · have HR : Hid (T = false) := by rw [Hid, hm]; rw [decide_eq_false (by omega)]; simp
          have q0 : ag < 0 := g
          clear hm
          go_wp2_with fail
          go_ret
          exact ⟨by rw [HR.out]; first | rfl | trivial, HB0.out⟩
        · have HR : Hid (T = false) := by rw [Hid, hm]; rw [decide_eq_false (by omega)]; simp
          have q0 : ¬ ag < 0 := by omega
          have q1 : 2147483647 < ag := g
          clear hm
          go_wp2_with fail
          go_ret
          exact ⟨by rw [HR.out]; first | rfl | trivial, HB0.out⟩
        · have q0 : ¬ ag < 0 := by omega
          have q1 : ¬ 2147483647 < ag := by omega
          cases hs with
          | true =>
            rw [decide_eq_true (by simp; omega)] at hm
            cases t with
            | false =>
              have HR : Hid (T = false) := by rw [Hid, hm]; simp
              clear hm
              go_wp2_with (first
                | (go_at_call 29; refine (H1.out _).mono ?_; rintro e w' ⟨rfl, rfl⟩))
              go_ret
              exact ⟨by rw [HR.out]; first | rfl | trivial, HB0.out⟩
            | true =>
            cases o with
            | false =>
              have HR : Hid (T = false) := by rw [Hid, hm]; simp
              clear hm
              go_wp2_with (first
                | (go_at_call 29; refine (H1.out _).mono ?_; rintro e w' ⟨rfl, rfl⟩)
                | (go_at_call 30; refine (H2.out _).mono ?_; rintro e w' ⟨rfl, rfl⟩))
              go_ret
              exact ⟨by rw [HR.out]; first | rfl | trivial, HB0.out⟩
            | true =>
            rw [show (true && true && true && true && sameR sm) = sameR sm from by simp] at hm
            by_cases h0 : sm = ⟨#[]⟩
            · have e0 : sm.toList.isEmpty = true := by rw [h0]; exact is_nil
              have HR : Hid (T = true) := by rw [Hid, hm]; rw [h0]; exact sameR_nil
              clear h0
              clear hm
              go_wp2_with (first
                | (go_at_call 29; refine (H1.out _).mono ?_; rintro e w' ⟨rfl, rfl⟩)
                | (go_at_call 30; refine (H2.out _).mono ?_; rintro e w' ⟨rfl, rfl⟩))
              go_ret
              exact ⟨by rw [HR.out]; first | rfl | trivial, HB0.out⟩
            have e0 := not_nil h0
            by_cases h1 : sm = sStrict
            · have e1 : (sm.toList == [83, 116, 114, 105, 99, 116]) = true := toList_lit h1
              have HR : Hid (T = true) := by rw [Hid, hm]; rw [h1]; decide
              clear h0 h1
              clear hm
              go_wp2_with (first
                | (go_at_call 29; refine (H1.out _).mono ?_; rintro e w' ⟨rfl, rfl⟩)
                | (go_at_call 30; refine (H2.out _).mono ?_; rintro e w' ⟨rfl, rfl⟩))
              go_ret
              exact ⟨by rw [HR.out]; first | rfl | trivial, HB0.out⟩
            have e1 : (sm.toList == [83, 116, 114, 105, 99, 116]) = false := toList_not h1
            by_cases h2 : sm = sLax
            · have e2 : (sm.toList == [76, 97, 120]) = true := toList_lit h2
              have HR : Hid (T = true) := by rw [Hid, hm]; rw [h2]; decide
              clear h0 h1 h2
              clear hm
              go_wp2_with (first
                | (go_at_call 29; refine (H1.out _).mono ?_; rintro e w' ⟨rfl, rfl⟩)
                | (go_at_call 30; refine (H2.out _).mono ?_; rintro e w' ⟨rfl, rfl⟩))
              go_ret
              exact ⟨by rw [HR.out]; first | rfl | trivial, HB0.out⟩
            have e2 : (sm.toList == [76, 97, 120]) = false := toList_not h2
            by_cases h3 : sm = sNone
            · have e3 : (sm.toList == [78, 111, 110, 101]) = true := toList_lit h3
              have HR : Hid (T = true) := by rw [Hid, hm]; rw [h3]; decide
              clear h0 h1 h2 h3
              clear hm
              go_wp2_with (first
                | (go_at_call 29; refine (H1.out _).mono ?_; rintro e w' ⟨rfl, rfl⟩)
                | (go_at_call 30; refine (H2.out _).mono ?_; rintro e w' ⟨rfl, rfl⟩))
              go_ret
              exact ⟨by rw [HR.out]; first | rfl | trivial, HB0.out⟩
            have e3 : (sm.toList == [78, 111, 110, 101]) = false := toList_not h3
            have HR : Hid (T = false) := by rw [Hid, hm]; unfold sameR; rw [decide_eq_false]; rintro (h | h | h | h) <;> contradiction
            clear h0 h1 h2 h3
            clear hm
            go_wp2_with (first
              | (go_at_call 29; refine (H1.out _).mono ?_; rintro e w' ⟨rfl, rfl⟩)
              | (go_at_call 30; refine (H2.out _).mono ?_; rintro e w' ⟨rfl, rfl⟩))
            go_ret
            exact ⟨by rw [HR.out]; first | rfl | trivial, HB0.out⟩
          | false =>
            by_cases ga : ag = 0
            · subst ga
              rw [decide_eq_true (by simp)] at hm
              cases t with
              | false =>
                have HR : Hid (T = false) := by rw [Hid, hm]; simp
                clear hm
                go_wp2_with (first
                  | (go_at_call 29; refine (H1.out _).mono ?_; rintro e w' ⟨rfl, rfl⟩))
                go_ret
                exact ⟨by rw [HR.out]; first | rfl | trivial, HB0.out⟩
              | true =>
              cases o with
              | false =>
                have HR : Hid (T = false) := by rw [Hid, hm]; simp
                clear hm
                go_wp2_with (first
                  | (go_at_call 29; refine (H1.out _).mono ?_; rintro e w' ⟨rfl, rfl⟩)
                  | (go_at_call 30; refine (H2.out _).mono ?_; rintro e w' ⟨rfl, rfl⟩))
                go_ret
                exact ⟨by rw [HR.out]; first | rfl | trivial, HB0.out⟩
              | true =>
              rw [show (true && true && true && true && sameR sm) = sameR sm from by simp] at hm
              by_cases h0 : sm = ⟨#[]⟩
              · have e0 : sm.toList.isEmpty = true := by rw [h0]; exact is_nil
                have HR : Hid (T = true) := by rw [Hid, hm]; rw [h0]; exact sameR_nil
                clear h0
                clear hm
                go_wp2_with (first
                  | (go_at_call 29; refine (H1.out _).mono ?_; rintro e w' ⟨rfl, rfl⟩)
                  | (go_at_call 30; refine (H2.out _).mono ?_; rintro e w' ⟨rfl, rfl⟩))
                go_ret
                exact ⟨by rw [HR.out]; first | rfl | trivial, HB0.out⟩
              have e0 := not_nil h0
              by_cases h1 : sm = sStrict
              · have e1 : (sm.toList == [83, 116, 114, 105, 99, 116]) = true := toList_lit h1
                have HR : Hid (T = true) := by rw [Hid, hm]; rw [h1]; decide
                clear h0 h1
                clear hm
                go_wp2_with (first
                  | (go_at_call 29; refine (H1.out _).mono ?_; rintro e w' ⟨rfl, rfl⟩)
                  | (go_at_call 30; refine (H2.out _).mono ?_; rintro e w' ⟨rfl, rfl⟩))
                go_ret
                exact ⟨by rw [HR.out]; first | rfl | trivial, HB0.out⟩
              have e1 : (sm.toList == [83, 116, 114, 105, 99, 116]) = false := toList_not h1
              by_cases h2 : sm = sLax
              · have e2 : (sm.toList == [76, 97, 120]) = true := toList_lit h2
                have HR : Hid (T = true) := by rw [Hid, hm]; rw [h2]; decide
                clear h0 h1 h2
                clear hm
                go_wp2_with (first
                  | (go_at_call 29; refine (H1.out _).mono ?_; rintro e w' ⟨rfl, rfl⟩)
                  | (go_at_call 30; refine (H2.out _).mono ?_; rintro e w' ⟨rfl, rfl⟩))
                go_ret
                exact ⟨by rw [HR.out]; first | rfl | trivial, HB0.out⟩
              have e2 : (sm.toList == [76, 97, 120]) = false := toList_not h2
              by_cases h3 : sm = sNone
              · have e3 : (sm.toList == [78, 111, 110, 101]) = true := toList_lit h3
                have HR : Hid (T = true) := by rw [Hid, hm]; rw [h3]; decide
                clear h0 h1 h2 h3
                clear hm
                go_wp2_with (first
                  | (go_at_call 29; refine (H1.out _).mono ?_; rintro e w' ⟨rfl, rfl⟩)
                  | (go_at_call 30; refine (H2.out _).mono ?_; rintro e w' ⟨rfl, rfl⟩))
                go_ret
                exact ⟨by rw [HR.out]; first | rfl | trivial, HB0.out⟩
              have e3 : (sm.toList == [78, 111, 110, 101]) = false := toList_not h3
              have HR : Hid (T = false) := by rw [Hid, hm]; unfold sameR; rw [decide_eq_false]; rintro (h | h | h | h) <;> contradiction
              clear h0 h1 h2 h3
              clear hm
              go_wp2_with (first
                | (go_at_call 29; refine (H1.out _).mono ?_; rintro e w' ⟨rfl, rfl⟩)
                | (go_at_call 30; refine (H2.out _).mono ?_; rintro e w' ⟨rfl, rfl⟩))
              go_ret
              exact ⟨by rw [HR.out]; first | rfl | trivial, HB0.out⟩
            · have q2 : (ag == 0) = false := by simp; exact ga
              have HR : Hid (T = false) := by rw [Hid, hm]; rw [decide_eq_false (by simp; omega)]; simp
              clear hm
              go_wp2_with fail
              go_ret
              exact ⟨by rw [HR.out]; first | rfl | trivial, HB0.out⟩
      · rw [decide_eq_false h0p] at he hm
        rw [Bool.false_or] at hm
        have r1 := fun W => run_byte pa (i := 0) (z := 0) rfl (by omega) W
        obtain ⟨x, hx⟩ : ∃ x, byteAt pa 0 = x := ⟨_, rfl⟩
        rw [hx] at r1 hm
        clear hx h0p
        by_cases h47 : x = 47
        · subst h47
          rw [decide_eq_true rfl] at hm
          rcases (by omega : ag < 0 ∨ 2147483647 < ag ∨ (0 ≤ ag ∧ ag ≤ 2147483647)) with g | g | g
          · have HR : Hid (T = false) := by rw [Hid, hm]; rw [decide_eq_false (by omega)]; simp
            have q0 : ag < 0 := g
            clear hm
            go_wp2_with fail
            go_ret
            exact ⟨by rw [HR.out]; first | rfl | trivial, HB0.out⟩
          · have HR : Hid (T = false) := by rw [Hid, hm]; rw [decide_eq_false (by omega)]; simp
            have q0 : ¬ ag < 0 := by omega
            have q1 : 2147483647 < ag := g
            clear hm
            go_wp2_with fail
            go_ret
            exact ⟨by rw [HR.out]; first | rfl | trivial, HB0.out⟩
          · have q0 : ¬ ag < 0 := by omega
            have q1 : ¬ 2147483647 < ag := by omega
            cases hs with
            | true =>
              rw [decide_eq_true (by simp; omega)] at hm
              cases t with
              | false =>
                have HR : Hid (T = false) := by rw [Hid, hm]; simp
                clear hm
                go_wp2_with (first
                  | (go_at_call 29; refine (H1.out _).mono ?_; rintro e w' ⟨rfl, rfl⟩))
                go_ret
                exact ⟨by rw [HR.out]; first | rfl | trivial, HB0.out⟩
              | true =>
              cases o with
              | false =>
                have HR : Hid (T = false) := by rw [Hid, hm]; simp
                clear hm
                go_wp2_with (first
                  | (go_at_call 29; refine (H1.out _).mono ?_; rintro e w' ⟨rfl, rfl⟩)
                  | (go_at_call 30; refine (H2.out _).mono ?_; rintro e w' ⟨rfl, rfl⟩))
                go_ret
                exact ⟨by rw [HR.out]; first | rfl | trivial, HB0.out⟩
              | true =>
              rw [show (true && true && true && true && sameR sm) = sameR sm from by simp] at hm
              by_cases h0 : sm = ⟨#[]⟩
              · have e0 : sm.toList.isEmpty = true := by rw [h0]; exact is_nil
                have HR : Hid (T = true) := by rw [Hid, hm]; rw [h0]; exact sameR_nil
                clear h0
                clear hm
                go_wp2_with (first
                  | (go_at_call 29; refine (H1.out _).mono ?_; rintro e w' ⟨rfl, rfl⟩)
                  | (go_at_call 30; refine (H2.out _).mono ?_; rintro e w' ⟨rfl, rfl⟩))
                go_ret
                exact ⟨by rw [HR.out]; first | rfl | trivial, HB0.out⟩
              have e0 := not_nil h0
              by_cases h1 : sm = sStrict
              · have e1 : (sm.toList == [83, 116, 114, 105, 99, 116]) = true := toList_lit h1
                have HR : Hid (T = true) := by rw [Hid, hm]; rw [h1]; decide
                clear h0 h1
                clear hm
                go_wp2_with (first
                  | (go_at_call 29; refine (H1.out _).mono ?_; rintro e w' ⟨rfl, rfl⟩)
                  | (go_at_call 30; refine (H2.out _).mono ?_; rintro e w' ⟨rfl, rfl⟩))
                go_ret
                exact ⟨by rw [HR.out]; first | rfl | trivial, HB0.out⟩
              have e1 : (sm.toList == [83, 116, 114, 105, 99, 116]) = false := toList_not h1
              by_cases h2 : sm = sLax
              · have e2 : (sm.toList == [76, 97, 120]) = true := toList_lit h2
                have HR : Hid (T = true) := by rw [Hid, hm]; rw [h2]; decide
                clear h0 h1 h2
                clear hm
                go_wp2_with (first
                  | (go_at_call 29; refine (H1.out _).mono ?_; rintro e w' ⟨rfl, rfl⟩)
                  | (go_at_call 30; refine (H2.out _).mono ?_; rintro e w' ⟨rfl, rfl⟩))
                go_ret
                exact ⟨by rw [HR.out]; first | rfl | trivial, HB0.out⟩
              have e2 : (sm.toList == [76, 97, 120]) = false := toList_not h2
              by_cases h3 : sm = sNone
              · have e3 : (sm.toList == [78, 111, 110, 101]) = true := toList_lit h3
                have HR : Hid (T = true) := by rw [Hid, hm]; rw [h3]; decide
                clear h0 h1 h2 h3
                clear hm
                go_wp2_with (first
                  | (go_at_call 29; refine (H1.out _).mono ?_; rintro e w' ⟨rfl, rfl⟩)
                  | (go_at_call 30; refine (H2.out _).mono ?_; rintro e w' ⟨rfl, rfl⟩))
                go_ret
                exact ⟨by rw [HR.out]; first | rfl | trivial, HB0.out⟩
              have e3 : (sm.toList == [78, 111, 110, 101]) = false := toList_not h3
              have HR : Hid (T = false) := by rw [Hid, hm]; unfold sameR; rw [decide_eq_false]; rintro (h | h | h | h) <;> contradiction
              clear h0 h1 h2 h3
              clear hm
              go_wp2_with (first
                | (go_at_call 29; refine (H1.out _).mono ?_; rintro e w' ⟨rfl, rfl⟩)
                | (go_at_call 30; refine (H2.out _).mono ?_; rintro e w' ⟨rfl, rfl⟩))
              go_ret
              exact ⟨by rw [HR.out]; first | rfl | trivial, HB0.out⟩
            | false =>
              by_cases ga : ag = 0
              · subst ga
                rw [decide_eq_true (by simp)] at hm
                cases t with
                | false =>
                  have HR : Hid (T = false) := by rw [Hid, hm]; simp
                  clear hm
                  go_wp2_with (first
                    | (go_at_call 29; refine (H1.out _).mono ?_; rintro e w' ⟨rfl, rfl⟩))
                  go_ret
                  exact ⟨by rw [HR.out]; first | rfl | trivial, HB0.out⟩
                | true =>
                cases o with
                | false =>
                  have HR : Hid (T = false) := by rw [Hid, hm]; simp
                  clear hm
                  go_wp2_with (first
                    | (go_at_call 29; refine (H1.out _).mono ?_; rintro e w' ⟨rfl, rfl⟩)
                    | (go_at_call 30; refine (H2.out _).mono ?_; rintro e w' ⟨rfl, rfl⟩))
                  go_ret
                  exact ⟨by rw [HR.out]; first | rfl | trivial, HB0.out⟩
                | true =>
                rw [show (true && true && true && true && sameR sm) = sameR sm from by simp] at hm
                by_cases h0 : sm = ⟨#[]⟩
                · have e0 : sm.toList.isEmpty = true := by rw [h0]; exact is_nil
                  have HR : Hid (T = true) := by rw [Hid, hm]; rw [h0]; exact sameR_nil
                  clear h0
                  clear hm
                  go_wp2_with (first
                    | (go_at_call 29; refine (H1.out _).mono ?_; rintro e w' ⟨rfl, rfl⟩)
                    | (go_at_call 30; refine (H2.out _).mono ?_; rintro e w' ⟨rfl, rfl⟩))
                  go_ret
                  exact ⟨by rw [HR.out]; first | rfl | trivial, HB0.out⟩
                have e0 := not_nil h0
                by_cases h1 : sm = sStrict
                · have e1 : (sm.toList == [83, 116, 114, 105, 99, 116]) = true := toList_lit h1
                  have HR : Hid (T = true) := by rw [Hid, hm]; rw [h1]; decide
                  clear h0 h1
                  clear hm
                  go_wp2_with (first
                    | (go_at_call 29; refine (H1.out _).mono ?_; rintro e w' ⟨rfl, rfl⟩)
                    | (go_at_call 30; refine (H2.out _).mono ?_; rintro e w' ⟨rfl, rfl⟩))
                  go_ret
                  exact ⟨by rw [HR.out]; first | rfl | trivial, HB0.out⟩
                have e1 : (sm.toList == [83, 116, 114, 105, 99, 116]) = false := toList_not h1
                by_cases h2 : sm = sLax
                · have e2 : (sm.toList == [76, 97, 120]) = true := toList_lit h2
                  have HR : Hid (T = true) := by rw [Hid, hm]; rw [h2]; decide
                  clear h0 h1 h2
                  clear hm
                  go_wp2_with (first
                    | (go_at_call 29; refine (H1.out _).mono ?_; rintro e w' ⟨rfl, rfl⟩)
                    | (go_at_call 30; refine (H2.out _).mono ?_; rintro e w' ⟨rfl, rfl⟩))
                  go_ret
                  exact ⟨by rw [HR.out]; first | rfl | trivial, HB0.out⟩
                have e2 : (sm.toList == [76, 97, 120]) = false := toList_not h2
                by_cases h3 : sm = sNone
                · have e3 : (sm.toList == [78, 111, 110, 101]) = true := toList_lit h3
                  have HR : Hid (T = true) := by rw [Hid, hm]; rw [h3]; decide
                  clear h0 h1 h2 h3
                  clear hm
                  go_wp2_with (first
                    | (go_at_call 29; refine (H1.out _).mono ?_; rintro e w' ⟨rfl, rfl⟩)
                    | (go_at_call 30; refine (H2.out _).mono ?_; rintro e w' ⟨rfl, rfl⟩))
                  go_ret
                  exact ⟨by rw [HR.out]; first | rfl | trivial, HB0.out⟩
                have e3 : (sm.toList == [78, 111, 110, 101]) = false := toList_not h3
                have HR : Hid (T = false) := by rw [Hid, hm]; unfold sameR; rw [decide_eq_false]; rintro (h | h | h | h) <;> contradiction
                clear h0 h1 h2 h3
                clear hm
                go_wp2_with (first
                  | (go_at_call 29; refine (H1.out _).mono ?_; rintro e w' ⟨rfl, rfl⟩)
                  | (go_at_call 30; refine (H2.out _).mono ?_; rintro e w' ⟨rfl, rfl⟩))
                go_ret
                exact ⟨by rw [HR.out]; first | rfl | trivial, HB0.out⟩
              · have q2 : (ag == 0) = false := by simp; exact ga
                have HR : Hid (T = false) := by rw [Hid, hm]; rw [decide_eq_false (by simp; omega)]; simp
                clear hm
                go_wp2_with fail
                go_ret
                exact ⟨by rw [HR.out]; first | rfl | trivial, HB0.out⟩
        · rw [decide_eq_false h47] at hm
          have q2 : ¬ (x : Int) = 47 := by omega
          have q3 : ((x : Int) == 47) = false := by simp; omega
          have HR : Hid (T = false) := by rw [Hid, hm]; simp
          clear h47
          clear hm
          go_wp2_with fail
          go_ret
          exact ⟨by rw [HR.out]; first | rfl | trivial, HB0.out⟩
end Go.Proofs.YtimabpfahhbadaaDoor
