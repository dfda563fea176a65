/-
  Whether cells are in order, of both.
-/
import Derived.Test.YtohamjoiohfoiaaBase
namespace Go.Proofs.Ytohamjoiohfoiaa
open Go.RowKit
/-- Is each cell ahead of the one behind it? -/
def sortedC : List Cl → Bool
  | a :: b :: l => lessC a b && sortedC (b :: l)
  | _ => true
theorem sortedC_true {l : List Cl} (h : ∀ i, 1 ≤ i → i < l.length → ∀ x y, l[i - 1]? = some x → l[i]? = some y → lessC x y = true) : sortedC l = true := by
  induction l with
  | nil => rfl
  | cons a l ih =>
    cases l with
    | nil => rfl
    | cons b l =>
      rw [sortedC, h 1 (by omega) (by simp) a b rfl rfl, ih (fun i h1 h2 x y hx hy => h (i + 1) (by omega) (by simp at h2 ⊢; omega) x y (by
        obtain ⟨j, rfl⟩ : ∃ j, i = j + 1 := ⟨i - 1, by omega⟩
        simpa using hx) (by simpa using hy))]
      rfl
theorem sortedC_false {l : List Cl} {i : Nat} {x y : Cl} (h1 : 1 ≤ i) (hx : l[i - 1]? = some x) (hy : l[i]? = some y) (h : lessC x y = false) : sortedC l = false := by
  induction l generalizing i with
  | nil => simp at hy
  | cons a l ih =>
    cases l with
    | nil =>
      have := (List.getElem?_eq_some_iff.1 hy).1
      simp at this
      omega
    | cons b l =>
      rw [sortedC]
      obtain ⟨j, rfl⟩ : ∃ j, i = j + 1 := ⟨i - 1, by omega⟩
      cases j with
      | zero =>
        simp at hx hy
        subst hx hy
        rw [h]
        rfl
      | succ j =>
        rw [ih (i := j + 1) (by omega) (by simpa using hx) (by simpa using hy), Bool.and_false]
set_option maxRecDepth 100000 in
set_option maxHeartbeats 2000000 in
theorem sorted_any (B n c : Nat) (a : Option Addr) (l : List Cl) (w : World) (h : CA B w a l) (hl : l.length = n) (hB : B ≤ w.heap.size) (hn : n < 1000000000000000) :
    Calls Try.prog 12 #[.slice a n c] w fun r w' => r = .returned (.bool (sortedC l)) ∧ Below w.heap.size w w' := by
  have HC : Hid _ := h
  have HL : Hid _ := hl
  clear h hl
  go_enter Try.func12, Try.ntmps12
  go_wp2_with fail
  go_loopw [3] (fun i wr => ∃ k : Nat, 1 ≤ k ∧ (k ≤ n ∨ k = 1) ∧ i = .int .i64 (k : Nat) ∧ Hid (∀ i, 1 ≤ i → i < k → ∀ x y, l[i - 1]? = some x → l[i]? = some y → lessC x y = true) ∧ Hid (Below w.heap.size w wr)) (fun i _ => n - (intOf i).toNat)
  case atStart => exact ⟨1, by omega, by omega, rfl, fun i h1 h2 => by omega, Below.refl _ _⟩
  case round =>
    obtain ⟨k, hk1, hkn, rfl, HE, HB⟩ := hrel
    by_cases hlt : k < n
    · obtain ⟨x, hx⟩ : ∃ x, l[k - 1]? = some x := ⟨l[k - 1]'(by rw [HL.out]; omega), List.getElem?_eq_getElem _⟩
      obtain ⟨y, hy⟩ : ∃ y, l[k]? = some y := ⟨l[k]'(by rw [HL.out]; exact hlt), List.getElem?_eq_getElem _⟩
      have HC2 : CA B wr a l := CA.below HC.out (fun b hb => HB.out.block b (by omega))
      obtain ⟨b, off, rfl, _, x0, x1, x2, x3⟩ := HC2 (k - 1) x hx
      obtain ⟨b', off', e, _, y0, y1, y2, y3⟩ := HC2 k y hy
      cases e
      have HX : Hid _ := hx
      have HY : Hid _ := hy
      obtain ⟨m, hm⟩ : ∃ m, k - 1 = m := ⟨_, rfl⟩
      have hkm : k = m + 1 := by omega
      subst hkm
      rw [hm] at x0 x1 x2 x3
      have HLS : Hid (∀ W, Calls Try.prog 10 #[clV x, clV y] W fun r w' => r = .returned (.bool (lessC x y)) ∧ Below W.heap.size W w') := fun W => less_any x y W
      simp only [clV] at HLS
      have hmI : IntKind.i64.wrap ((m : Int) + 1 - 1) = (m : Int) := by rw [IntKind.wrap_i64]; omega
      have hmJ : IntKind.i64.wrap (((m + 1 : Nat) : Int) - 1) = (m : Int) := by rw [IntKind.wrap_i64]; omega
      have hmK : IntKind.i64.wrap (m : Int) = (m : Int) := by rw [IntKind.wrap_i64]; omega
      have hmn : m < n := by omega
      have hmn2 : (m : Int) < (n : Int) := by omega
      clear hx hy HC2 hm
      cases hls : lessC x y with
      | true =>
        rw [hls] at HLS
        have HT : Hid _ := hls
        clear hls
        go_wp2_with fail
        go_region_with (go_at_call 10; refine Calls.mono (HLS.out _) ?_; rintro e w3 ⟨rfl, b3⟩)
        all_goals
          have HB3 : Hid (Below w.heap.size w w3) := HB.out.drew.trans (b3.mono HB.out.size)
          clear b3
          go_wp2_with fail
          go_roundw
          case rel =>
            refine ⟨m + 1 + 1, by omega, by omega, by go_num, fun i h1 h2 x' y' hx' hy' => ?_, HB3.out⟩
            by_cases hi : i < m + 1
            · exact HE.out i h1 hi x' y' hx' hy'
            · obtain rfl : i = m + 1 := by omega
              rw [HX.out] at hx'
              rw [HY.out] at hy'
              cases hx'
              cases hy'
              exact HT.out
          case measure => simp [intOf]; omega
      | false =>
        rw [hls] at HLS
        have HT : Hid (sortedC l = false) := sortedC_false (by omega) HX.out HY.out hls
        clear hls
        go_wp2_with fail
        go_region_with (go_at_call 10; refine Calls.mono (HLS.out _) ?_; rintro e w3 ⟨rfl, b3⟩)
        all_goals
          have HB3 : Hid (Below w.heap.size w w3) := HB.out.drew.trans (b3.mono HB.out.size)
          clear b3
          go_wp2_with fail
          go_ret
          exact ⟨by rw [HT.out]; rfl, HB3.out⟩
    · have HT : Hid (sortedC l = true) := sortedC_true (fun i h1 h2 x y hx hy => HE.out i h1 (by have := HL.out; omega) x y hx hy)
      go_wp2_with fail
      go_ret
      exact ⟨by rw [HT.out]; rfl, HB.out⟩
set_option maxRecDepth 100000 in
set_option maxHeartbeats 2000000 in
theorem rsorted_any (B n c : Nat) (a : Option Addr) (l : List Cl) (w : World) (h : CA B w a l) (hl : l.length = n) (hB : B ≤ w.heap.size) (hn : n < 1000000000000000) :
    Calls Try.prog 13 #[.slice a n c] w fun r w' => r = .returned (.bool (sortedC l)) ∧ Below w.heap.size w w' := by
  have HC : Hid _ := h
  have HL : Hid _ := hl
  clear h hl
  go_enter Try.func13, Try.ntmps13
  go_wp2_with fail
  go_loopw [3] (fun i wr => ∃ k : Nat, 1 ≤ k ∧ (k ≤ n ∨ k = 1) ∧ i = .int .i64 (k : Nat) ∧ Hid (∀ i, 1 ≤ i → i < k → ∀ x y, l[i - 1]? = some x → l[i]? = some y → lessC x y = true) ∧ Hid (Below w.heap.size w wr)) (fun i _ => n - (intOf i).toNat)
  case atStart => exact ⟨1, by omega, by omega, rfl, fun i h1 h2 => by omega, Below.refl _ _⟩
  case round =>
    obtain ⟨k, hk1, hkn, rfl, HE, HB⟩ := hrel
    by_cases hlt : k < n
    · obtain ⟨x, hx⟩ : ∃ x, l[k - 1]? = some x := ⟨l[k - 1]'(by rw [HL.out]; omega), List.getElem?_eq_getElem _⟩
      obtain ⟨y, hy⟩ : ∃ y, l[k]? = some y := ⟨l[k]'(by rw [HL.out]; exact hlt), List.getElem?_eq_getElem _⟩
      have HC2 : CA B wr a l := CA.below HC.out (fun b hb => HB.out.block b (by omega))
      obtain ⟨b, off, rfl, _, x0, x1, x2, x3⟩ := HC2 (k - 1) x hx
      obtain ⟨b', off', e, _, y0, y1, y2, y3⟩ := HC2 k y hy
      cases e
      have HX : Hid _ := hx
      have HY : Hid _ := hy
      obtain ⟨m, hm⟩ : ∃ m, k - 1 = m := ⟨_, rfl⟩
      have hkm : k = m + 1 := by omega
      subst hkm
      rw [hm] at x0 x1 x2 x3
      have HLS : Hid (∀ W, Calls Try.prog 11 #[clV x, clV y] W fun r w' => r = .returned (.bool (lessC x y)) ∧ Below W.heap.size W w') := fun W => rless_any x y W
      simp only [clV] at HLS
      have hmI : IntKind.i64.wrap ((m : Int) + 1 - 1) = (m : Int) := by rw [IntKind.wrap_i64]; omega
      have hmJ : IntKind.i64.wrap (((m + 1 : Nat) : Int) - 1) = (m : Int) := by rw [IntKind.wrap_i64]; omega
      have hmK : IntKind.i64.wrap (m : Int) = (m : Int) := by rw [IntKind.wrap_i64]; omega
      have hmn : m < n := by omega
      have hmn2 : (m : Int) < (n : Int) := by omega
      clear hx hy HC2 hm
      cases hls : lessC x y with
      | true =>
        rw [hls] at HLS
        have HT : Hid _ := hls
        clear hls
        go_wp2_with fail
        go_region_with (go_at_call 11; refine Calls.mono (HLS.out _) ?_; rintro e w3 ⟨rfl, b3⟩)
        all_goals
          have HB3 : Hid (Below w.heap.size w w3) := HB.out.drew.trans (b3.mono HB.out.size)
          clear b3
          go_wp2_with fail
          go_roundw
          case rel =>
            refine ⟨m + 1 + 1, by omega, by omega, by go_num, fun i h1 h2 x' y' hx' hy' => ?_, HB3.out⟩
            by_cases hi : i < m + 1
            · exact HE.out i h1 hi x' y' hx' hy'
            · obtain rfl : i = m + 1 := by omega
              rw [HX.out] at hx'
              rw [HY.out] at hy'
              cases hx'
              cases hy'
              exact HT.out
          case measure => simp [intOf]; omega
      | false =>
        rw [hls] at HLS
        have HT : Hid (sortedC l = false) := sortedC_false (by omega) HX.out HY.out hls
        clear hls
        go_wp2_with fail
        go_region_with (go_at_call 11; refine Calls.mono (HLS.out _) ?_; rintro e w3 ⟨rfl, b3⟩)
        all_goals
          have HB3 : Hid (Below w.heap.size w w3) := HB.out.drew.trans (b3.mono HB.out.size)
          clear b3
          go_wp2_with fail
          go_ret
          exact ⟨by rw [HT.out]; rfl, HB3.out⟩
    · have HT : Hid (sortedC l = true) := sortedC_true (fun i h1 h2 x y hx hy => HE.out i h1 (by have := HL.out; omega) x y hx hy)
      go_wp2_with fail
      go_ret
      exact ⟨by rw [HT.out]; rfl, HB.out⟩
end Go.Proofs.Ytohamjoiohfoiaa
