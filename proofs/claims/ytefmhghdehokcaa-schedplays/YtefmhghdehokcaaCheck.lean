/-
  Whether a timing may be, of both.
-/
import Derived.Test.YtefmhghdehokcaaClones
import Derived.Test.YtefmhghdehokcaaState
namespace Go.Proofs.Ytefmhghdehokcaa
open Go.RowKit
theorem max2_nat (x y : Nat) (w : World) : (Builtin.max2 (.int .i64 (x : Nat)) (.int .i64 (y : Nat))).run Try.prog w = .ok (.int .i64 ((max x y : Nat) : Int)) w := by
  have e : (if ((y : Nat) : Int) > ((x : Nat) : Int) then ((y : Nat) : Int) else ((x : Nat) : Int)) = ((max x y : Nat) : Int) := by split <;> omega
  rw [← e]
  rfl
theorem max3 (a b c : Nat) (w : World) : (Builtin.max_ #[3, 3, 3] 3 #[.int .i64 (a : Nat), .int .i64 (b : Nat), .int .i64 (c : Nat)]).run Try.prog w = .ok (.int .i64 ((max (max a b) c : Nat) : Int)) w := by
  simp [Builtin.max_, go_sem, max2_nat]
def pickBad (l : List Int) : Bool := l.any (fun x => decide (x < 0))
def tickBad (l : List Int) : Bool := l.any (fun x => decide (x < 0) || decide (2147483647 < x))
def chkT (picks ticks : List Int) (nd : Nat) : Int := if 65536 < picks.length ∨ 65536 < ticks.length ∨ 65536 < nd then 3 else if pickBad picks then 1 else if tickBad ticks then 1 else 0
theorem pick_bad {l : List Int} {k : Nat} {x : Int} (h : l[k]? = some x) (hx : x < 0) : pickBad l = true := List.any_eq_true.2 ⟨x, List.mem_of_getElem? h, by simpa using hx⟩
theorem tick_bad {l : List Int} {k : Nat} {x : Int} (h : l[k]? = some x) (hx : x < 0 ∨ 2147483647 < x) : tickBad l = true := List.any_eq_true.2 ⟨x, List.mem_of_getElem? h, by simpa using hx⟩
theorem pick_good {l : List Int} (h : ∀ j x, j < l.length → l[j]? = some x → 0 ≤ x) : pickBad l = false := by
  rw [pickBad, List.any_eq_false]
  intro x hx
  obtain ⟨j, hj⟩ := List.mem_iff_getElem?.1 hx
  have := h j x (List.getElem?_eq_some_iff.1 hj).1 hj
  simp; omega
theorem tick_good {l : List Int} (h : ∀ j x, j < l.length → l[j]? = some x → 0 ≤ x ∧ x ≤ 2147483647) : tickBad l = false := by
  rw [tickBad, List.any_eq_false]
  intro x hx
  obtain ⟨j, hj⟩ := List.mem_iff_getElem?.1 hx
  have := h j x (List.getElem?_eq_some_iff.1 hj).1 hj
  simp; omega
theorem VA.alloc {B : Nat} {w : World} {a : Option Addr} {vs : List Value} (h : VA B w a vs) (hB : B ≤ w.heap.size) (o : Obj) : VA B (w.alloc o) a vs := h.below (fun b hb => Below.heap_alloc _ _ _ (by omega))
set_option maxRecDepth 100000 in
set_option maxHeartbeats 4000000 in
theorem check_any (ap ak ad : Option Addr) (np nk nd cp ck cd B : Nat) (picks ticks : List Int) (w : World) (hnp : picks.length = np) (hnk : ticks.length = nk) (hp : VA B w ap (picks.map iV)) (hk : VA B w ak (ticks.map iV)) (hB : B ≤ w.heap.size) :
    Calls Try.prog 34 #[.agg #[.slice ap np cp, .slice ak nk ck, .slice ad nd cd]] w fun r w' => r = .returned (.int .i64 (chkT picks ticks nd)) ∧ Below w.heap.size w w' := by
  have mx : ∀ W, (Builtin.max_ #[3, 3, 3] 3 #[.int .i64 (np : Nat), .int .i64 (nk : Nat), .int .i64 (nd : Nat)]).run Try.prog W = .ok (.int .i64 ((max (max np nk) nd : Nat) : Int)) W := max3 np nk nd
  obtain ⟨m, hm⟩ : ∃ m : Nat, max (max np nk) nd = m := ⟨_, rfl⟩
  rw [hm] at mx
  have HC : Hid (chkT picks ticks nd = if 65536 < np ∨ 65536 < nk ∨ 65536 < nd then 3 else if pickBad picks then 1 else if tickBad ticks then 1 else 0) := by rw [Hid, chkT, hnp, hnk]
  obtain ⟨r0, hr0⟩ : ∃ r0, chkT picks ticks nd = r0 := ⟨_, rfl⟩
  rw [hr0]
  rw [hr0] at HC
  clear hr0
  have HP : Hid (∀ o, VA B (w.alloc o) ap (picks.map iV)) := fun o => hp.alloc hB o
  have HK : Hid (∀ o, VA B (w.alloc o) ak (ticks.map iV)) := fun o => hk.alloc hB o
  have HNP : Hid _ := hnp
  have HNK : Hid _ := hnk
  by_cases hlong : 65536 < m
  · have hr : Hid (r0 = 3) := by rw [Hid, HC.out, if_pos (by omega)]
    clear hp hk hnp hnk HC hm
    go_enter Try.func34, Try.ntmps34
    go_wp2_with fail
    go_ret
    exact ⟨by rw [hr.out]; rfl, (Below.refl _ _).alloc (Nat.le_refl _) _⟩
  · have hr : Hid (r0 = if pickBad picks then 1 else if tickBad ticks then 1 else 0) := by rw [Hid, HC.out, if_neg (by omega)]
    have hnp1 : np ≤ 65536 := by omega
    have hnk1 : nk ≤ 65536 := by omega
    clear hp hk hnp hnk HC hm
    go_enter Try.func34, Try.ntmps34
    go_wp2_with fail
    go_loop [21] (fun i => ∃ k : Nat, k ≤ np ∧ i = .int .i64 k ∧ Hid (∀ j x, j < k → picks[j]? = some x → 0 ≤ x)) (fun i => np - (intOf i).toNat)
    case atStart => exact ⟨0, by omega, rfl, fun j x hj => by omega⟩
    case round =>
      obtain ⟨k, hk, rfl, HE⟩ := hrel
      by_cases hlt : k < np
      · obtain ⟨x, hx⟩ : ∃ x, picks[k]? = some x := ⟨picks[k]'(by rw [HNP.out]; exact hlt), List.getElem?_eq_getElem _⟩
        obtain ⟨g, og, rfl, _, x0⟩ := HP.out (.cells #[.slice ap np cp, .slice ak nk ck, .slice ad nd cd] 25) k (iV x) (by rw [List.getElem?_map, hx]; rfl)
        rw [iV] at x0
        have HX : Hid _ := hx
        clear hx
        by_cases hxn : x < 0
        · have HR : Hid (r0 = 1) := by rw [Hid, hr.out, pick_bad HX.out hxn]; rfl
          go_wp2_with fail
          go_ret
          exact ⟨by rw [HR.out]; rfl, (Below.refl _ _).alloc (Nat.le_refl _) _⟩
        · go_wp2_with fail
          go_round
          case rel =>
            refine ⟨k + 1, by omega, by go_num, ?_⟩
            intro j y hj hy
            by_cases hjk : j < k
            · exact HE.out j y hjk hy
            · obtain rfl : j = k := by omega
              rw [HX.out] at hy
              cases hy
              omega
          case measure => simp [intOf]; omega
      · obtain rfl : k = np := by omega
        have hr2 : Hid (r0 = if tickBad ticks then 1 else 0) := by rw [Hid, hr.out, pick_good (fun j x hj hx => HE.out j x (by have := HNP.out; omega) hx)]; rfl
        clear hr
        go_wp2_with fail
        go_loop [31] (fun i => ∃ k : Nat, k ≤ nk ∧ i = .int .i64 k ∧ Hid (∀ j x, j < k → ticks[j]? = some x → 0 ≤ x ∧ x ≤ 2147483647)) (fun i => nk - (intOf i).toNat)
        case atStart => exact ⟨0, by omega, rfl, fun j x hj => by omega⟩
        case round =>
          obtain ⟨k2, hk2, rfl, HE2⟩ := hrel
          by_cases hlt2 : k2 < nk
          · obtain ⟨x, hx⟩ : ∃ x, ticks[k2]? = some x := ⟨ticks[k2]'(by rw [HNK.out]; exact hlt2), List.getElem?_eq_getElem _⟩
            obtain ⟨g, og, rfl, _, x0⟩ := HK.out (.cells #[.slice ap k cp, .slice ak nk ck, .slice ad nd cd] 25) k2 (iV x) (by rw [List.getElem?_map, hx]; rfl)
            rw [iV] at x0
            have HX : Hid _ := hx
            clear hx
            by_cases hxn : x < 0
            · have HR : Hid (r0 = 1) := by rw [Hid, hr2.out, tick_bad HX.out (Or.inl hxn)]; rfl
              go_wp2_with fail
              go_ret
              exact ⟨by rw [HR.out]; rfl, (Below.refl _ _).alloc (Nat.le_refl _) _⟩
            · by_cases hxg : 2147483647 < x
              · have HR : Hid (r0 = 1) := by rw [Hid, hr2.out, tick_bad HX.out (Or.inr hxg)]; rfl
                go_wp2_with fail
                go_ret
                exact ⟨by rw [HR.out]; rfl, (Below.refl _ _).alloc (Nat.le_refl _) _⟩
              · go_wp2_with fail
                go_round
                case rel =>
                  refine ⟨k2 + 1, by omega, by go_num, ?_⟩
                  intro j y hj hy
                  by_cases hjk : j < k2
                  · exact HE2.out j y hjk hy
                  · obtain rfl : j = k2 := by omega
                    rw [HX.out] at hy
                    cases hy
                    omega
                case measure => simp [intOf]; omega
          · obtain rfl : k2 = nk := by omega
            have HR : Hid (r0 = 0) := by rw [Hid, hr2.out, tick_good (fun j x hj hx => HE2.out j x (by have := HNK.out; omega) hx)]; rfl
            go_wp2_with fail
            go_ret
            exact ⟨by rw [HR.out]; rfl, (Below.refl _ _).alloc (Nat.le_refl _) _⟩
set_option maxRecDepth 100000 in
set_option maxHeartbeats 4000000 in
theorem rcheck_any (ap ak ad : Option Addr) (np nk nd cp ck cd B : Nat) (picks ticks : List Int) (w : World) (hnp : picks.length = np) (hnk : ticks.length = nk) (hp : VA B w ap (picks.map iV)) (hk : VA B w ak (ticks.map iV)) (hB : B ≤ w.heap.size) :
    Calls Try.prog 33 #[.agg #[.slice ap np cp, .slice ak nk ck, .slice ad nd cd]] w fun r w' => r = .returned (.int .i64 (chkT picks ticks nd)) ∧ Below w.heap.size w w' := by
  have HC : Hid (chkT picks ticks nd = if 65536 < np ∨ 65536 < nk ∨ 65536 < nd then 3 else if pickBad picks then 1 else if tickBad ticks then 1 else 0) := by rw [Hid, chkT, hnp, hnk]
  obtain ⟨r0, hr0⟩ : ∃ r0, chkT picks ticks nd = r0 := ⟨_, rfl⟩
  rw [hr0]
  rw [hr0] at HC
  clear hr0
  have HP : Hid (∀ o, VA B (w.alloc o) ap (picks.map iV)) := fun o => hp.alloc hB o
  have HK : Hid (∀ o, VA B (w.alloc o) ak (ticks.map iV)) := fun o => hk.alloc hB o
  have HNP : Hid _ := hnp
  have HNK : Hid _ := hnk
  by_cases hlong : 65536 < np ∨ 65536 < nk ∨ 65536 < nd
  · have hr : Hid (r0 = 3) := by rw [Hid, HC.out, if_pos hlong]
    clear hp hk hnp hnk HC
    by_cases l1 : 65536 < np
    · clear hlong
      go_enter Try.func33, Try.ntmps33
      go_wp2_with fail
      go_ret
      exact ⟨by rw [hr.out]; rfl, (Below.refl _ _).alloc (Nat.le_refl _) _⟩
    · by_cases l2 : 65536 < nk
      · clear hlong
        go_enter Try.func33, Try.ntmps33
        go_wp2_with fail
        go_ret
        exact ⟨by rw [hr.out]; rfl, (Below.refl _ _).alloc (Nat.le_refl _) _⟩
      · have l3 : 65536 < nd := by omega
        clear hlong
        go_enter Try.func33, Try.ntmps33
        go_wp2_with fail
        go_ret
        exact ⟨by rw [hr.out]; rfl, (Below.refl _ _).alloc (Nat.le_refl _) _⟩
  · have hr : Hid (r0 = if pickBad picks then 1 else if tickBad ticks then 1 else 0) := by rw [Hid, HC.out, if_neg (by omega)]
    have hnp1 : np ≤ 65536 := by omega
    have hnk1 : nk ≤ 65536 := by omega
    have hnd1 : nd ≤ 65536 := by omega
    clear hp hk hnp hnk HC hlong
    go_enter Try.func33, Try.ntmps33
    go_wp2_with fail
    go_loop [3] (fun i => ∃ k : Nat, k ≤ np ∧ i = .int .i64 k ∧ Hid (∀ j x, j < k → picks[j]? = some x → 0 ≤ x)) (fun i => np - (intOf i).toNat)
    case atStart => exact ⟨0, by omega, rfl, fun j x hj => by omega⟩
    case round =>
      obtain ⟨k, hk, rfl, HE⟩ := hrel
      by_cases hlt : k < np
      · obtain ⟨x, hx⟩ : ∃ x, picks[k]? = some x := ⟨picks[k]'(by rw [HNP.out]; exact hlt), List.getElem?_eq_getElem _⟩
        obtain ⟨g, og, rfl, _, x0⟩ := HP.out (.cells #[.slice ap np cp, .slice ak nk ck, .slice ad nd cd] 25) k (iV x) (by rw [List.getElem?_map, hx]; rfl)
        rw [iV] at x0
        have HX : Hid _ := hx
        clear hx
        by_cases hxn : x < 0
        · have HR : Hid (r0 = 1) := by rw [Hid, hr.out, pick_bad HX.out hxn]; rfl
          go_wp2_with fail
          go_ret
          exact ⟨by rw [HR.out]; rfl, (Below.refl _ _).alloc (Nat.le_refl _) _⟩
        · go_wp2_with fail
          go_round
          case rel =>
            refine ⟨k + 1, by omega, by go_num, ?_⟩
            intro j y hj hy
            by_cases hjk : j < k
            · exact HE.out j y hjk hy
            · obtain rfl : j = k := by omega
              rw [HX.out] at hy
              cases hy
              omega
          case measure => simp [intOf]; omega
      · obtain rfl : k = np := by omega
        have hr2 : Hid (r0 = if tickBad ticks then 1 else 0) := by rw [Hid, hr.out, pick_good (fun j x hj hx => HE.out j x (by have := HNP.out; omega) hx)]; rfl
        clear hr
        go_wp2_with fail
        go_loop [4] (fun i => ∃ k : Nat, k ≤ nk ∧ i = .int .i64 k ∧ Hid (∀ j x, j < k → ticks[j]? = some x → 0 ≤ x ∧ x ≤ 2147483647)) (fun i => nk - (intOf i).toNat)
        case atStart => exact ⟨0, by omega, rfl, fun j x hj => by omega⟩
        case round =>
          obtain ⟨k2, hk2, rfl, HE2⟩ := hrel
          by_cases hlt2 : k2 < nk
          · obtain ⟨x, hx⟩ : ∃ x, ticks[k2]? = some x := ⟨ticks[k2]'(by rw [HNK.out]; exact hlt2), List.getElem?_eq_getElem _⟩
            obtain ⟨g, og, rfl, _, x0⟩ := HK.out (.cells #[.slice ap k cp, .slice ak nk ck, .slice ad nd cd] 25) k2 (iV x) (by rw [List.getElem?_map, hx]; rfl)
            rw [iV] at x0
            have HX : Hid _ := hx
            clear hx
            by_cases hxn : x < 0
            · have HR : Hid (r0 = 1) := by rw [Hid, hr2.out, tick_bad HX.out (Or.inl hxn)]; rfl
              go_wp2_with fail
              go_ret
              exact ⟨by rw [HR.out]; rfl, (Below.refl _ _).alloc (Nat.le_refl _) _⟩
            · by_cases hxg : 2147483647 < x
              · have HR : Hid (r0 = 1) := by rw [Hid, hr2.out, tick_bad HX.out (Or.inr hxg)]; rfl
                go_wp2_with fail
                go_ret
                exact ⟨by rw [HR.out]; rfl, (Below.refl _ _).alloc (Nat.le_refl _) _⟩
              · go_wp2_with fail
                go_round
                case rel =>
                  refine ⟨k2 + 1, by omega, by go_num, ?_⟩
                  intro j y hj hy
                  by_cases hjk : j < k2
                  · exact HE2.out j y hjk hy
                  · obtain rfl : j = k2 := by omega
                    rw [HX.out] at hy
                    cases hy
                    omega
                case measure => simp [intOf]; omega
          · obtain rfl : k2 = nk := by omega
            have HR : Hid (r0 = 0) := by rw [Hid, hr2.out, tick_good (fun j x hj hx => HE2.out j x (by have := HNK.out; omega) hx)]; rfl
            go_wp2_with fail
            go_ret
            exact ⟨by rw [HR.out]; rfl, (Below.refl _ _).alloc (Nat.le_refl _) _⟩
end Go.Proofs.Ytefmhghdehokcaa
