/-
  The contract of find, its ways one by one.
-/
import Derived.Test.YtefigcnfcbdecaaFindH
namespace Go.Proofs.Ytefigcnfcbdecaa
open Go.RowKit
section
variable (b off cap N at_ : Nat) (begun : Bool) (w : World) (sk rm m P a2 R : Nat)
set_option maxRecDepth 100000 in
set_option maxHeartbeats 4000000 in
theorem find_e1 (ad : Addr) (_hN : N ≤ 140737488355328)
    (HP : Hid (∀ W : World, Calls Try.prog 31 #[.int .i64 N] W fun r w' => r = .returned (.tuple #[.int .i64 (sk : Nat), .int .i64 (rm : Nat)]) ∧ w' = W)) (_hsk : sk ≤ 6)
    (HZ : Hid (∀ (p : Option Addr) (c : Nat) (W : World), Calls Try.prog 39 #[.slice p 0 c] W fun r w' => r = .returned (.bool true) ∧ w' = W)) :
    Calls Try.prog 38 #[.slice (some ad) N N, .int .i64 N, .bool true] w fun r w' => r = .returned (errV 2) ∧ Below w.heap.size w w' := by
  have hmin : (if (N : Int) < (N : Int) + (sk : Int) then (N : Int) else (N : Int) + (sk : Int)) = (N : Int) := by split <;> omega
  go_enter Try.func38, Try.ntmps38
  go_wp2_with fail
  refine (HP.out _).mono ?_
  rintro e w1 ⟨rfl, hw⟩
  subst hw
  go_wp2_with fail
  all_goals
    refine (HZ.out _ _ _).mono ?_
    rintro e w2 ⟨rfl, hw⟩
    subst hw
    go_wp2_with fail
    exact bodyPost_ret (v := errV 2) (by simp [results, Try.results38, go_sem, errV]) rfl ⟨rfl, (Below.refl _ _).alloc (Nat.le_refl _) _⟩
set_option maxRecDepth 100000 in
set_option maxHeartbeats 4000000 in
theorem find_ne1
    (HP : Hid (∀ W : World, Calls Try.prog 31 #[.int .i64 0] W fun r w' => r = .returned (.tuple #[.int .i64 0, .int .i64 1017]) ∧ w' = W))
    (HZ : Hid (∀ (p : Option Addr) (c : Nat) (W : World), Calls Try.prog 39 #[.slice p 0 c] W fun r w' => r = .returned (.bool true) ∧ w' = W)) :
    Calls Try.prog 38 #[.slice none 0 0, .int .i64 0, .bool true] w fun r w' => r = .returned (errV 2) ∧ Below w.heap.size w w' := by
  go_enter Try.func38, Try.ntmps38
  go_wp2_with fail
  refine (HP.out _).mono ?_
  rintro e w1 ⟨rfl, hw⟩
  subst hw
  go_wp2_with fail
  refine (HZ.out _ _ _).mono ?_
  rintro e w2 ⟨rfl, hw⟩
  subst hw
  go_wp2_with fail
  exact bodyPost_ret (v := errV 2) (by simp [results, Try.results38, go_sem, errV]) rfl ⟨rfl, (Below.refl _ _).alloc (Nat.le_refl _) _⟩
set_option maxRecDepth 100000 in
set_option maxHeartbeats 4000000 in
theorem find_e2 (ad : Addr) (_hN : N ≤ 140737488355328)
    (HP : Hid (∀ W : World, Calls Try.prog 31 #[.int .i64 N] W fun r w' => r = .returned (.tuple #[.int .i64 (sk : Nat), .int .i64 (rm : Nat)]) ∧ w' = W)) (_hsk : sk ≤ 6)
    (HZ : Hid (∀ (p : Option Addr) (c : Nat) (W : World), Calls Try.prog 39 #[.slice p 0 c] W fun r w' => r = .returned (.bool true) ∧ w' = W)) :
    Calls Try.prog 38 #[.slice (some ad) N N, .int .i64 N, .bool false] w fun r w' => r = .returned (errV 1) ∧ Below w.heap.size w w' := by
  have hmin : (if (N : Int) < (N : Int) + (sk : Int) then (N : Int) else (N : Int) + (sk : Int)) = (N : Int) := by split <;> omega
  go_enter Try.func38, Try.ntmps38
  go_wp2_with fail
  refine (HP.out _).mono ?_
  rintro e w1 ⟨rfl, hw⟩
  subst hw
  go_wp2_with fail
  all_goals
    refine (HZ.out _ _ _).mono ?_
    rintro e w2 ⟨rfl, hw⟩
    subst hw
    go_wp2_with fail
    exact bodyPost_ret (v := errV 1) (by simp [results, Try.results38, go_sem, errV]) rfl ⟨rfl, (Below.refl _ _).alloc (Nat.le_refl _) _⟩
set_option maxRecDepth 100000 in
set_option maxHeartbeats 4000000 in
theorem find_ne2
    (HP : Hid (∀ W : World, Calls Try.prog 31 #[.int .i64 0] W fun r w' => r = .returned (.tuple #[.int .i64 0, .int .i64 1017]) ∧ w' = W))
    (HZ : Hid (∀ (p : Option Addr) (c : Nat) (W : World), Calls Try.prog 39 #[.slice p 0 c] W fun r w' => r = .returned (.bool true) ∧ w' = W)) :
    Calls Try.prog 38 #[.slice none 0 0, .int .i64 0, .bool false] w fun r w' => r = .returned (errV 1) ∧ Below w.heap.size w w' := by
  go_enter Try.func38, Try.ntmps38
  go_wp2_with fail
  refine (HP.out _).mono ?_
  rintro e w1 ⟨rfl, hw⟩
  subst hw
  go_wp2_with fail
  refine (HZ.out _ _ _).mono ?_
  rintro e w2 ⟨rfl, hw⟩
  subst hw
  go_wp2_with fail
  exact bodyPost_ret (v := errV 1) (by simp [results, Try.results38, go_sem, errV]) rfl ⟨rfl, (Below.refl _ _).alloc (Nat.le_refl _) _⟩
end
end Go.Proofs.Ytefigcnfcbdecaa
