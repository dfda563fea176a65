/-
  The contracts of the twin's small functions.
-/
import Derived.Test.YtbhlpiilklgnkaaDoorSmall
namespace Go.Proofs.YtbhlpiilklgnkaaDoor
open Go.RowKit
set_option maxRecDepth 20000 in
set_option maxHeartbeats 1000000 in
theorem risRune_any (z : Int) (w : World) : Calls Tryd.prog 42 #[.int .i64 z] w fun e w' => e = .returned (.bool (isRn z)) ∧ w' = w := by
  rcases (by omega : z < 0 ∨ (0 ≤ z ∧ z < 55296) ∨ (55296 ≤ z ∧ z ≤ 57343) ∨ (57343 < z ∧ z ≤ 1114111) ∨ 1114111 < z) with g | g | g | g | g
  · rw [show isRn z = false by simp [isRn]; omega]
    have k0 : ¬ 0 ≤ z := by omega
    clear g
    go_enter Tryd.func42, Tryd.ntmps42
    go_wp2
    go_ret
    exact ⟨rfl, rfl⟩
  · rw [show isRn z = true by simp [isRn]; omega]
    have k0 : 0 ≤ z := by omega
    have k1 : z ≤ 1114111 := by omega
    have k2 : z < 55296 := by omega
    clear g
    go_enter Tryd.func42, Tryd.ntmps42
    go_wp2
    go_ret
    exact ⟨rfl, rfl⟩
  · rw [show isRn z = false by simp [isRn]; omega]
    have k0 : 0 ≤ z := by omega
    have k1 : z ≤ 1114111 := by omega
    have k2 : ¬ z < 55296 := by omega
    have k3 : ¬ 57343 < z := by omega
    clear g
    go_enter Tryd.func42, Tryd.ntmps42
    go_wp2
    go_ret
    exact ⟨rfl, rfl⟩
  · rw [show isRn z = true by simp [isRn]; omega]
    have k0 : 0 ≤ z := by omega
    have k1 : z ≤ 1114111 := by omega
    have k2 : ¬ z < 55296 := by omega
    have k3 : 57343 < z := by omega
    clear g
    go_enter Tryd.func42, Tryd.ntmps42
    go_wp2
    go_ret
    exact ⟨rfl, rfl⟩
  · rw [show isRn z = false by simp [isRn]; omega]
    have k0 : 0 ≤ z := by omega
    have k1 : ¬ z ≤ 1114111 := by omega
    clear g
    go_enter Tryd.func42, Tryd.ntmps42
    go_wp2
    go_ret
    exact ⟨rfl, rfl⟩
end Go.Proofs.YtbhlpiilklgnkaaDoor
