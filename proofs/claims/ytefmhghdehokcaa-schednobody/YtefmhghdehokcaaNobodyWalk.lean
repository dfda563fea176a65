/-
  The walk of SchedNobody: whatever the numbers, the call returns true, and turns nothing that was there.
-/
import Derived.Test.YtefmhghdehokcaaLives
namespace Go.Proofs.Ytefmhghdehokcaa
open Go.RowKit
set_option maxRecDepth 100000 in
set_option maxHeartbeats 8000000 in
theorem nobody_walk (n : Int) (x : Nat) (w : World) : Calls Try.prog 7 #[.int .i64 n, .int .u64 (x : Nat)] w fun r w' => r = .returned (.bool true) ∧ Below w.heap.size w w' := by
  have H23 : Hid (∀ W : World, Calls Try.prog 23 #[.slice none 0 0] W fun r w' => ∃ q, r = .returned (.pointer (some ⟨q, 0, none⟩)) ∧ Below W.heap.size W w') := newActs_nil
  have H25 : Hid (∀ W : World, Calls Try.prog 25 #[.agg #[.slice none 0 0, .slice none 0 0, .slice none 0 0]] W fun r w' => ∃ p, r = .returned (.tuple #[.pointer (some ⟨p, 0, none⟩), .int .i64 0]) ∧ w'.heap[p]? = some (.cells #[.slice none 0 0, .slice none 0 0, .slice none 0 0, .slice none 0 0, .int .i64 0, .int .u64 0, .slice none 0 0, .int .u64 0] 83 (0, 0)) ∧ Below W.heap.size W w') := new_none
  have H24 : Hid (∀ W : World, Calls Try.prog 24 #[.pointer none, .pointer none] W fun r w' => r = .returned (.agg #[.bool true, .int .i64 0, .slice none 0 0]) ∧ Below W.heap.size W w') := actStep_nil _
  obtain ⟨m, hm⟩ : ∃ m, mixI (x : Int) = m := ⟨_, rfl⟩
  have H31 : Hid (∀ W : World, Calls Try.prog 31 #[.int .u64 (x : Nat)] W fun r w' => r = .returned (.int .u64 m) ∧ w' = W) := fun W => by rw [← hm]; exact mix_any x W
  have H32 : Hid (∀ W : World, Calls Try.prog 32 #[.int .u64 (x : Nat)] W fun r w' => r = .returned (.int .u64 m) ∧ w' = W) := fun W => by rw [← hm]; exact rmix_any x W
  have hmm : (m == m) = true := by simp
  clear hm
  go_enter Try.func7, Try.ntmps7
  go_wp2_with fail
  refine (lives_any _).mono ?_
  rintro e w1 ⟨rfl, B1⟩
  go_wp2_with fail
  refine (H23.out _).mono ?_
  rintro e w2 ⟨q, rfl, b2⟩
  have B2 : Below w.heap.size w w2 := B1.trans (b2.mono B1.size)
  clear b2 B1
  go_wp2_with fail
  refine (add_nil _ _).mono ?_
  rintro e w3 ⟨rfl, hw3⟩
  subst hw3
  go_wp2_with fail
  refine (step_nil _ _).mono ?_
  rintro e w4 ⟨rfl, hw4⟩
  subst hw4
  go_wp2_with fail
  refine (next_nil _).mono ?_
  rintro e w5 ⟨rfl, hw5⟩
  subst hw5
  go_wp2_with fail
  refine (H24.out _).mono ?_
  rintro e w6 ⟨rfl, b6⟩
  have B6 : Below w.heap.size w w6 := B2.trans (b6.mono B2.size)
  clear b6 B2
  go_wp2_with fail
  refine (H25.out _).mono ?_
  rintro e w7 ⟨p, rfl, hp7, b7⟩
  have B7 : Hid (Below w.heap.size w w7) := (B6.alloc B6.size _).trans (b7.mono (by simp; have := B6.size; omega))
  have hm7 : w7.cell? ⟨w6.heap.size, 0, none⟩ = some (.bool true) := by
    have h1 := (b7.block w6.heap.size (by simp)).trans (World.alloc_heap_new w6 (.cells #[.bool true, .int .i64 0, .slice none 0 0] 64))
    have := cells_of_block h1 0
    simpa using this
  obtain ⟨M, hM⟩ : ∃ M, w6.heap.size = M := ⟨_, rfl⟩
  rw [hM] at hm7
  rw [hM]
  clear hp7 b7 B6 hM
  go_wp2_with fail
  refine (add_none _ _).mono ?_
  rintro e w8 ⟨rfl, hw8⟩
  subst hw8
  go_wp2_with fail
  refine (run_nil _).mono ?_
  rintro e w9 ⟨rfl, hw9⟩
  subst hw9
  go_wp2_with fail
  refine (wake_nil _ _).mono ?_
  rintro e w10 ⟨rfl, hw10⟩
  subst hw10
  go_wp2_with fail
  refine (now_nil _).mono ?_
  rintro e w11 ⟨rfl, hw11⟩
  subst hw11
  go_wp2_with fail
  refine (steps_nil _).mono ?_
  rintro e w12 ⟨rfl, hw12⟩
  subst hw12
  go_wp2_with fail
  refine (waits_nil _).mono ?_
  rintro e w13 ⟨rfl, hw13⟩
  subst hw13
  go_wp2_with fail
  refine (ready_nil _).mono ?_
  rintro e w14 ⟨rfl, hw14⟩
  subst hw14
  go_wp2_with fail
  refine (done_nil _).mono ?_
  rintro e w15 ⟨rfl, hw15⟩
  subst hw15
  go_wp2_with fail
  refine (envNow_nil _).mono ?_
  rintro e w16 ⟨rfl, hw16⟩
  subst hw16
  go_wp2_with fail
  refine (draw_nil _).mono ?_
  rintro e w17 ⟨rfl, hw17⟩
  subst hw17
  go_wp2_with fail
  refine (told_nil _).mono ?_
  rintro e w18 ⟨rfl, hw18⟩
  subst hw18
  go_wp2_with fail
  refine (H31.out _).mono ?_
  rintro e w19 ⟨rfl, hw19⟩
  subst hw19
  go_wp2_with fail
  refine (H32.out _).mono ?_
  rintro e w20 ⟨rfl, hw20⟩
  subst hw20
  go_wp2_with fail
  go_ret
  exact ⟨rfl, B7.out⟩
end Go.Proofs.Ytefmhghdehokcaa
