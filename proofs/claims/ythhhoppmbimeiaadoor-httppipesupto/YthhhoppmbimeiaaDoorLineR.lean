/-
  The contract of the twin's line.
-/
import Derived.Test.YthhhoppmbimeiaaDoorCutR
namespace Go.Proofs.YthhhoppmbimeiaaDoor
open Go.RowKit
/-- A line's end stands here. -/
def endAt (s : ByteArray) (k : Nat) : Prop := k + 1 < s.size ∧ byteAt s k = 13 ∧ byteAt s (k + 1) = 10
instance (s : ByteArray) (k : Nat) : Decidable (endAt s k) := by unfold endAt; infer_instance
/-- Where the first line's end stands. -/
def ixL (s : ByteArray) : Option Nat := (List.range s.size).find? (fun j => decide (endAt s j))
theorem ixL_hit {s : ByteArray} {k : Nat} (h : endAt s k) (h0 : ∀ j, j < k → ¬ endAt s j) : ixL s = some k := by
  unfold ixL
  rw [List.find?_range_eq_some]
  exact ⟨decide_eq_true h, List.mem_range.2 (by have := h.1; omega), fun j hj => by simp [h0 j hj]⟩
theorem ixL_none {s : ByteArray} (h0 : ∀ j, ¬ endAt s j) : ixL s = none := by
  unfold ixL
  rw [List.find?_eq_none]
  intro j _
  simp [h0 j]
def lineR (s : ByteArray) : ByteArray × ByteArray × Bool := match ixL s with
  | some k => (s.extract 0 k, s.extract (k + 2) s.size, true)
  | none => (⟨#[]⟩, ⟨#[]⟩, false)
set_option maxRecDepth 20000 in
set_option maxHeartbeats 4000000 in
theorem qline_any (s : ByteArray) (hs : s.size ≤ 140737488355328) (w : World) :
    Calls Tryd.prog 45 #[.string s] w fun e w' => e = .returned (.tuple #[.string (lineR s).1, .string (lineR s).2.1, .bool (lineR s).2.2]) ∧ Below w.heap.size w w' := by
  obtain ⟨T, hT⟩ : ∃ T, lineR s = T := ⟨_, rfl⟩
  have HT : Hid _ := hT
  rw [hT]
  clear hT
  go_enter Tryd.func45, Tryd.ntmps45
  go_wp2_with fail
  go_loopw [5] (fun i wr => ∃ k : Nat, k ≤ s.size ∧ i = .int .i64 k ∧ Hid (∀ j, j < k → ¬ endAt s j) ∧ wr = w) (fun i _ => s.size - (intOf i).toNat)
  case atStart => exact ⟨0, by omega, rfl, fun j hj => by omega, rfl⟩
  case round =>
    obtain ⟨k, hk, rfl, HN, rfl⟩ := hrel
    have hw1 : IntKind.i64.wrap ((k : Int) + 1) = (k : Int) + 1 := by rw [IntKind.wrap_i64]; omega
    have hw2 : IntKind.i64.wrap ((k : Int) + 2) = (k : Int) + 2 := by rw [IntKind.wrap_i64]; omega
    by_cases hlt : k + 1 < s.size
    · have r0 := fun W => run_byte s (i := k) (z := (k : Int)) rfl (by omega) W
      have r1 := fun W => run_byte s (i := k + 1) (z := (k : Int) + 1) (by omega) hlt W
      have hz : (k : Int) + 1 < (s.size : Int) := by omega
      obtain ⟨x, hx⟩ : ∃ x, byteAt s k = x := ⟨_, rfl⟩
      obtain ⟨y, hy⟩ : ∃ y, byteAt s (k + 1) = y := ⟨_, rfl⟩
      rw [hx] at r0
      rw [hy] at r1
      by_cases hxc : x = 13
      · subst hxc
        by_cases hyc : y = 10
        · subst hyc
          have HR : Hid (T = (s.extract 0 k, s.extract (k + 2) s.size, true)) := by rw [Hid, ← HT.out, lineR, ixL_hit ⟨hlt, hx, hy⟩ HN.out]
          have q1 : (k : Int) ≤ (s.size : Int) := by omega
          have q2 : (k : Int) + 2 ≤ (s.size : Int) := by omega
          have q3 : (0 : Int) ≤ (k : Int) := by omega
          have q4 : (0 : Int) ≤ (k : Int) + 2 := by omega
          clear hx hy
          go_wp2_with fail
          go_quiet (fail)
          go_wp2_with fail
          go_ret3
          exact ⟨by rw [HR.out]; rfl, below_drewN (Below.refl _ _) _⟩
        · have HV : Hid (∀ j, j < k + 1 → ¬ endAt s j) := fun j hj => by
            rcases Nat.lt_succ_iff_lt_or_eq.1 hj with h | rfl
            · exact HN.out j h
            · exact fun e => hyc (hy.symm.trans e.2.2)
          have q0 : ((y : Int) == 10) = false := by simp; omega
          clear hx hy hyc
          go_wp2_with fail
          go_roundw
          case rel => exact ⟨k + 1, by omega, by go_num, HV.out, by first | rfl | trivial⟩
          case measure => simp [intOf]; omega
      · have HV : Hid (∀ j, j < k + 1 → ¬ endAt s j) := fun j hj => by
          rcases Nat.lt_succ_iff_lt_or_eq.1 hj with h | rfl
          · exact HN.out j h
          · exact fun e => hxc (hx.symm.trans e.2.1)
        have q0 : ((x : Int) == 13) = false := by simp; omega
        clear hx hy hxc
        go_wp2_with fail
        go_roundw
        case rel => exact ⟨k + 1, by omega, by go_num, HV.out, by first | rfl | trivial⟩
        case measure => simp [intOf]; omega
    · have HR : Hid (T = (⟨#[]⟩, ⟨#[]⟩, false)) := by
        rw [Hid, ← HT.out, lineR, ixL_none fun j e => ?_]
        by_cases hj : j < k
        · exact HN.out j hj e
        · have := e.1
          omega
      have hz : ¬ (k : Int) + 1 < (s.size : Int) := by omega
      go_wp2_with fail
      go_ret3
      exact ⟨by rw [HR.out]; rfl, Below.refl _ _⟩
end Go.Proofs.YthhhoppmbimeiaaDoor
