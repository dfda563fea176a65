/-
  A table that nobody made: nil, and the zero one.
-/
import Derived.Test.YtdgmjmohfpjlnaaAwk
namespace Go.Proofs.Ytdgmjmohfpjlnaa
open Go.RowKit
/-- Nobody's table: no pointer, or a block whose own pointer is nil. -/
def Nby (w : World) (p : Option Addr) : Prop := p = none ∨ ∃ b, p = some ⟨b, 0, none⟩ ∧ w.cell? ⟨b, 0, none⟩ = some (.pointer none)
theorem pne (b : Nat) (W : World) : (binOp BinOp.neq 23 (.pointer none) (.pointer (some ⟨b, 0, none⟩))).run Try.prog W = .ok (.bool true) W := by
  have h : ∀ d : Nat, (Op.equalIn (d + 1) 23 (.pointer none) (.pointer (some ⟨b, 0, none⟩))).run Try.prog W = .ok false W := fun d => by
    simp [Op.equalIn, run_underlying Try.underlying23]
  simp only [binOp]
  simp [Op.equal, Op.maxDepth, h 9999]
set_option maxRecDepth 20000 in
set_option maxHeartbeats 2000000 in
theorem closed_yes (p : Option Addr) (w : World) (h : Nby w p) : Calls Try.prog 26 #[.pointer p] w fun e w' => e = .returned (.bool true) ∧ w' = w := by
  rcases h with rfl | ⟨b, rfl, h0⟩
  · go_enter Try.func26, Try.ntmps26
    go_wp2_with fail
    go_ret
    exact ⟨rfl, rfl⟩
  · have hp := pne b
    go_enter Try.func26, Try.ntmps26
    go_wp2_with fail
    go_ret
    exact ⟨rfl, rfl⟩
theorem Nby.below {w W : World} {p : Option Addr} (h : Nby w p) (k : Below w.heap.size w W) : Nby W p := by
  rcases h with rfl | ⟨b, rfl, h0⟩
  · exact Or.inl rfl
  · exact Or.inr ⟨b, rfl, (k.cell (p := ⟨b, 0, none⟩) (World.block_lt_of_cell? w _ h0)).trans h0⟩
set_option maxRecDepth 20000 in
set_option maxHeartbeats 4000000 in
theorem nob_get (p : Option Addr) (key : ByteArray) (seq : Nat) (w : World) (h : Nby w p) : Calls Try.prog 16 #[.pointer p, .string key, .int .u64 (seq : Nat)] w fun e w' => e = .returned (getV none) ∧ Below w.heap.size w w' := by
  have HC : Hid (∀ W, Below w.heap.size w W → _) := fun W k => closed_yes p W (h.below k)
  have HB0 : Hid (Below w.heap.size w w) := Below.refl _ _
  go_enter Try.func16, Try.ntmps16
  go_wp2_with fail
  refine (HC.out _ (by first | exact HB0.out | exact below_new _ _)).mono ?_
  rintro e w1 ⟨rfl, hw1⟩
  rw [hw1]
  clear hw1 w1
  go_wp2_with fail

  refine bodyPost_ret (v := getV none) ?_ rfl ⟨rfl, ?_⟩
  · rw [results_cell_tmp rfl]
    unfold getV clV cl0
    go_simp
  · exact below_new _ _
set_option maxRecDepth 20000 in
set_option maxHeartbeats 4000000 in
theorem nob_put (p : Option Addr) (c : Cl) (hgt : Int) (w : World) (h : Nby w p) : Calls Try.prog 12 #[.pointer p, clV c, .int .i64 hgt] w fun e w' => e = .returned (.int .i64 6) ∧ Below w.heap.size w w' := by
  have HC : Hid (∀ W, Below w.heap.size w W → _) := fun W k => closed_yes p W (h.below k)
  have HB0 : Hid (Below w.heap.size w w) := Below.refl _ _
  go_enter Try.func12, Try.ntmps12
  go_wp2_with fail
  refine (HC.out _ (by first | exact HB0.out | exact below_new _ _)).mono ?_
  rintro e w1 ⟨rfl, hw1⟩
  rw [hw1]
  clear hw1 w1
  go_wp2_with fail
  go_ret
  exact ⟨rfl, by first | exact HB0.out | exact below_new _ _⟩
set_option maxRecDepth 20000 in
set_option maxHeartbeats 4000000 in
theorem nob_len (p : Option Addr)  (w : World) (h : Nby w p) : Calls Try.prog 21 #[.pointer p] w fun e w' => e = .returned (.int .i64 0) ∧ Below w.heap.size w w' := by
  have HC : Hid (∀ W, Below w.heap.size w W → _) := fun W k => closed_yes p W (h.below k)
  have HB0 : Hid (Below w.heap.size w w) := Below.refl _ _
  go_enter Try.func21, Try.ntmps21
  go_wp2_with fail
  refine (HC.out _ (by first | exact HB0.out | exact below_new _ _)).mono ?_
  rintro e w1 ⟨rfl, hw1⟩
  rw [hw1]
  clear hw1 w1
  go_wp2_with fail
  go_ret
  exact ⟨rfl, by first | exact HB0.out | exact below_new _ _⟩
set_option maxRecDepth 20000 in
set_option maxHeartbeats 4000000 in
theorem nob_size (p : Option Addr)  (w : World) (h : Nby w p) : Calls Try.prog 20 #[.pointer p] w fun e w' => e = .returned (.int .i64 0) ∧ Below w.heap.size w w' := by
  have HC : Hid (∀ W, Below w.heap.size w W → _) := fun W k => closed_yes p W (h.below k)
  have HB0 : Hid (Below w.heap.size w w) := Below.refl _ _
  go_enter Try.func20, Try.ntmps20
  go_wp2_with fail
  refine (HC.out _ (by first | exact HB0.out | exact below_new _ _)).mono ?_
  rintro e w1 ⟨rfl, hw1⟩
  rw [hw1]
  clear hw1 w1
  go_wp2_with fail
  go_ret
  exact ⟨rfl, by first | exact HB0.out | exact below_new _ _⟩
set_option maxRecDepth 20000 in
set_option maxHeartbeats 4000000 in
theorem nob_levels (p : Option Addr)  (w : World) (h : Nby w p) : Calls Try.prog 17 #[.pointer p] w fun e w' => e = .returned (.slice none 0 0) ∧ Below w.heap.size w w' := by
  have HC : Hid (∀ W, Below w.heap.size w W → _) := fun W k => closed_yes p W (h.below k)
  have HB0 : Hid (Below w.heap.size w w) := Below.refl _ _
  go_enter Try.func17, Try.ntmps17
  go_wp2_with fail
  refine (HC.out _ (by first | exact HB0.out | exact below_new _ _)).mono ?_
  rintro e w1 ⟨rfl, hw1⟩
  rw [hw1]
  clear hw1 w1
  go_wp2_with fail
  go_ret
  exact ⟨rfl, by first | exact HB0.out | exact below_new _ _⟩
set_option maxRecDepth 20000 in
set_option maxHeartbeats 4000000 in
theorem nob_fork (p : Option Addr)  (w : World) (h : Nby w p) : Calls Try.prog 11 #[.pointer p] w fun e w' => e = .returned (.pointer none) ∧ Below w.heap.size w w' := by
  have HC : Hid (∀ W, Below w.heap.size w W → _) := fun W k => closed_yes p W (h.below k)
  have HB0 : Hid (Below w.heap.size w w) := Below.refl _ _
  go_enter Try.func11, Try.ntmps11
  go_wp2_with fail
  refine (HC.out _ (by first | exact HB0.out | exact below_new _ _)).mono ?_
  rintro e w1 ⟨rfl, hw1⟩
  rw [hw1]
  clear hw1 w1
  go_wp2_with fail
  go_ret
  exact ⟨rfl, by first | exact HB0.out | exact below_new _ _⟩
end Go.Proofs.Ytdgmjmohfpjlnaa
