/-
  The contracts of New, Len, level, Scan's beginning, sameInts.
-/
import Derived.Test.YtdgmjmohfpjlnaaPut
namespace Go.Proofs.Ytdgmjmohfpjlnaa
open Go.RowKit
set_option maxRecDepth 20000 in
set_option maxHeartbeats 4000000 in
theorem len_any (B g b cap : Nat) (s : St) (w : World) (h : MA B w g b cap s) : Calls Try.prog 21 #[.pointer (some ⟨g, 0, none⟩)] w fun e w' => e = .returned (.int .i64 (s.E.length : Nat)) ∧ w' = w := by
  have hn : ((s.n : Int) - 1) = (s.E.length : Int) := by have := h.rep.size; omega
  have hsm := h.small
  have m1 := h.hd.2.1
  have HCL : Hid (∀ _ : Unit, _) := fun _ => closed_no g w h.hd.1
  have HN : Hid _ := hn
  clear h hn
  go_enter Try.func21, Try.ntmps21
  go_wp2_with fail
  refine (HCL.out ()).mono ?_
  rintro e w1 ⟨rfl, hw1⟩
  rw [hw1]
  clear hw1 w1
  go_wp2_with fail
  go_ret
  exact ⟨by rw [← HN.out]; rfl, rfl⟩
set_option maxRecDepth 20000 in
set_option maxHeartbeats 4000000 in
theorem scan_any (p : Option Addr) (from' to' : ByteArray) (w : World) : Calls Try.prog 23 #[.pointer p, .string from', .string to'] w fun e w' => e = .returned (.func (.func 40) #[] #[.pointer (some ⟨w.heap.size, 0, none⟩), .pointer (some ⟨w.heap.size + 1, 0, none⟩), .pointer (some ⟨w.heap.size + 1 + 1, 0, none⟩)]) ∧ w' = ((w.alloc (.cells #[.pointer p] 23)).alloc (.cells #[.string from'] 9)).alloc (.cells #[.string to'] 9) := by
  go_enter Try.func23, Try.ntmps23
  go_wp2_with fail
  go_ret
  exact ⟨rfl, rfl⟩
set_option maxRecDepth 20000 in
set_option maxHeartbeats 4000000 in
theorem level_any (p : Option Addr) (k a : Nat) (w : World) : Calls Try.prog 39 #[.pointer p, .int .i64 (k : Nat), .int .i64 (a : Nat)] w fun e w' => e = .returned (.func (.func 42) #[] #[.pointer (some ⟨w.heap.size + 1 + 1, 0, none⟩), .pointer (some ⟨w.heap.size, 0, none⟩), .pointer (some ⟨w.heap.size + 1, 0, none⟩)]) ∧ w' = ((w.alloc (.cells #[.pointer p] 23)).alloc (.cells #[.int .i64 (k : Nat)] 3)).alloc (.cells #[.int .i64 (a : Nat)] 3) := by
  go_enter Try.func39, Try.ntmps39
  go_wp2_with fail
  go_ret
  exact ⟨rfl, rfl⟩
set_option maxRecDepth 20000 in
set_option maxHeartbeats 4000000 in
theorem new_any (w : World) : Calls Try.prog 9 #[] w fun e w' => e = .returned (.pointer (some ⟨w.heap.size + 1, 0, none⟩)) ∧ MA w.heap.size w' (w.heap.size + 1) w.heap.size 1 st0 ∧ Below w.heap.size w w' := by
  obtain ⟨i0, hi, hz0, hz1, hz2⟩ := info_parts info68
  have hmk : ∀ W : World, (Instr.makeSlice 57 (.int .i64 1) (.int .i64 1)).run Try.prog W = .ok (.slice (some ⟨W.heap.size, 0, none⟩) 1 1) (W.alloc (.cells #[.string ⟨#[]⟩, .int .u64 0, .string ⟨#[]⟩, .bool false, .int .i64 0, .int .i64 0, .int .i64 0, .int .i64 0, .int .i64 0, .int .i64 0, .int .i64 0, .int .i64 0, .int .i64 0, .int .i64 0, .int .i64 0, .int .i64 0] 68)) := fun W => by
    have h := run_make (P := Try.prog) W 57 68 i0 _ Try.underlying57 hi hz0 .i64 .i64 1 1 (by decide) (by decide) (by rw [hz2]; decide) (by decide)
    have hmc : madeCells (Value.agg (ndL cl0 (fun _ => 0)).toArray).cells (Int.toNat 1 * 16) = #[.string ⟨#[]⟩, .int .u64 0, .string ⟨#[]⟩, .bool false, .int .i64 0, .int .i64 0, .int .i64 0, .int .i64 0, .int .i64 0, .int .i64 0, .int .i64 0, .int .i64 0, .int .i64 0, .int .i64 0, .int .i64 0, .int .i64 0] := by kernel_rfl
    rw [hz1, hmc] at h
    exact h
  obtain ⟨W0, hW0⟩ : ∃ W0, w.alloc (.cells #[.string ⟨#[]⟩, .int .u64 0, .string ⟨#[]⟩, .bool false, .int .i64 0, .int .i64 0, .int .i64 0, .int .i64 0, .int .i64 0, .int .i64 0, .int .i64 0, .int .i64 0, .int .i64 0, .int .i64 0, .int .i64 0, .int .i64 0] 68) = W0 := ⟨_, rfl⟩
  have HB0 : Hid (Below w.heap.size w W0) := by rw [Hid, ← hW0]; exact below_new _ _
  have hz : W0.heap.size = w.heap.size + 1 := by rw [← hW0]; simp
  have HR0 : Hid (W0.ownsRow w.heap.size 68 16 (.slice (some ⟨w.heap.size, 0, none⟩) 1 1) 1 (rowL 1 (fun _ => cl0) (fun _ _ => 0))) := by
    rw [Hid, ← hW0]
    exact World.ownsRow_lit w #[.string ⟨#[]⟩, .int .u64 0, .string ⟨#[]⟩, .bool false, .int .i64 0, .int .i64 0, .int .i64 0, .int .i64 0, .int .i64 0, .int .i64 0, .int .i64 0, .int .i64 0, .int .i64 0, .int .i64 0, .int .i64 0, .int .i64 0] 1 (Nat.le_refl _) (by decide) rfl
  obtain ⟨W1, hW1⟩ : ∃ W1, W0.alloc (.cells #[.pointer (some ⟨w.heap.size + 1, 0, none⟩), .slice (some ⟨w.heap.size, 0, none⟩) 1 1, .int .i64 0] 59) = W1 := ⟨_, rfl⟩
  have HFI : Hid (MA w.heap.size W1 (w.heap.size + 1) w.heap.size 1 st0 ∧ Below w.heap.size w W1) := by
    rw [Hid, ← hW1]
    refine ⟨⟨?_, World.ownsRow.alloc HR0.out _, rep_new, by omega, by omega, by decide⟩, below_on HB0.out (below_new _ _)⟩
    rw [← hz]
    exact block_alloc_at _ _
  have HZ : Hid _ := hz
  have HW0 : Hid _ := hW0
  have HW1 : Hid _ := hW1
  clear hi hz0 hz1 hz2 hz hW0 hW1
  go_enter Try.func9, Try.ntmps9
  go_wp2_with fail
  rw [HW0.out, HW1.out]
  go_ret
  exact ⟨rfl, HFI.out⟩
end Go.Proofs.Ytdgmjmohfpjlnaa
