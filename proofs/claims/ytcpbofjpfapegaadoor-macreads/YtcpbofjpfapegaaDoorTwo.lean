/-
  Base64 of the two bytes of the chapter's example.
-/
import Derived.Test.YtcpbofjpfapegaaDoorHex
namespace Go.Proofs.YtcpbofjpfapegaaDoor
open Go.RowKit
set_option maxRecDepth 20000 in
set_option maxHeartbeats 4000000 in
theorem two_any (w : World) : Calls Tryd.prog 25 #[.string ⟨#[251, 255]⟩] w fun e w' => e = .returned (.string ⟨#[45, 95, 56]⟩) ∧ Below w.heap.size w w' := by
  obtain ⟨i0, hi, hz0, hz1, hz2⟩ := info_parts info5
  go_enter Tryd.func25, Tryd.ntmps25
  go_wp2_with (refine wpList_make_own _ rfl _ _ 28 rfl w.heap.size 5 i0 (.int .u8 0) 1 Tryd.underlying28 hi hz0 hz1 .i64 .i64 _ 3 rfl rfl (by first | rfl | decide) (by rw [hz2]; decide) (by decide) (Nat.le_refl _) ?_; intro w1 hown1 hg1)
  have hb1 : Below w.heap.size w w1 := (Below.refl _ w).grown hg1 (Nat.le_refl _) (fun i hi => by cases hi)
  have hsz := hb1.size
  refine wp_loop_rounds 3 ?_
  rw [rounds_succ]
  go_wp2_with fail
  refine wp_loop_rounds 2 ?_
  rw [rounds_succ]
  go_wp2_with (at_builtin; refine wpList_append_own _ rfl (.tmp 31) (.tmp 37) 28 rfl w.heap.size 5 i0 (.int .u8 0) 1 1 Tryd.underlying28 hi hz0 hz1 hz2 rfl (by decide) _ _ _ rfl (hown1.alloc _) ⟨w1.heap.size, 0, none⟩ 1 1 (cellsOf [45]) rfl rfl (new_cells _ (cellsOf [45]) _) (cellsOf_one _) (by decide) (by decide) (by simp; omega) ?_)
  intro v2 w2 hown2 hgrow2 _
  obtain ⟨a2, cap2, rfl⟩ := form_of_row hown2
  have hb2 : Below w.heap.size w w2 := (hb1.alloc hsz _).grown hgrow2 (by simp; omega) (fun i hi => (hown1.lt i hi).1)
  have hsz2 := hb2.size
  clear hown1 hgrow2
  go_wp2_with fail
  rw [rounds_succ]
  go_wp2_with fail
  rw [rounds_succ]
  go_wp2_with fail
  refine wp_loop_rounds 2 ?_
  rw [rounds_succ]
  go_wp2_with (at_builtin; refine wpList_append_own _ rfl (.tmp 31) (.tmp 37) 28 rfl w.heap.size 5 i0 (.int .u8 0) 1 1 Tryd.underlying28 hi hz0 hz1 hz2 rfl (by decide) _ _ _ rfl (hown2.alloc _) ⟨w2.heap.size, 0, none⟩ 1 1 (cellsOf [95]) rfl rfl (new_cells _ (cellsOf [95]) _) (cellsOf_one _) (by decide) (by decide) (by simp; omega) ?_)
  intro v3 w3 hown3 hgrow3 _
  obtain ⟨a3, cap3, rfl⟩ := form_of_row hown3
  have hb3 : Below w.heap.size w w3 := (hb2.alloc hsz2 _).grown hgrow3 (by simp; omega) (fun i hi => (hown2.lt i hi).1)
  have hsz3 := hb3.size
  clear hown2 hgrow3
  go_wp2_with fail
  rw [rounds_succ]
  go_wp2_with fail
  rw [rounds_succ]
  go_wp2_with (at_builtin; refine wpList_append_own _ rfl (.tmp 42) (.tmp 49) 28 rfl w.heap.size 5 i0 (.int .u8 0) 1 1 Tryd.underlying28 hi hz0 hz1 hz2 rfl (by decide) _ _ _ rfl (hown3.alloc _) ⟨w3.heap.size, 0, none⟩ 1 1 (cellsOf [56]) rfl rfl (new_cells _ (cellsOf [56]) _) (cellsOf_one _) (by decide) (by decide) (by simp; omega) ?_)
  intro v4 w4 hown4 hgrow4 _
  obtain ⟨a4, cap4, rfl⟩ := form_of_row hown4
  have hb4 : Below w.heap.size w w4 := (hb3.alloc hsz3 _).grown hgrow4 (by simp; omega) (fun i hi => (hown3.lt i hi).1)
  have hcv : (convert 28 9 (.slice a4 3 cap4)).run Tryd.prog w4 = .ok (.string ⟨#[45, 95, 56]⟩) w4 := conv_row (bs := [45, 95, 56]) hown4
  clear hown3 hgrow4 hown4
  go_wp2_with fail
  go_ret
  exact ⟨rfl, hb4⟩
end Go.Proofs.YtcpbofjpfapegaaDoor
