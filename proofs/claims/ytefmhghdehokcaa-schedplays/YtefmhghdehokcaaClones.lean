/-
  Clones of rows of numbers and of acts.
-/
import Derived.Test.YtefmhghdehokcaaNils
import Derived.Lib.SliceRun
namespace Go.Proofs.Ytefmhghdehokcaa
open Go.RowKit
theorem lazyNil22 (W : World) (ad : Addr) (l c : Nat) : (binOp .eql 22 (.slice (some ad) l c) (.slice none 0 0)).run Try.prog W = .ok (.bool false) W := Lib.run_eql_slice_nil W 22 3 (some ad) l c 0 0 Try.underlying22
theorem lazyNilN22 (W : World) : (binOp .eql 22 (.slice none 0 0) (.slice none 0 0)).run Try.prog W = .ok (.bool true) W := Lib.run_eql_slice_nil W 22 3 none 0 0 0 0 Try.underlying22
theorem empty_row3 (w : World) : (w.alloc (.cells #[] 3)).ownsRow w.heap.size 3 1 (.slice (some ⟨w.heap.size, 0, none⟩) 0 0) 0 [] := by
  refine ⟨rfl, Or.inr ⟨w.heap.size, 0, #[], rfl, Nat.le_refl _, World.alloc_heap_new w _, Nat.le_refl _, by unfold maxLen; omega, rfl, ?_⟩⟩
  simp
theorem clone22_nil (w : World) : Calls Try.prog 42 #[.slice none 0 0] w fun r w' => r = .returned (.slice none 0 0) ∧ w' = w := by
  have h := lazyNilN22
  go_enter Try.func42, Try.ntmps42
  go_wp2
  go_ret
  exact ⟨rfl, rfl⟩
set_option maxRecDepth 100000 in
set_option maxHeartbeats 2000000 in
theorem clone22_some (ad : Addr) (n ca : Nat) (vs : List Value) (w : World) (h : ∀ j u, vs[j]? = some u → w.cell? (ad.add j) = some u) (hb : ad.block < w.heap.size) (hl : vs.length = n * 1) (h1 : ∀ u ∈ vs, u.oneCell' = true) (hn : n * 8 ≤ 140737488355328) :
    Calls Try.prog 42 #[.slice (some ad) n ca] w fun r w' => ∃ g cap, r = .returned (.slice (some ⟨g, 0, none⟩) n cap) ∧ n ≤ cap ∧ w'.ownsRow w.heap.size 3 1 (.slice (some ⟨g, 0, none⟩) n cap) n vs ∧ Below w.heap.size w w' := by
  obtain ⟨i0, hi, hz0, hz1, hz2⟩ := info_parts info3
  have hnl := fun W => lazyNil22 W ad n ca
  have er := empty_row3 w
  have hcs : ∀ o j u, vs[j]? = some u → (w.alloc o).cell? (ad.add j) = some u := fun o j u hu => (((Below.refl _ w).alloc (Nat.le_refl _) o).cell (p := ad.add j) (by unfold Addr.add; split <;> exact hb)).trans (h j u hu)
  have HL : Hid (vs.length = n * 1) := hl
  have H1 : Hid _ := h1
  clear hl h h1
  go_enter Try.func42, Try.ntmps42
  go_wp2_with (at_builtin; refine wpList_append_own _ rfl (.tmp 5) (.tmp 6) 22 rfl w.heap.size 3 i0 (.int .i64 0) 1 8 Try.underlying22 hi hz0 hz1 hz2 rfl (by decide) _ _ _ rfl er ad n ca vs rfl HL.out (hcs _) H1.out (by unfold maxLen; omega) (by omega) (by simp) ?_)
  intro v2 w2 hown2 hg2 hnn
  try simp only [List.nil_append, Nat.zero_add] at hown2
  have hB : Below w.heap.size w w2 := ((Below.refl _ w).alloc (Nat.le_refl _) _).grown hg2 (by simp) (fun i hi => (er.lt i hi).1)
  rcases hown2.2 with ⟨rfl, _⟩ | ⟨g, cap, cur, rfl, _, _, hc1, _⟩
  · exfalso
    revert hnn
    simp
  · have HO : Hid _ := hown2
    clear hown2 hg2 hcs er hnn
    go_wp2_with fail
    go_ret
    exact ⟨g, cap, rfl, hc1, HO.out, hB⟩
theorem lazyNil23 (W : World) (ad : Addr) (l c : Nat) : (binOp .eql 23 (.slice (some ad) l c) (.slice none 0 0)).run Try.prog W = .ok (.bool false) W := Lib.run_eql_slice_nil W 23 45 (some ad) l c 0 0 Try.underlying23
theorem lazyNilN23 (W : World) : (binOp .eql 23 (.slice none 0 0) (.slice none 0 0)).run Try.prog W = .ok (.bool true) W := Lib.run_eql_slice_nil W 23 45 none 0 0 0 0 Try.underlying23
theorem empty_row45 (w : World) : (w.alloc (.cells #[] 45)).ownsRow w.heap.size 45 1 (.slice (some ⟨w.heap.size, 0, none⟩) 0 0) 0 [] := by
  refine ⟨rfl, Or.inr ⟨w.heap.size, 0, #[], rfl, Nat.le_refl _, World.alloc_heap_new w _, Nat.le_refl _, by unfold maxLen; omega, rfl, ?_⟩⟩
  simp
theorem clone23_nil (w : World) : Calls Try.prog 47 #[.slice none 0 0] w fun r w' => r = .returned (.slice none 0 0) ∧ w' = w := by
  have h := lazyNilN23
  go_enter Try.func47, Try.ntmps47
  go_wp2
  go_ret
  exact ⟨rfl, rfl⟩
set_option maxRecDepth 100000 in
set_option maxHeartbeats 2000000 in
theorem clone23_some (ad : Addr) (n ca : Nat) (vs : List Value) (w : World) (h : ∀ j u, vs[j]? = some u → w.cell? (ad.add j) = some u) (hb : ad.block < w.heap.size) (hl : vs.length = n * 1) (h1 : ∀ u ∈ vs, u.oneCell' = true) (hn : n * 8 ≤ 140737488355328) :
    Calls Try.prog 47 #[.slice (some ad) n ca] w fun r w' => ∃ g cap, r = .returned (.slice (some ⟨g, 0, none⟩) n cap) ∧ n ≤ cap ∧ w'.ownsRow w.heap.size 45 1 (.slice (some ⟨g, 0, none⟩) n cap) n vs ∧ Below w.heap.size w w' := by
  obtain ⟨i0, hi, hz0, hz1, hz2⟩ := info_parts info45
  have hnl := fun W => lazyNil23 W ad n ca
  have er := empty_row45 w
  have hcs : ∀ o j u, vs[j]? = some u → (w.alloc o).cell? (ad.add j) = some u := fun o j u hu => (((Below.refl _ w).alloc (Nat.le_refl _) o).cell (p := ad.add j) (by unfold Addr.add; split <;> exact hb)).trans (h j u hu)
  have HL : Hid (vs.length = n * 1) := hl
  have H1 : Hid _ := h1
  clear hl h h1
  go_enter Try.func47, Try.ntmps47
  go_wp2_with (at_builtin; refine wpList_append_own _ rfl (.tmp 5) (.tmp 6) 23 rfl w.heap.size 45 i0 (.int .u64 0) 1 8 Try.underlying23 hi hz0 hz1 hz2 rfl (by decide) _ _ _ rfl er ad n ca vs rfl HL.out (hcs _) H1.out (by unfold maxLen; omega) (by omega) (by simp) ?_)
  intro v2 w2 hown2 hg2 hnn
  try simp only [List.nil_append, Nat.zero_add] at hown2
  have hB : Below w.heap.size w w2 := ((Below.refl _ w).alloc (Nat.le_refl _) _).grown hg2 (by simp) (fun i hi => (er.lt i hi).1)
  rcases hown2.2 with ⟨rfl, _⟩ | ⟨g, cap, cur, rfl, _, _, hc1, _⟩
  · exfalso
    revert hnn
    simp
  · have HO : Hid _ := hown2
    clear hown2 hg2 hcs er hnn
    go_wp2_with fail
    go_ret
    exact ⟨g, cap, rfl, hc1, HO.out, hB⟩
theorem lazyNil32 (W : World) (ad : Addr) (l c : Nat) : (binOp .eql 32 (.slice (some ad) l c) (.slice none 0 0)).run Try.prog W = .ok (.bool false) W := Lib.run_eql_slice_nil W 32 54 (some ad) l c 0 0 Try.underlying32
theorem lazyNilN32 (W : World) : (binOp .eql 32 (.slice none 0 0) (.slice none 0 0)).run Try.prog W = .ok (.bool true) W := Lib.run_eql_slice_nil W 32 54 none 0 0 0 0 Try.underlying32
theorem empty_row54 (w : World) : (w.alloc (.cells #[] 54)).ownsRow w.heap.size 54 2 (.slice (some ⟨w.heap.size, 0, none⟩) 0 0) 0 [] := by
  refine ⟨rfl, Or.inr ⟨w.heap.size, 0, #[], rfl, Nat.le_refl _, World.alloc_heap_new w _, Nat.le_refl _, by unfold maxLen; omega, rfl, ?_⟩⟩
  simp
theorem clone32_nil (w : World) : Calls Try.prog 45 #[.slice none 0 0] w fun r w' => r = .returned (.slice none 0 0) ∧ w' = w := by
  have h := lazyNilN32
  go_enter Try.func45, Try.ntmps45
  go_wp2
  go_ret
  exact ⟨rfl, rfl⟩
set_option maxRecDepth 100000 in
set_option maxHeartbeats 2000000 in
theorem clone32_some (ad : Addr) (n ca : Nat) (vs : List Value) (w : World) (h : ∀ j u, vs[j]? = some u → w.cell? (ad.add j) = some u) (hb : ad.block < w.heap.size) (hl : vs.length = n * 2) (h1 : ∀ u ∈ vs, u.oneCell' = true) (hn : n * 16 ≤ 140737488355328) :
    Calls Try.prog 45 #[.slice (some ad) n ca] w fun r w' => ∃ g cap, r = .returned (.slice (some ⟨g, 0, none⟩) n cap) ∧ n ≤ cap ∧ w'.ownsRow w.heap.size 54 2 (.slice (some ⟨g, 0, none⟩) n cap) n vs ∧ Below w.heap.size w w' := by
  obtain ⟨i0, hi, hz0, hz1, hz2⟩ := info_parts info54
  have hnl := fun W => lazyNil32 W ad n ca
  have er := empty_row54 w
  have hcs : ∀ o j u, vs[j]? = some u → (w.alloc o).cell? (ad.add j) = some u := fun o j u hu => (((Below.refl _ w).alloc (Nat.le_refl _) o).cell (p := ad.add j) (by unfold Addr.add; split <;> exact hb)).trans (h j u hu)
  have HL : Hid (vs.length = n * 2) := hl
  have H1 : Hid _ := h1
  clear hl h h1
  go_enter Try.func45, Try.ntmps45
  go_wp2_with (at_builtin; refine wpList_append_own _ rfl (.tmp 5) (.tmp 6) 32 rfl w.heap.size 54 i0 (.agg #[.int .i64 0, .int .i64 0]) 2 16 Try.underlying32 hi hz0 hz1 hz2 rfl (by decide) _ _ _ rfl er ad n ca vs rfl HL.out (hcs _) H1.out (by unfold maxLen; omega) (by omega) (by simp) ?_)
  intro v2 w2 hown2 hg2 hnn
  try simp only [List.nil_append, Nat.zero_add] at hown2
  have hB : Below w.heap.size w w2 := ((Below.refl _ w).alloc (Nat.le_refl _) _).grown hg2 (by simp) (fun i hi => (er.lt i hi).1)
  rcases hown2.2 with ⟨rfl, _⟩ | ⟨g, cap, cur, rfl, _, _, hc1, _⟩
  · exfalso
    revert hnn
    simp
  · have HO : Hid _ := hown2
    clear hown2 hg2 hcs er hnn
    go_wp2_with fail
    go_ret
    exact ⟨g, cap, rfl, hc1, HO.out, hB⟩
end Go.Proofs.Ytefmhghdehokcaa
