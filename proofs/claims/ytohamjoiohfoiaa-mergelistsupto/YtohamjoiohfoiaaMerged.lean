/-
  What merged hands back: an iterator.
-/
import Derived.Test.YtohamjoiohfoiaaLists
namespace Go.Proofs.Ytohamjoiohfoiaa
open Go.RowKit
set_option maxRecDepth 100000 in
set_option maxHeartbeats 2000000 in
theorem merged_any (B n c : Nat) (a : Option Addr) (ls : List Sl) (w : World) (h : LA B w a ls) (hl : ls.length = n) (hB : B ≤ w.heap.size) (hn : n < 1000000000000000) :
    Calls Try.prog 26 #[.slice a n c] w fun r w' => r = .returned (if allS ls then .func (.func 34) #[] #[.pointer (some ⟨w.heap.size, 0, none⟩)] else .func (.func 33) #[] #[]) ∧ w'.heap[w.heap.size]? = some (.cells #[.slice a n c] 32 (0, 0)) ∧ Below w.heap.size w w' := by
  have HS : Hid (∀ W, Below w.heap.size w W → Calls Try.prog 32 #[.slice a n c] W fun r w' => r = .returned (.bool (allS ls)) ∧ Below W.heap.size W w') := fun W hW => allSorted_any B _ _ _ ls W (h.below (fun b hb => hW.block b (by omega))) hl (by have := hW.size; omega) hn
  have HA : Hid (Below w.heap.size w (w.alloc (.cells #[.slice a n c] 32))) := (Below.refl _ _).alloc (Nat.le_refl _) _
  have HN : Hid ((w.alloc (.cells #[.slice a n c] 32)).heap[w.heap.size]? = some (.cells #[.slice a n c] 32 (0, 0))) := World.alloc_heap_new _ _
  clear h hl
  cases hls : allS ls with
  | true =>
    rw [hls] at HS
    clear hls
    go_enter Try.func26, Try.ntmps26
    go_wp2_with (go_at_call 32; refine Calls.mono (HS.out _ HA.out) ?_; rintro e w3 ⟨rfl, b3⟩; have HB3 : Hid _ := b3; clear b3)
    go_ret
    exact ⟨rfl, (HB3.out.block _ (by simp)).trans HN.out, HA.out.trans (HB3.out.mono HA.out.size)⟩
  | false =>
    rw [hls] at HS
    clear hls
    go_enter Try.func26, Try.ntmps26
    go_wp2_with (go_at_call 32; refine Calls.mono (HS.out _ HA.out) ?_; rintro e w3 ⟨rfl, b3⟩; have HB3 : Hid _ := b3; clear b3)
    go_ret
    exact ⟨rfl, (HB3.out.block _ (by simp)).trans HN.out, HA.out.trans (HB3.out.mono HA.out.size)⟩
end Go.Proofs.Ytohamjoiohfoiaa
