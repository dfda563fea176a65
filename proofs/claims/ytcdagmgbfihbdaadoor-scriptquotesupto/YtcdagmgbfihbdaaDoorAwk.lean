/-
  The chapter's example.
-/
import Derived.Test.YtcdagmgbfihbdaaDoorPrt
namespace Go.Proofs.YtcdagmgbfihbdaaDoor
open Go.RowKit
def exT : Ten := ⟨[97, 99, 109, 101], [107], 2⟩
def exO : Opt := ⟨0, 0, 0, 0, 0, 0, 0⟩
def exR : Trm := ⟨none, 0, [], none, 0, [], none, 0, [], none, 0, [], none, 0, [], 9, -1, 0, none, 0, []⟩
def exL : List UInt8 := [116, 101, 110, 97, 110, 116, 32, 34, 97, 99, 109, 101, 34, 32, 34, 107, 34, 32, 50, 10, 101, 110, 103, 105, 110, 101, 32, 48, 32, 48, 32, 48, 32, 48, 32, 48, 32, 48, 32, 48, 10, 100, 105, 115, 107, 32, 48, 10, 116, 101, 114, 109, 32, 57, 32, 45, 49, 10]
theorem ex_print : printR [exT] exO 0 [exR] = (exL, 0) := by decide +kernel
theorem bOf_lit : bOf exL = ⟨#[116, 101, 110, 97, 110, 116, 32, 34, 97, 99, 109, 101, 34, 32, 34, 107, 34, 32, 50, 10, 101, 110, 103, 105, 110, 101, 32, 48, 32, 48, 32, 48, 32, 48, 32, 48, 32, 48, 32, 48, 10, 100, 105, 115, 107, 32, 48, 10, 116, 101, 114, 109, 32, 57, 32, 45, 49, 10]⟩ := rfl
theorem ex_quote : bOf (quoteL [0]) = ⟨#[34, 92, 120, 48, 48, 34]⟩ := by
  have : quoteL [0] = [34, 92, 120, 48, 48, 34] := by decide +kernel
  rw [this]
  rfl
theorem z_ok : i64ok 0 := by unfold i64ok; omega
theorem ex_in (w : World) (b g : Nat) (hb : w.heap[b]? = some (.cells #[.string ⟨#[97, 99, 109, 101]⟩, .string ⟨#[107]⟩, .int .i64 2] 58 (0, 0))) (hg : w.heap[g]? = some (.cells #[.slice none 0 0, .slice none 0 0, .slice none 0 0, .slice none 0 0, .slice none 0 0, .int .i64 9, .int .i64 (-1), .int .i64 0, .slice none 0 0] 68 (0, 0))) :
    In w (some ⟨b, 0, none⟩) 1 [exT] exO 0 (some ⟨g, 0, none⟩) 1 [exR] := by
  have nov : ∀ a, IV w a [] := fun a j v h => by simp at h
  have nou : ∀ a, UV w a [] := fun a j v h => by simp at h
  refine ⟨fun j t hj => ?_, rfl, ⟨z_ok, z_ok, z_ok, z_ok, z_ok, z_ok, z_ok⟩, z_ok, fun j t hj => ?_, rfl, fun t ht => ?_⟩
  · match j, hj with
    | 0, hj =>
      simp at hj
      subst hj
      exact ⟨by unfold i64ok exT; simp, b, 0, rfl, (Array.getElem?_eq_some_iff.1 hb).1, cell_of_block hb rfl, cell_of_block hb rfl, cell_of_block hb rfl⟩
  · match j, hj with
    | 0, hj =>
      simp at hj
      subst hj
      exact ⟨g, 0, rfl, (Array.getElem?_eq_some_iff.1 hg).1, cell_of_block hg rfl, cell_of_block hg rfl, cell_of_block hg rfl, cell_of_block hg rfl, cell_of_block hg rfl, cell_of_block hg rfl, cell_of_block hg rfl, cell_of_block hg rfl, cell_of_block hg rfl⟩
  · simp at ht
    subst ht
    have nk : ∀ a c, prOk w (.is a c []) := fun a c => ⟨nov a, fun n h => by simp at h, by simp⟩
    exact ⟨fun j v h => by simp [exR] at h, nk _ _, nk _ _, ⟨nou _, fun n h => (by simp [exR] at h), by simp [exR]⟩, fun j v h => by simp [exR] at h, nk _ _, ⟨by unfold i64ok exR; simp, by unfold i64ok exR; simp, by unfold i64ok exR; simp⟩, by simp [exR]⟩
set_option maxRecDepth 100000 in
set_option maxHeartbeats 8000000 in
theorem awake_any (w : World) (hT : TabP w) (hFU : Hid FUint) :
    Calls Tryd.prog 11 #[] w fun e w' => e = .returned (.bool true) ∧ Below w.heap.size w w' := by
  obtain ⟨T, hTT⟩ : ∃ q, w.heap.size = q := ⟨_, rfl⟩
  obtain ⟨W3, hW3⟩ : ∃ V, ((w.alloc (.cells #[.string ⟨#[97, 99, 109, 101]⟩, .string ⟨#[107]⟩, .int .i64 2] 58)).alloc (.cells #[.slice (some ⟨T, 0, none⟩) 1 1, .int .i64 0, .int .i64 0, .int .i64 0, .int .i64 0, .int .i64 0, .int .i64 0, .int .i64 0, .int .i64 0] 33)).alloc (.cells #[.slice none 0 0, .slice none 0 0, .slice none 0 0, .slice none 0 0, .slice none 0 0, .int .i64 9, .int .i64 (-1), .int .i64 0, .slice none 0 0] 68) = V := ⟨_, rfl⟩
  have HB3 : Hid (Below w.heap.size w W3) := by rw [Hid, ← hW3]; exact (((Below.refl _ w).alloc (Nat.le_refl _) _).alloc (by simp) _).alloc (by simp; omega) _
  have hb : W3.heap[T]? = some (.cells #[.string ⟨#[97, 99, 109, 101]⟩, .string ⟨#[107]⟩, .int .i64 2] 58 (0, 0)) := by
    rw [← hW3, Below.heap_alloc _ _ _ (by simp; omega), Below.heap_alloc _ _ _ (by simp; omega), ← hTT]
    exact block_alloc_at _ _
  have hg : W3.heap[T + 1 + 1]? = some (.cells #[.slice none 0 0, .slice none 0 0, .slice none 0 0, .slice none 0 0, .slice none 0 0, .int .i64 9, .int .i64 (-1), .int .i64 0, .slice none 0 0] 68 (0, 0)) := by
    have := block_alloc_at ((w.alloc (.cells #[.string ⟨#[97, 99, 109, 101]⟩, .string ⟨#[107]⟩, .int .i64 2] 58)).alloc (.cells #[.slice (some ⟨T, 0, none⟩) 1 1, .int .i64 0, .int .i64 0, .int .i64 0, .int .i64 0, .int .i64 0, .int .i64 0, .int .i64 0, .int .i64 0] 33)) (.cells #[.slice none 0 0, .slice none 0 0, .slice none 0 0, .slice none 0 0, .slice none 0 0, .int .i64 9, .int .i64 (-1), .int .i64 0, .slice none 0 0] 68)
    rw [hW3] at this
    rw [World.size_alloc, World.size_alloc, hTT] at this
    exact this
  have HTB : Hid (TabP W3) := tab_on hT HB3.out
  have HPR : Hid (Calls Tryd.prog 13 #[.agg #[.slice (some ⟨T, 0, none⟩) 1 1, .int .i64 0, .int .i64 0, .int .i64 0, .int .i64 0, .int .i64 0, .int .i64 0, .int .i64 0, .int .i64 0], .slice (some ⟨T + 1 + 1, 0, none⟩) 1 1] W3 fun e w' => e = .returned (.tuple #[.string ⟨#[116, 101, 110, 97, 110, 116, 32, 34, 97, 99, 109, 101, 34, 32, 34, 107, 34, 32, 50, 10, 101, 110, 103, 105, 110, 101, 32, 48, 32, 48, 32, 48, 32, 48, 32, 48, 32, 48, 32, 48, 10, 100, 105, 115, 107, 32, 48, 10, 116, 101, 114, 109, 32, 57, 32, 45, 49, 10]⟩, .int .i64 0]) ∧ Below W3.heap.size W3 w') := by
    have := print_any W3 (some ⟨T, 0, none⟩) 1 1 [exT] exO 0 (some ⟨T + 1 + 1, 0, none⟩) 1 1 [exR] (ex_in W3 T (T + 1 + 1) hb hg) HTB.out hFU
    rw [ex_print] at this
    exact this
  have HW3 : Hid _ := hW3
  have HQU : Hid (∀ V : World, Calls Tryd.prog 8 #[.string ⟨#[0]⟩] V fun e w' => e = .returned (.string ⟨#[34, 92, 120, 48, 48, 34]⟩) ∧ Below V.heap.size V w') := fun V => by
    have := quote_any [0] V (by simp)
    rw [ex_quote] at this
    exact this
  have HTT : Hid _ := hTT
  clear hb hg hW3 hT hTT
  go_enter Tryd.func11, Tryd.ntmps11
  go_wp2_with fail
  rw [HTT.out, HW3.out]
  refine Calls.mono HPR.out ?_
  rintro e w4 ⟨rfl, b4⟩
  have HB4 : Hid (Below w.heap.size w w4) := HB3.out.trans (b4.mono HB3.out.size)
  clear b4 HPR HW3
  go_wp2_with fail
  refine (HQU.out _).mono ?_
  rintro e w5 ⟨rfl, b5⟩
  have HB5 : Hid (Below w.heap.size w w5) := HB4.out.trans (b5.mono HB4.out.size)
  clear b5 HQU
  rw [← HTT.out]
  go_wp2_with fail
  go_ret
  exact ⟨rfl, HB5.out⟩
set_option maxRecDepth 100000 in
theorem names_walk (w : World) (hT : TabP w) (hFU : Hid FUint) :
    Calls Tryd.prog 6 #[] w fun e w' => e = .returned (.bool true) ∧ Below w.heap.size w w' := by
  have HAW : Hid (∀ _ : Unit, _) := fun _ => awake_any w hT hFU
  clear hT
  go_enter Tryd.func6, Tryd.ntmps6
  go_wp2_with fail
  refine (HAW.out ()).mono ?_
  rintro e w1 ⟨rfl, b1⟩
  have HB1 : Hid _ := b1
  clear b1
  go_wp2_with fail
  go_ret
  exact ⟨rfl, HB1.out⟩
end Go.Proofs.YtcdagmgbfihbdaaDoor
