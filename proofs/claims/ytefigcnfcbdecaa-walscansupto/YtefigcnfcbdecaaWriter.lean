/-
  The contracts of NewWriter, Lay, Size and Length.
-/
import Derived.Test.YtefigcnfcbdecaaLay
namespace Go.Proofs.Ytefigcnfcbdecaa
open Go.RowKit
theorem newWriter_bad (n : Int) (w : World) (h : n < 0 ∨ 1048576 < n) : Calls Try.prog 11 #[.int .i64 n] w fun r w' => r = .returned (.tuple #[.pointer none, .int .i64 1]) ∧ w' = w := by
  rcases h with h | h
  · go_enter Try.func11, Try.ntmps11
    go_wp2
    go_ret2
    exact ⟨rfl, rfl⟩
  · have h0 : ¬ n < 0 := by omega
    go_enter Try.func11, Try.ntmps11
    go_wp2
    go_ret2
    exact ⟨rfl, rfl⟩
theorem newWriter_ok (n : Nat) (w : World) (h : n ≤ 1048576) : Calls Try.prog 11 #[.int .i64 n] w fun r w' => r = .returned (.tuple #[.pointer (some ⟨w.heap.size, 0, none⟩), .int .i64 0]) ∧ w' = w.alloc (.cells #[.int .i64 (n : Nat)] 59) := by
  go_enter Try.func11, Try.ntmps11
  go_wp2
  go_ret2
  exact ⟨rfl, rfl⟩
theorem size_any (x : Nat) (n : Nat) (w : World) (h : w.heap[x]? = some (.cells #[.int .i64 (n : Nat)] 59 (0, 0))) : Calls Try.prog 16 #[.pointer (some ⟨x, 0, none⟩)] w fun r w' => r = .returned (.int .i64 (n : Nat)) ∧ w' = w := by
  have c := cells_of_block h 0
  simp only [List.getElem?_toArray, List.getElem?_cons_zero] at c
  clear h
  go_enter Try.func16, Try.ntmps16
  go_wp2
  go_ret
  exact ⟨rfl, rfl⟩
theorem length_bad (a n : Int) (w : World) (h : a < 0 ∨ 1048576 < a ∨ n < 0 ∨ 262144 < n) : Calls Try.prog 9 #[.int .i64 a, .int .i64 n] w fun r w' => r = .returned (.tuple #[.int .i64 0, .int .i64 1]) ∧ w' = w := by
  by_cases h1 : a < 0
  · go_enter Try.func9, Try.ntmps9
    go_wp2
    go_ret2
    exact ⟨rfl, rfl⟩
  · by_cases h2 : 1048576 < a
    · go_enter Try.func9, Try.ntmps9
      go_wp2
      go_ret2
      exact ⟨rfl, rfl⟩
    · by_cases h3 : n < 0
      · go_enter Try.func9, Try.ntmps9
        go_wp2
        go_ret2
        exact ⟨rfl, rfl⟩
      · have h4 : 262144 < n := by omega
        go_enter Try.func9, Try.ntmps9
        go_wp2
        go_ret2
        exact ⟨rfl, rfl⟩
theorem length_ok (a n : Nat) (w : World) (ha : a ≤ 1048576) (hn : n ≤ 262144) : Calls Try.prog 9 #[.int .i64 a, .int .i64 n] w fun r w' => r = .returned (.tuple #[.int .i64 (spanN a n : Nat), .int .i64 0]) ∧ w' = w := by
  have HS : Hid _ := span_any a n w (by omega) (by omega)
  go_enter Try.func9, Try.ntmps9
  go_wp2_with fail
  refine Calls.mono HS.out ?_
  rintro e w1 ⟨rfl, hw⟩
  subst hw
  go_wp2_with fail
  go_ret2
  exact ⟨rfl, rfl⟩
theorem madeRow (W : World) (n : Nat) (hn : n ≤ 140737488355328) : (W.alloc (.cells (madeCells #[.int .u8 0] n) 5)).ownsRow W.heap.size 5 1 (.slice (some ⟨W.heap.size, 0, none⟩) 0 n) 0 [] := by
  refine ⟨rfl, Or.inr ⟨W.heap.size, n, _, rfl, Nat.le_refl _, World.alloc_heap_new W _, Nat.zero_le _, by unfold maxLen; omega, by rw [size_madeCells, Nat.mul_one], ?_⟩⟩
  simp
theorem make0 (n : Nat) (hn : n ≤ 140737488355328) (W : World) : (Instr.makeSlice 33 (.int .i64 0) (.int .i64 (n : Nat))).run Try.prog W = .ok (.slice (some ⟨W.heap.size, 0, none⟩) 0 n) (W.alloc (.cells (madeCells #[.int .u8 0] n) 5)) := by
  obtain ⟨i, hi, hz, hs, hb⟩ := info_parts info5
  have h := run_make (P := Try.prog) W 33 5 i (.int .u8 0) Try.underlying33 hi hz .i64 .i64 0 (n : Nat) (by omega) (by omega) (by rw [hb]; omega) (by omega)
  simp only [Int.toNat_natCast, hs, Nat.mul_one] at h
  exact h
/-- What Lay tells: nothing, or a record's bytes. -/
def layOk (size : Nat) (rec : ByteArray) : Bool := decide (rec.size ≤ 262144) && decide (size + spanN size rec.size ≤ 1048576)
set_option maxRecDepth 100000 in
set_option maxHeartbeats 4000000 in
theorem layM_bad (x size : Nat) (rec : ByteArray) (w : World) (h : w.heap[x]? = some (.cells #[.int .i64 (size : Nat)] 59 (0, 0))) (hs : size ≤ 1048576) (hr : rec.size ≤ 140737488355328) (hb : layOk size rec = false) :
    Calls Try.prog 13 #[.pointer (some ⟨x, 0, none⟩), .string rec] w fun r w' => r = .returned (.tuple #[.slice none 0 0, .int .i64 3]) ∧ w' = w := by
  have c := cells_of_block h 0
  simp only [List.getElem?_toArray, List.getElem?_cons_zero] at c
  clear h
  by_cases h1 : rec.size ≤ 262144
  · have h2 : ¬ size + spanN size rec.size ≤ 1048576 := by
      intro e
      simp [layOk, h1, e] at hb
    have HS : Hid _ := span_any size rec.size w (by omega) (by omega)
    generalize spanN size rec.size = sp at *
    have h3 : (1048576 : Int) - (size : Int) < (sp : Int) := by omega
    go_enter Try.func13, Try.ntmps13
    go_wp2_with fail
    refine Calls.mono HS.out ?_
    rintro e w1 ⟨rfl, hw⟩
    subst hw
    go_wp2_with fail
    go_ret2
    exact ⟨rfl, rfl⟩
  · go_enter Try.func13, Try.ntmps13
    go_wp2_with fail
    go_ret2
    exact ⟨rfl, rfl⟩
set_option maxRecDepth 100000 in
set_option maxHeartbeats 4000000 in
theorem layM_ok (x size : Nat) (rec : ByteArray) (w : World) (h : w.heap[x]? = some (.cells #[.int .i64 (size : Nat)] 59 (0, 0))) (hs : size ≤ 1048576) (hb : layOk size rec = true) :
    Calls Try.prog 13 #[.pointer (some ⟨x, 0, none⟩), .string rec] w fun r w' => ∃ v, r = .returned (.tuple #[v, .int .i64 0]) ∧ w'.ownsRow w.heap.size 5 1 v (layL size rec.data.toList).length (bl (layL size rec.data.toList)) ∧ w'.heap[x]? = some (.cells #[.int .i64 ((size + (layL size rec.data.toList).length : Nat) : Int)] 59 (0, 0)) ∧ Kept x w w' := by
  simp only [layOk, Bool.and_eq_true, decide_eq_true_eq] at hb
  obtain ⟨h1, h2⟩ := hb
  have hxs : x < w.heap.size := (Array.getElem?_eq_some_iff.1 h).1
  have c := cells_of_block h 0
  simp only [List.getElem?_toArray, List.getElem?_cons_zero] at c
  have HH : Hid _ := h
  clear h
  have HS : Hid _ := span_any size rec.size w (by omega) (by omega)
  have HLn : Hid ((layL size rec.data.toList).length = spanN size rec.size) := by
    rw [Hid, layL_len]
    congr 1
  generalize spanN size rec.size = sp at *
  have h3 : ¬ (1048576 : Int) - (size : Int) < (sp : Int) := by omega
  have hmk := make0 sp (by omega)
  have B0 : Below w.heap.size w ((w.alloc (.cells (madeCells #[.int .u8 0] sp) 5)).drew) := ((Below.refl _ w).alloc (Nat.le_refl _) _).drew
  have HLY : Hid (Calls Try.prog 24 #[.slice (some ⟨w.heap.size, 0, none⟩) 0 sp, .int .i64 size, .string rec] ((w.alloc (.cells (madeCells #[.int .u8 0] sp) 5)).drew) fun r w' => ∃ v', r = .returned v' ∧ w'.ownsRow w.heap.size 5 1 v' (layL size rec.data.toList).length (bl (layL size rec.data.toList)) ∧ Below w.heap.size w w') := by
    refine (lay_any _ w.heap.size size rec _ (show ((w.alloc (.cells (madeCells #[.int .u8 0] sp) 5)).drew).ownsRow _ _ _ _ _ _ from madeRow w sp (by omega)) B0.size hs h1).mono ?_
    rintro r w' ⟨v', e, ho, b⟩
    exact ⟨v', e, ho, B0.trans b⟩
  go_enter Try.func13, Try.ntmps13
  go_wp2_with fail
  refine Calls.mono HS.out ?_
  rintro e w1 ⟨rfl, hw⟩
  subst hw
  go_wp2_with fail
  go_region_with (go_at_call 24; refine Calls.mono HLY.out ?_; rintro r w6 ⟨v', rfl, ho, b6⟩)
  all_goals
    have hb6 := (b6.block x hxs).trans HH.out
    have c6 := cells_of_block hb6 0
    simp only [List.getElem?_toArray, List.getElem?_cons_zero] at c6
    have f6 : w6.frozen? ⟨x, 0, none⟩ = false := by simp [World.frozen?, hb6]
    have HST : Hid ((w6.setCell ⟨x, 0, none⟩ (.int .i64 ((size : Int) + (sp : Int)))).heap[x]? = some (.cells #[.int .i64 ((size + (layL size rec.data.toList).length : Nat) : Int)] 59 (0, 0))) := by
      rw [Hid, block_set hb6, HLn.out, show ((size + sp : Nat) : Int) = (size : Int) + (sp : Int) by omega]
      rfl
    have HOW : Hid ((w6.setCell ⟨x, 0, none⟩ (.int .i64 ((size : Int) + (sp : Int)))).ownsRow w1.heap.size 5 1 v' (layL size rec.data.toList).length (bl (layL size rec.data.toList))) := owns_same ho (fun g hg => Below.heap_setCell _ _ _ _ (show g ≠ x from fun e => by have := (ho.lt g hg).1; omega))
    have HKP : Hid (Kept x w1 (w6.setCell ⟨x, 0, none⟩ (.int .i64 ((size : Int) + (sp : Int))))) := (Kept.of_below (Nat.le_refl _) b6).setCell _ _
    clear hb6 ho b6
    go_wp2_with fail
    go_ret2
    exact ⟨v', rfl, HOW.out, HST.out, HKP.out⟩
end Go.Proofs.Ytefigcnfcbdecaa
