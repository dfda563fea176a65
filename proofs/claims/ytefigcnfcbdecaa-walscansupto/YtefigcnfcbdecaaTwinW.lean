/-
  The contracts of the twin's NewWriter, Lay and Length.
-/
import Derived.Test.YtefigcnfcbdecaaTwinLay
import Derived.Test.YtefigcnfcbdecaaWriter
namespace Go.Proofs.Ytefigcnfcbdecaa
open Go.RowKit
theorem rnew_bad (n : Int) (w : World) (h : n < 0 ∨ 1048576 < n) : Calls Try.prog 12 #[.int .i64 n] w fun r w' => r = .returned (.tuple #[.pointer none, .int .i64 1]) ∧ w' = w := by
  rcases h with h | h
  · go_enter Try.func12, Try.ntmps12
    go_wp2
    go_ret2
    exact ⟨rfl, rfl⟩
  · have h0 : ¬ n < 0 := by omega
    go_enter Try.func12, Try.ntmps12
    go_wp2
    go_ret2
    exact ⟨rfl, rfl⟩
theorem rnew_ok (n : Nat) (w : World) (h : n ≤ 1048576) : Calls Try.prog 12 #[.int .i64 n] w fun r w' => r = .returned (.tuple #[.pointer (some ⟨w.heap.size, 0, none⟩), .int .i64 0]) ∧ w' = w.alloc (.cells #[.int .i64 (n : Nat)] 39) := by
  go_enter Try.func12, Try.ntmps12
  go_wp2
  go_ret2
  exact ⟨rfl, rfl⟩
theorem rlength_bad (a n : Int) (w : World) (h : a < 0 ∨ 1048576 < a ∨ n < 0 ∨ 262144 < n) : Calls Try.prog 10 #[.int .i64 a, .int .i64 n] w fun r w' => r = .returned (.tuple #[.int .i64 0, .int .i64 1]) ∧ w' = w := by
  by_cases h1 : a < 0
  · go_enter Try.func10, Try.ntmps10
    go_wp2
    go_ret2
    exact ⟨rfl, rfl⟩
  · by_cases h2 : 1048576 < a
    · go_enter Try.func10, Try.ntmps10
      go_wp2
      go_ret2
      exact ⟨rfl, rfl⟩
    · by_cases h3 : n < 0
      · go_enter Try.func10, Try.ntmps10
        go_wp2
        go_ret2
        exact ⟨rfl, rfl⟩
      · have h4 : 262144 < n := by omega
        go_enter Try.func10, Try.ntmps10
        go_wp2
        go_ret2
        exact ⟨rfl, rfl⟩
set_option maxRecDepth 100000 in
set_option maxHeartbeats 2000000 in
theorem rlength_ok (a n : Nat) (w : World) (ha : a ≤ 1048576) (hn : n ≤ 262144) : Calls Try.prog 10 #[.int .i64 a, .int .i64 n] w fun r w' => r = .returned (.tuple #[.int .i64 (spanN a n : Nat), .int .i64 0]) ∧ Below w.heap.size w w' := by
  obtain ⟨i0, hi, hz0, hz1, hz2⟩ := info_parts info5
  obtain ⟨zs, hzs⟩ : ∃ zs : ByteArray, zs = ⟨(List.replicate n (0 : UInt8)).toArray⟩ := ⟨_, rfl⟩
  have hzl : zs.data.toList = List.replicate n 0 := by rw [hzs]
  have hzz : zs.size = n := by rw [hzs]; show (List.replicate n (0 : UInt8)).toArray.size = n; simp
  have HLY : Hid (∀ W : World, Calls Try.prog 23 #[.int .i64 a, .string zs] W fun r w' => ∃ v, r = .returned v ∧ w'.ownsRow W.heap.size 5 1 v (spanN a n) (bl (layL a zs.data.toList)) ∧ Below W.heap.size W w') := fun W => by
    have h := rlay_any a zs W ha (by omega)
    rw [layL_len] at h
    rw [show zs.data.toList.length = n by rw [hzl]; simp] at h
    exact h
  have HCV : Hid (∀ (g c : Nat) (W : World), W.ownsRow w.heap.size 5 1 (.slice (some ⟨g, 0, none⟩) n c) n (bl (List.replicate n 0)) → (convert 33 9 (.slice (some ⟨g, 0, none⟩) n c)).run Try.prog W = .ok (.string zs) W) := fun g c W h => by
    have hl : (List.replicate n (0 : UInt8)).length = n := by simp
    have := conv_row (W := W) (base := w.heap.size) (bs := List.replicate n 0) (a := some ⟨g, 0, none⟩) (cap := c) (by rw [hl]; exact h)
    rw [hl] at this
    rw [hzs]
    exact this
  clear hzs hzl
  go_enter Try.func10, Try.ntmps10
  go_wp2_with (refine wpList_make_full _ rfl _ _ 33 rfl w.heap.size 5 i0 (.int .u8 0) 1 Try.underlying33 hi hz0 hz1 .i64 .i64 _ _ n rfl rfl rfl rfl (by rw [hz2]; omega) (by unfold maxLen; omega) (Nat.le_refl _) ?_; intro w1 hown1 hg1; have B1 : Below w.heap.size w w1 := Below.grown (Below.refl _ w) hg1 (Nat.le_refl _) (fun k e => by cases e); rw [made_zero] at hown1; have hcv := HCV.out _ _ w1 hown1; clear hown1 hg1)
  refine (HLY.out _).mono ?_
  rintro e w2 ⟨v2, rfl, ho2, b2⟩
  have B2 : Below w.heap.size w w2 := B1.trans (b2.mono B1.size)
  obtain ⟨a2, c2, rfl⟩ := form_of_row ho2
  clear ho2 b2 B1 hcv
  go_wp2_with fail
  go_ret2
  exact ⟨rfl, B2⟩
set_option maxRecDepth 100000 in
set_option maxHeartbeats 4000000 in
theorem rlayM_bad (x size : Nat) (rec : ByteArray) (w : World) (h : w.heap[x]? = some (.cells #[.int .i64 (size : Nat)] 39 (0, 0))) (hs : size ≤ 1048576) (hr : rec.size ≤ 140737488355328) (hb : layOk size rec = false) :
    Calls Try.prog 14 #[.pointer (some ⟨x, 0, none⟩), .string rec] w fun r w' => r = .returned (.tuple #[.slice none 0 0, .int .i64 3]) ∧ Below w.heap.size w w' := by
  have hxs : x < w.heap.size := (Array.getElem?_eq_some_iff.1 h).1
  have c := cells_of_block h 0
  simp only [List.getElem?_toArray, List.getElem?_cons_zero] at c
  by_cases h1 : rec.size ≤ 262144
  · have h2 : ¬ size + spanN size rec.size ≤ 1048576 := by
      intro e
      simp [layOk, h1, e] at hb
    have HS : Hid _ := rlay_any size rec w hs h1
    rw [layL_len, show rec.data.toList.length = rec.size by simp] at HS
    have HSP : Hid (spanN size rec.size ≤ 1000000) := by
      rw [Hid, spanN]
      have h2 : skipN size ≤ 6 := by unfold skipN; split <;> omega
      split <;> omega
    have hsp := HSP.out
    generalize spanN size rec.size = sp at *
    have h3 : (1048576 : Int) < (size : Int) + (sp : Int) := by omega
    have HH : Hid _ := h
    clear h
    go_enter Try.func14, Try.ntmps14
    go_wp2_with fail
    refine Calls.mono HS.out ?_
    rintro e w1 ⟨v1, rfl, ho1, b1⟩
    obtain ⟨a1, c1, rfl⟩ := form_of_row ho1
    have cc := (b1.cell (p := ⟨x, 0, none⟩) hxs).trans c
    clear ho1
    go_wp2_with fail
    go_ret2
    exact ⟨rfl, b1⟩
  · clear h
    go_enter Try.func14, Try.ntmps14
    go_wp2_with fail
    go_ret2
    exact ⟨rfl, Below.refl _ _⟩
set_option maxRecDepth 100000 in
set_option maxHeartbeats 4000000 in
theorem rlayM_ok (x size : Nat) (rec : ByteArray) (w : World) (h : w.heap[x]? = some (.cells #[.int .i64 (size : Nat)] 39 (0, 0))) (hs : size ≤ 1048576) (hb : layOk size rec = true) :
    Calls Try.prog 14 #[.pointer (some ⟨x, 0, none⟩), .string rec] w fun r w' => ∃ v, r = .returned (.tuple #[v, .int .i64 0]) ∧ w'.ownsRow w.heap.size 5 1 v (layL size rec.data.toList).length (bl (layL size rec.data.toList)) ∧ w'.heap[x]? = some (.cells #[.int .i64 ((size + (layL size rec.data.toList).length : Nat) : Int)] 39 (0, 0)) ∧ Kept x w w' := by
  simp only [layOk, Bool.and_eq_true, decide_eq_true_eq] at hb
  obtain ⟨h1, h2⟩ := hb
  have hxs : x < w.heap.size := (Array.getElem?_eq_some_iff.1 h).1
  have c := cells_of_block h 0
  simp only [List.getElem?_toArray, List.getElem?_cons_zero] at c
  have HH : Hid _ := h
  clear h
  have HS : Hid _ := rlay_any size rec w hs h1
  have hLn : (layL size rec.data.toList).length = spanN size rec.size := by
    rw [layL_len]
    congr 1
  rw [hLn] at HS ⊢
  clear hLn
  generalize spanN size rec.size = sp at *
  generalize bl (layL size rec.data.toList) = row at *
  have h3 : ¬ (1048576 : Int) < (size : Int) + (sp : Int) := by omega
  go_enter Try.func14, Try.ntmps14
  go_wp2_with fail
  refine Calls.mono HS.out ?_
  rintro e w6 ⟨v', rfl, ho, b6⟩
  obtain ⟨a1, c1, rfl⟩ := form_of_row ho
  have hb6 := (b6.block x hxs).trans HH.out
  have c6 := cells_of_block hb6 0
  simp only [List.getElem?_toArray, List.getElem?_cons_zero] at c6
  have f6 : w6.frozen? ⟨x, 0, none⟩ = false := by simp [World.frozen?, hb6]
  have HST : Hid ((w6.setCell ⟨x, 0, none⟩ (.int .i64 ((size : Int) + (sp : Int)))).heap[x]? = some (.cells #[.int .i64 ((size + sp : Nat) : Int)] 39 (0, 0))) := by
    rw [Hid, block_set hb6, show ((size + sp : Nat) : Int) = (size : Int) + (sp : Int) by omega]
    rfl
  have HOW : Hid ((w6.setCell ⟨x, 0, none⟩ (.int .i64 ((size : Int) + (sp : Int)))).ownsRow w.heap.size 5 1 (.slice a1 sp c1) sp row) := owns_same ho (fun g hg => Below.heap_setCell _ _ _ _ (show g ≠ x from fun e => by have := (ho.lt g hg).1; omega))
  have HKP : Hid (Kept x w (w6.setCell ⟨x, 0, none⟩ (.int .i64 ((size : Int) + (sp : Int))))) := (Kept.of_below (Nat.le_refl _) b6).setCell _ _
  clear hb6 ho b6
  go_wp2_with fail
  go_ret2
  exact ⟨_, rfl, HOW.out, HST.out, HKP.out⟩
end Go.Proofs.Ytefigcnfcbdecaa
