/-
  A step of a task that does what a list says.
-/
import Derived.Test.YtefmhghdehokcaaDo
namespace Go.Proofs.Ytefmhghdehokcaa
open Go.RowKit
theorem three_put {Y : World} {b : Nat} (h : Y.heap[b]? = some (.cells #[.bool false, .int .i64 0, .slice none 0 0] 64 (0, 0))) (u v x : Value) : (((Y.setCell ⟨b, 0, none⟩ u).setCell ⟨b, 1, none⟩ v).setCell ⟨b, 2, none⟩ x).heap[b]? = some (.cells #[u, v, x] 64 (0, 0)) := block_set (block_set (block_set h 0 _) 1 _) 2 _
theorem actStep_done (q : Nat) (aa : Option Addr) (ca : Nat) (vt e : Value) (w : World) (hq : w.heap[q]? = some (.cells #[.slice aa 0 ca, vt] 91 (0, 0))) :
    Calls Try.prog 24 #[.pointer (some ⟨q, 0, none⟩), e] w fun r w' => r = .returned (.agg #[.bool true, .int .i64 0, .slice none 0 0]) ∧ Below w.heap.size w w' := by
  have c0 := cells_of_block hq 0
  simp only [List.getElem?_toArray, List.getElem?_cons_zero] at c0
  have hqs := (Array.getElem?_eq_some_iff.1 hq).1
  have c1 : ∀ o, (w.alloc o).cell? ⟨q, 0, none⟩ = some (.slice aa 0 ca) := fun o => (((Below.refl w.heap.size w).alloc (Nat.le_refl _) o).cell (p := ⟨q, 0, none⟩) hqs).trans c0
  have c2 := c1 (.cells #[.bool false, .int .i64 0, .slice none 0 0] 64)
  clear hq c1
  go_enter Try.func24, Try.ntmps24
  go_wp2
  exact ⟨rfl, _, by simp [results, Try.f24, go_sem], rfl, (Below.refl _ _).alloc (Nat.le_refl _) _⟩
set_option maxRecDepth 100000 in
set_option maxHeartbeats 4000000 in
theorem actStep_cons (q n b off ca : Nat) (k x : Int) (vt e : Value) (w : World) (hq : w.heap[q]? = some (.cells #[.slice (some ⟨b, off, none⟩) (n + 1) ca, vt] 91 (0, 0))) (hc : n + 1 ≤ ca) (hn : n < 1000000)
    (h0 : w.cell? ⟨b, off, none⟩ = some (.int .i64 k)) (h1 : w.cell? ⟨b, off + 1, none⟩ = some (.int .i64 x)) (aa' : Option Addr) (ca' : Nat) (ha' : if ca = 1 then aa' = some ⟨b, off, none⟩ ∧ ca' = 0 else aa' = some ⟨b, off + 2, none⟩ ∧ ca' = ca - 1)
    (wt : Int) (P : World → World → Value → Prop)
    (HD : ∀ W1, W1.heap.size = w.heap.size + 2 → Kb (fun b => b = q) w W1 → W1.heap[q]? = some (.cells #[.slice aa' n ca', vt] 91 (0, 0)) → Calls Try.prog 46 #[.pointer (some ⟨q, 0, none⟩), .agg #[.int .i64 k, .int .i64 x], e] W1 fun r w2 => ∃ av nv cv, r = .returned (.agg #[.bool false, .int .i64 wt, .slice av nv cv]) ∧ P W1 w2 (.slice av nv cv))
    (hP : ∀ W1 w2 vk, P W1 w2 vk → (∃ vt', w2.heap[q]? = some (.cells #[.slice aa' n ca', vt'] 91 (0, 0))) ∧ w2.heap[w.heap.size]? = W1.heap[w.heap.size]? ∧ W1.heap.size ≤ w2.heap.size) :
    Calls Try.prog 24 #[.pointer (some ⟨q, 0, none⟩), e] w fun r w' => ∃ W1 w2 vk, r = .returned (.agg #[.bool (decide (n = 0)), .int .i64 (if n = 0 then 0 else wt), vk]) ∧ W1.heap.size = w.heap.size + 2 ∧ Kb (fun b => b = q) w W1 ∧ P W1 w2 vk ∧ Kb (fun b => b = w.heap.size) w2 w' := by
  have c0 := cells_of_block hq 0
  simp only [List.getElem?_toArray, List.getElem?_cons_zero] at c0
  have hqs := (Array.getElem?_eq_some_iff.1 hq).1
  have hbs := World.block_lt_of_cell? w _ h0
  have hbs' : b < w.heap.size := hbs
  have al : ∀ o (ad : Addr) v, ad.block < w.heap.size → w.cell? ad = some v → (w.alloc o).cell? ad = some v := fun o ad v h1 h2 => (((Below.refl w.heap.size w).alloc (Nat.le_refl _) o).cell (p := ad) h1).trans h2
  have c1 := al (.cells #[.bool false, .int .i64 0, .slice none 0 0] 64) ⟨q, 0, none⟩ _ hqs c0
  have d0 := al (.cells #[.bool false, .int .i64 0, .slice none 0 0] 64) ⟨b, off, none⟩ _ hbs' h0
  have d1 := al (.cells #[.bool false, .int .i64 0, .slice none 0 0] 64) ⟨b, off + 1, none⟩ _ hbs' h1
  have HQ : Hid _ := hq
  have HHD : Hid _ := HD
  have HHP : Hid _ := hP
  clear HD hP hq al
  have fq : w.frozen? ⟨q, 0, none⟩ = false := by simp [World.frozen?, HQ.out]
  by_cases hc1 : ca = 1
  · rw [if_pos hc1] at ha'
    obtain ⟨rfl, rfl⟩ := ha'
    obtain rfl : n = 0 := by omega
    subst hc1
    go_enter Try.func24, Try.ntmps24
    go_wp2_with fail
    obtain ⟨W1, hW1⟩ : ∃ W1, ((w.setCell ⟨q, 0, none⟩ (.slice (some ⟨b, off, none⟩) 0 0)).alloc (.cells #[.bool false, .int .i64 0, .slice none 0 0] 64)).alloc (.cells #[.int .i64 k, .int .i64 x] 54) = W1 := ⟨_, rfl⟩
    rw [hW1]
    have hs1 : W1.heap.size = w.heap.size + 2 := by rw [← hW1]; simp
    have k1 : Kb (fun b => b = q) w W1 := by rw [← hW1]; exact ((kb_one w q 0 _).alloc _).alloc _
    have hq1 : W1.heap[q]? = some (.cells #[.slice (some ⟨b, off, none⟩) 0 0, vt] 91 (0, 0)) := by
      rw [← hW1, Below.heap_alloc _ _ _ (by simp; omega), Below.heap_alloc _ _ _ (by simp; omega)]
      exact block_set HQ.out 0 _
    have hr1 : W1.heap[w.heap.size]? = some (.cells #[.bool false, .int .i64 0, .slice none 0 0] 64 (0, 0)) := by
      rw [← hW1, Below.heap_alloc _ _ _ (by simp)]
      have := World.alloc_heap_new (w.setCell ⟨q, 0, none⟩ (.slice (some ⟨b, off, none⟩) 0 0)) (.cells #[.bool false, .int .i64 0, .slice none 0 0] 64)
      simpa using this
    refine (HHD.out W1 hs1 k1 hq1).mono ?_
    rintro e' w2 ⟨av, nv, cv, rfl, hPw⟩
    obtain ⟨⟨vt', hq2⟩, hr2, hs2⟩ := HHP.out _ _ _ hPw
    rw [hr1] at hr2
    obtain ⟨H0, hH0⟩ : ∃ H0, w.heap.size = H0 := ⟨_, rfl⟩
    rw [hH0] at hr2
    rw [hH0]
    have hq2s := (Array.getElem?_eq_some_iff.1 hq2).1
    have hr2s := (Array.getElem?_eq_some_iff.1 hr2).1
    have HPW : Hid _ := hPw
    have HQ2 : Hid _ := hq2
    have HR2 : Hid _ := hr2
    have HS1 : Hid _ := hs1
    have HK1 : Hid _ := k1
    have HH0 : Hid _ := hH0
    have AL : Hid (∀ o j v, w2.cell? ⟨q, j, none⟩ = some v → (w2.alloc o).cell? ⟨q, j, none⟩ = some v) := fun o j v h => (((Below.refl w2.heap.size w2).alloc (Nat.le_refl _) o).cell (p := ⟨q, j, none⟩) hq2s).trans h
    have cq2 : w2.cell? ⟨q, 0, none⟩ = some (.slice (some ⟨b, off, none⟩) 0 0) := by have := cells_of_block hq2 0; simpa using this
    have AH : Hid (∀ o, (w2.alloc o).heap[H0]? = some (.cells #[.bool false, .int .i64 0, .slice none 0 0] 64 (0, 0))) := fun o => (Below.heap_alloc _ _ _ hr2s).trans HR2.out
    have e0 : (w2.alloc (.cells #[.bool false, .int .i64 wt, .slice av nv cv] 64)).cell? ⟨q, 0, none⟩ = some (.slice (some ⟨b, off, none⟩) 0 0) := AL.out _ 0 _ cq2
    clear hPw hq2 hr2 hr1 hq1 k1 hW1 hs1 hH0
    have ah := HR2.out
    have y0 := cells_of_block ah 0
    have y1 := cells_of_block ah 1
    have y2 := cells_of_block ah 2
    simp only [List.getElem?_toArray, List.getElem?_cons_succ, List.getElem?_cons_zero] at y0 y1 y2
    have z0 : w2.frozen? ⟨H0, 0, none⟩ = false := by simp [World.frozen?, ah]
    have z1 : w2.frozen? ⟨H0, 1, none⟩ = false := by simp [World.frozen?, ah]
    have z2 : w2.frozen? ⟨H0, 2, none⟩ = false := by simp [World.frozen?, ah]
    have HAH : Hid _ := ah
    clear ah
    go_wp2_with fail
    have h3' := three_put HAH.out (.bool true) (.int .i64 0) (.slice av nv cv)
    have h3 := (Below.heap_alloc _ (.cells #[.bool true, .int .i64 0, .slice av nv cv] 64) _ (Array.getElem?_eq_some_iff.1 h3').1).trans h3'
    have k3 : Kb (fun b => b = H0) w2 ((((w2.setCell ⟨H0, 0, none⟩ (.bool true)).setCell ⟨H0, 1, none⟩ (.int .i64 0)).setCell ⟨H0, 2, none⟩ (.slice av nv cv)).alloc (.cells #[.bool true, .int .i64 0, .slice av nv cv] 64)) := by
      have k0 : Kb (fun b => b = H0) w2 w2 := Kb.refl _ _
      exact (((k0.setCell rfl _ _).setCell rfl _ _).setCell rfl _ _).alloc _
    obtain ⟨Z, hZ⟩ : ∃ Z, (((w2.setCell ⟨H0, 0, none⟩ (.bool true)).setCell ⟨H0, 1, none⟩ (.int .i64 0)).setCell ⟨H0, 2, none⟩ (.slice av nv cv)).alloc (.cells #[.bool true, .int .i64 0, .slice av nv cv] 64) = Z := ⟨_, rfl⟩
    rw [hZ] at h3 k3 ⊢
    have r0 := cells_of_block h3 0
    have r1 := cells_of_block h3 1
    have r2 := cells_of_block h3 2
    simp only [List.getElem?_toArray, List.getElem?_cons_succ, List.getElem?_cons_zero] at r0 r1 r2
    exact ⟨rfl, .agg #[.bool true, .int .i64 0, .slice av nv cv], by simp [results, Try.f24, go_sem, r0, r1, r2], W1, w2, .slice av nv cv, by simp, HS1.out, HK1.out, HPW.out, by rw [HH0.out]; exact k3⟩
  · have hc2 : 1 < ca := by omega
    rw [if_neg hc1] at ha'
    obtain ⟨rfl, rfl⟩ := ha'
    by_cases hn0 : n = 0
    · subst hn0
      go_enter Try.func24, Try.ntmps24
      go_wp2_with fail
      obtain ⟨W1, hW1⟩ : ∃ W1, ((w.setCell ⟨q, 0, none⟩ (.slice (some ⟨b, off + 2, none⟩) 0 (ca - 1))).alloc (.cells #[.bool false, .int .i64 0, .slice none 0 0] 64)).alloc (.cells #[.int .i64 k, .int .i64 x] 54) = W1 := ⟨_, rfl⟩
      rw [hW1]
      have hs1 : W1.heap.size = w.heap.size + 2 := by rw [← hW1]; simp
      have k1 : Kb (fun b => b = q) w W1 := by rw [← hW1]; exact ((kb_one w q 0 _).alloc _).alloc _
      have hq1 : W1.heap[q]? = some (.cells #[.slice (some ⟨b, off + 2, none⟩) 0 (ca - 1), vt] 91 (0, 0)) := by
        rw [← hW1, Below.heap_alloc _ _ _ (by simp; omega), Below.heap_alloc _ _ _ (by simp; omega)]
        exact block_set HQ.out 0 _
      have hr1 : W1.heap[w.heap.size]? = some (.cells #[.bool false, .int .i64 0, .slice none 0 0] 64 (0, 0)) := by
        rw [← hW1, Below.heap_alloc _ _ _ (by simp)]
        have := World.alloc_heap_new (w.setCell ⟨q, 0, none⟩ (.slice (some ⟨b, off + 2, none⟩) 0 (ca - 1))) (.cells #[.bool false, .int .i64 0, .slice none 0 0] 64)
        simpa using this
      refine (HHD.out W1 hs1 k1 hq1).mono ?_
      rintro e' w2 ⟨av, nv, cv, rfl, hPw⟩
      obtain ⟨⟨vt', hq2⟩, hr2, hs2⟩ := HHP.out _ _ _ hPw
      rw [hr1] at hr2
      obtain ⟨H0, hH0⟩ : ∃ H0, w.heap.size = H0 := ⟨_, rfl⟩
      rw [hH0] at hr2
      rw [hH0]
      have hq2s := (Array.getElem?_eq_some_iff.1 hq2).1
      have hr2s := (Array.getElem?_eq_some_iff.1 hr2).1
      have HPW : Hid _ := hPw
      have HQ2 : Hid _ := hq2
      have HR2 : Hid _ := hr2
      have HS1 : Hid _ := hs1
      have HK1 : Hid _ := k1
      have HH0 : Hid _ := hH0
      have AL : Hid (∀ o j v, w2.cell? ⟨q, j, none⟩ = some v → (w2.alloc o).cell? ⟨q, j, none⟩ = some v) := fun o j v h => (((Below.refl w2.heap.size w2).alloc (Nat.le_refl _) o).cell (p := ⟨q, j, none⟩) hq2s).trans h
      have cq2 : w2.cell? ⟨q, 0, none⟩ = some (.slice (some ⟨b, off + 2, none⟩) 0 (ca - 1)) := by have := cells_of_block hq2 0; simpa using this
      have AH : Hid (∀ o, (w2.alloc o).heap[H0]? = some (.cells #[.bool false, .int .i64 0, .slice none 0 0] 64 (0, 0))) := fun o => (Below.heap_alloc _ _ _ hr2s).trans HR2.out
      have e0 : (w2.alloc (.cells #[.bool false, .int .i64 wt, .slice av nv cv] 64)).cell? ⟨q, 0, none⟩ = some (.slice (some ⟨b, off + 2, none⟩) 0 (ca - 1)) := AL.out _ 0 _ cq2
      clear hPw hq2 hr2 hr1 hq1 k1 hW1 hs1 hH0
      have ah := HR2.out
      have y0 := cells_of_block ah 0
      have y1 := cells_of_block ah 1
      have y2 := cells_of_block ah 2
      simp only [List.getElem?_toArray, List.getElem?_cons_succ, List.getElem?_cons_zero] at y0 y1 y2
      have z0 : w2.frozen? ⟨H0, 0, none⟩ = false := by simp [World.frozen?, ah]
      have z1 : w2.frozen? ⟨H0, 1, none⟩ = false := by simp [World.frozen?, ah]
      have z2 : w2.frozen? ⟨H0, 2, none⟩ = false := by simp [World.frozen?, ah]
      have HAH : Hid _ := ah
      clear ah
      go_wp2_with fail
      have h3' := three_put HAH.out (.bool true) (.int .i64 0) (.slice av nv cv)
      have h3 := (Below.heap_alloc _ (.cells #[.bool true, .int .i64 0, .slice av nv cv] 64) _ (Array.getElem?_eq_some_iff.1 h3').1).trans h3'
      have k3 : Kb (fun b => b = H0) w2 ((((w2.setCell ⟨H0, 0, none⟩ (.bool true)).setCell ⟨H0, 1, none⟩ (.int .i64 0)).setCell ⟨H0, 2, none⟩ (.slice av nv cv)).alloc (.cells #[.bool true, .int .i64 0, .slice av nv cv] 64)) := by
        have k0 : Kb (fun b => b = H0) w2 w2 := Kb.refl _ _
        exact (((k0.setCell rfl _ _).setCell rfl _ _).setCell rfl _ _).alloc _
      obtain ⟨Z, hZ⟩ : ∃ Z, (((w2.setCell ⟨H0, 0, none⟩ (.bool true)).setCell ⟨H0, 1, none⟩ (.int .i64 0)).setCell ⟨H0, 2, none⟩ (.slice av nv cv)).alloc (.cells #[.bool true, .int .i64 0, .slice av nv cv] 64) = Z := ⟨_, rfl⟩
      rw [hZ] at h3 k3 ⊢
      have r0 := cells_of_block h3 0
      have r1 := cells_of_block h3 1
      have r2 := cells_of_block h3 2
      simp only [List.getElem?_toArray, List.getElem?_cons_succ, List.getElem?_cons_zero] at r0 r1 r2
      exact ⟨rfl, .agg #[.bool true, .int .i64 0, .slice av nv cv], by simp [results, Try.f24, go_sem, r0, r1, r2], W1, w2, .slice av nv cv, by simp, HS1.out, HK1.out, HPW.out, by rw [HH0.out]; exact k3⟩
    · have hn1 : ((n : Int) == 0) = false := by simp; omega
      go_enter Try.func24, Try.ntmps24
      go_wp2_with fail
      obtain ⟨W1, hW1⟩ : ∃ W1, ((w.setCell ⟨q, 0, none⟩ (.slice (some ⟨b, off + 2, none⟩) n (ca - 1))).alloc (.cells #[.bool false, .int .i64 0, .slice none 0 0] 64)).alloc (.cells #[.int .i64 k, .int .i64 x] 54) = W1 := ⟨_, rfl⟩
      rw [hW1]
      have hs1 : W1.heap.size = w.heap.size + 2 := by rw [← hW1]; simp
      have k1 : Kb (fun b => b = q) w W1 := by rw [← hW1]; exact ((kb_one w q 0 _).alloc _).alloc _
      have hq1 : W1.heap[q]? = some (.cells #[.slice (some ⟨b, off + 2, none⟩) n (ca - 1), vt] 91 (0, 0)) := by
        rw [← hW1, Below.heap_alloc _ _ _ (by simp; omega), Below.heap_alloc _ _ _ (by simp; omega)]
        exact block_set HQ.out 0 _
      have hr1 : W1.heap[w.heap.size]? = some (.cells #[.bool false, .int .i64 0, .slice none 0 0] 64 (0, 0)) := by
        rw [← hW1, Below.heap_alloc _ _ _ (by simp)]
        have := World.alloc_heap_new (w.setCell ⟨q, 0, none⟩ (.slice (some ⟨b, off + 2, none⟩) n (ca - 1))) (.cells #[.bool false, .int .i64 0, .slice none 0 0] 64)
        simpa using this
      refine (HHD.out W1 hs1 k1 hq1).mono ?_
      rintro e' w2 ⟨av, nv, cv, rfl, hPw⟩
      obtain ⟨⟨vt', hq2⟩, hr2, hs2⟩ := HHP.out _ _ _ hPw
      rw [hr1] at hr2
      obtain ⟨H0, hH0⟩ : ∃ H0, w.heap.size = H0 := ⟨_, rfl⟩
      rw [hH0] at hr2
      rw [hH0]
      have hq2s := (Array.getElem?_eq_some_iff.1 hq2).1
      have hr2s := (Array.getElem?_eq_some_iff.1 hr2).1
      have HPW : Hid _ := hPw
      have HQ2 : Hid _ := hq2
      have HR2 : Hid _ := hr2
      have HS1 : Hid _ := hs1
      have HK1 : Hid _ := k1
      have HH0 : Hid _ := hH0
      have AL : Hid (∀ o j v, w2.cell? ⟨q, j, none⟩ = some v → (w2.alloc o).cell? ⟨q, j, none⟩ = some v) := fun o j v h => (((Below.refl w2.heap.size w2).alloc (Nat.le_refl _) o).cell (p := ⟨q, j, none⟩) hq2s).trans h
      have cq2 : w2.cell? ⟨q, 0, none⟩ = some (.slice (some ⟨b, off + 2, none⟩) n (ca - 1)) := by have := cells_of_block hq2 0; simpa using this
      have AH : Hid (∀ o, (w2.alloc o).heap[H0]? = some (.cells #[.bool false, .int .i64 0, .slice none 0 0] 64 (0, 0))) := fun o => (Below.heap_alloc _ _ _ hr2s).trans HR2.out
      have e0 : (w2.alloc (.cells #[.bool false, .int .i64 wt, .slice av nv cv] 64)).cell? ⟨q, 0, none⟩ = some (.slice (some ⟨b, off + 2, none⟩) n (ca - 1)) := AL.out _ 0 _ cq2
      clear hPw hq2 hr2 hr1 hq1 k1 hW1 hs1 hH0
      have ah := HR2.out
      have y0 := cells_of_block ah 0
      have y1 := cells_of_block ah 1
      have y2 := cells_of_block ah 2
      simp only [List.getElem?_toArray, List.getElem?_cons_succ, List.getElem?_cons_zero] at y0 y1 y2
      have z0 : w2.frozen? ⟨H0, 0, none⟩ = false := by simp [World.frozen?, ah]
      have z1 : w2.frozen? ⟨H0, 1, none⟩ = false := by simp [World.frozen?, ah]
      have z2 : w2.frozen? ⟨H0, 2, none⟩ = false := by simp [World.frozen?, ah]
      have HAH : Hid _ := ah
      clear ah
      go_wp2_with fail
      have h3' := three_put HAH.out (.bool false) (.int .i64 wt) (.slice av nv cv)
      have h3 := (Below.heap_alloc _ (.cells #[.bool false, .int .i64 wt, .slice av nv cv] 64) _ (Array.getElem?_eq_some_iff.1 h3').1).trans h3'
      have k3 : Kb (fun b => b = H0) w2 ((((w2.setCell ⟨H0, 0, none⟩ (.bool false)).setCell ⟨H0, 1, none⟩ (.int .i64 wt)).setCell ⟨H0, 2, none⟩ (.slice av nv cv)).alloc (.cells #[.bool false, .int .i64 wt, .slice av nv cv] 64)) := by
        have k0 : Kb (fun b => b = H0) w2 w2 := Kb.refl _ _
        exact (((k0.setCell rfl _ _).setCell rfl _ _).setCell rfl _ _).alloc _
      obtain ⟨Z, hZ⟩ : ∃ Z, (((w2.setCell ⟨H0, 0, none⟩ (.bool false)).setCell ⟨H0, 1, none⟩ (.int .i64 wt)).setCell ⟨H0, 2, none⟩ (.slice av nv cv)).alloc (.cells #[.bool false, .int .i64 wt, .slice av nv cv] 64) = Z := ⟨_, rfl⟩
      rw [hZ] at h3 k3 ⊢
      have r0 := cells_of_block h3 0
      have r1 := cells_of_block h3 1
      have r2 := cells_of_block h3 2
      simp only [List.getElem?_toArray, List.getElem?_cons_succ, List.getElem?_cons_zero] at r0 r1 r2
      exact ⟨rfl, .agg #[.bool false, .int .i64 wt, .slice av nv cv], by simp [results, Try.f24, go_sem, r0, r1, r2], W1, w2, .slice av nv cv, by simp, HS1.out, HK1.out, HPW.out, by rw [HH0.out]; exact k3⟩
/-- What a step of a task leaves. -/
structure Stepped (p : Nat) (t t' : Tk) (w w' : World) (cs : Array Value) : Prop where
  hp : w'.heap[p]? = some (.cells cs 83 (0, 0))
  tk : TkAt (p + 1) w' t'
  lies : t'.vt.ownBlock = t.vt.ownBlock ∨ ∃ g, t'.vt.ownBlock = some g ∧ w.heap.size ≤ g
  kb : Kb (fun b => b = p ∨ b = t.q ∨ t.vt.ownBlock = some b) w w'
  aab : ∀ ad, t'.aa = some ad → ∃ ad0, t.aa = some ad0 ∧ ad0.block = ad.block
theorem acts_tail {W W' : World} {aa aa' : Option Addr} {ca ca' b off : Nat} {l : List (Int × Int)} {x : Int × Int} (h : ActsAt W aa (x :: l)) (ha : aa = some ⟨b, off, none⟩) (hl : l.length + 1 ≤ ca) (ha' : if ca = 1 then aa' = some ⟨b, off, none⟩ ∧ ca' = 0 else aa' = some ⟨b, off + 2, none⟩ ∧ ca' = ca - 1)
    (hk : ∀ (b : Nat) (c : Array Value) (f : Nat × Nat), W.heap[b]? = some (Obj.cells c 54 f) → W'.heap[b]? = some (Obj.cells c 54 f)) : ActsAt W' aa' l ∧ l.length ≤ ca' ∧ (aa' = none → ca' = 0) := by
  by_cases hc : ca = 1
  · rw [if_pos hc] at ha'
    obtain ⟨rfl, rfl⟩ := ha'
    have : l = [] := List.eq_nil_of_length_eq_zero (by omega)
    subst this
    exact ⟨fun j y hj => by simp at hj, Nat.le_refl _, fun _ => rfl⟩
  · rw [if_neg hc] at ha'
    obtain ⟨rfl, rfl⟩ := ha'
    refine ⟨fun j y hj => ?_, by omega, fun e => by cases e⟩
    obtain ⟨b', off', e, ⟨c, f, hcf⟩, h1, h2⟩ := h (j + 1) y (by simpa using hj)
    rw [ha] at e
    cases e
    have h' := hk b c f hcf
    refine ⟨b, off + 2, rfl, ⟨c, f, h'⟩, ?_, ?_⟩
    · rw [show off + 2 + 2 * j = off + 2 * (j + 1) by omega]
      simp only [World.cell?] at h1 ⊢
      rw [h', ← hcf]; exact h1
    · rw [show off + 2 + 2 * j + 1 = off + 2 * (j + 1) + 1 by omega]
      simp only [World.cell?] at h2 ⊢
      rw [h', ← hcf]; exact h2
/-- From what an act took down to what the step leaves. -/
theorem stepped_of {p : Nat} {t : Tk} {k x : Int} {l : List (Int × Int)} {b off : Nat} {aa' : Option Addr} {ca' : Nat} {vt' : Value} {told' : List Int} {w W1 w2 w' : World} {cs0 cs : Array Value} (ht : TkAt (p + 1) w t) (hl : t.acts = (k, x) :: l) (haa : t.aa = some ⟨b, off, none⟩) (ha' : if t.ca = 1 then aa' = some ⟨b, off, none⟩ ∧ ca' = 0 else aa' = some ⟨b, off + 2, none⟩ ∧ ca' = t.ca - 1)
    (hp : w.heap[p]? = some (.cells cs0 83 (0, 0))) (hs1 : W1.heap.size = w.heap.size + 2) (k1 : Kb (fun b => b = t.q) w W1) (hT : Took p t.q (p + 1) t.vt W1 w2 cs (.slice aa' l.length ca') vt' told') (k2 : Kb (fun b => b = w.heap.size) w2 w') :
    Stepped p t { q := t.q, acts := l, aa := aa', ca := ca', vt := vt', told := told' } w w' cs := by
  have hps := (Array.getElem?_eq_some_iff.1 hp).1
  have hqs := (Array.getElem?_eq_some_iff.1 ht.hq).1
  have tys : ∀ b c ty f, w.heap[b]? = some (.cells c ty f) → ty ≠ 45 → t.vt.ownBlock ≠ some b := fun b c ty f hb hty e => by
    rcases ht.told.2 with ⟨ev, _⟩ | ⟨g', cap', cur, ev, _, hh, _⟩
    · rw [ev] at e; cases e
    · rw [ev] at e
      simp only [Value.ownBlock, Option.some.injEq] at e
      subst e
      rw [hb] at hh
      simp at hh
      exact hty hh.2.1
  have kall : Kb (fun b => b = p ∨ b = t.q ∨ t.vt.ownBlock = some b) w w' := by
    have k3 : Kb (fun b => b = p ∨ b = t.q ∨ t.vt.ownBlock = some b) w w2 := (k1.mono (S' := fun b => b = p ∨ b = t.q ∨ t.vt.ownBlock = some b) (fun b e => Or.inr (Or.inl e))).trans hT.kb (fun _ _ e => e)
    exact k3.trans k2 (fun b hb e => by omega)
  have hs2 : w.heap.size + 2 ≤ w2.heap.size := by have := hT.kb.size; omega
  have low : ∀ b o, b < w.heap.size → w2.heap[b]? = some o → w'.heap[b]? = some o := fun b o hb h => (k2.block b (by omega) (by omega)).trans h
  have hlies : vt'.ownBlock = t.vt.ownBlock ∨ ∃ g, vt'.ownBlock = some g ∧ w.heap.size + 2 ≤ g := by
    rcases hT.lies with h | ⟨g, h1, h2⟩
    · exact Or.inl h
    · exact Or.inr ⟨g, h1, by omega⟩
  have hl2 := acts_tail (W := w) (W' := w') (x := (k, x)) (l := l) (by rw [← hl]; exact ht.acts) haa (by have := ht.len; rw [hl] at this; simpa using this) ha' (fun b c f hb => by
    have hbs := (Array.getElem?_eq_some_iff.1 hb).1
    refine (kall.block b hbs ?_).trans hb
    rintro (e | e | e)
    · subst e; rw [hp] at hb; simp at hb
    · subst e; rw [ht.hq] at hb; simp at hb
    · exact tys b _ _ _ hb (by decide) e)
  refine ⟨low p _ hps hT.hp, ⟨low _ _ hqs hT.hq, ht.ge, hl2.1, hl2.2.1, hl2.2.2, ?_⟩, ?_, kall, fun ad e => ?_⟩
  · refine owns_same hT.told (fun g e => k2.block g (hT.told.lt g e).2 (fun e2 => ?_))
    rcases hlies with h | ⟨g', h1, h2⟩
    · have h3 : t.vt.ownBlock = some g := by rw [← h]; exact e
      have := (ht.told.lt g h3).2
      omega
    · have h3 : some g' = some g := by rw [← h1]; exact e
      simp only [Option.some.injEq] at h3
      omega
  · rcases hlies with h | ⟨g', h1, h2⟩
    · exact Or.inl h
    · exact Or.inr ⟨g', h1, by omega⟩
  · refine ⟨_, haa, ?_⟩
    by_cases hc : t.ca = 1
    · rw [if_pos hc] at ha'
      have h2 : some ad = some (⟨b, off, none⟩ : Addr) := by rw [← ha'.1]; exact e.symm
      cases h2
      rfl
    · rw [if_neg hc] at ha'
      have h2 : some ad = some (⟨b, off + 2, none⟩ : Addr) := by rw [← ha'.1]; exact e.symm
      cases h2
      rfl
/-- A step of a task whose next act takes the clock down. -/
theorem task_now (p : Nat) (t : Tk) (x : Int) (l : List (Int × Int)) (v0 v1 v2 v3 v4 v6 v7 : Value) (now : Int) (w : World) (ht : TkAt (p + 1) w t) (hl : t.acts = (4, x) :: l) (hll : l.length < 1000000) (htl : t.told.length ≤ 1000000)
    (hp : w.heap[p]? = some (.cells #[v0, v1, v2, v3, v4, .int .u64 now, v6, v7] 83 (0, 0))) :
    Calls Try.prog 24 #[.pointer (some ⟨t.q, 0, none⟩), .pointer (some ⟨p, 5, none⟩)] w fun r w' => r = .returned (.agg #[.bool (decide (l.length = 0)), .int .i64 0, .slice none 0 0]) ∧ ∃ t', t'.q = t.q ∧ t'.acts = l ∧ t'.told = t.told ++ [now] ∧ Stepped p t t' w w' #[v0, v1, v2, v3, v4, .int .u64 now, v6, v7] := by
  obtain ⟨b, off, haa, _, h0, h1⟩ := ht.acts 0 (4, x) (by rw [hl]; rfl)
  obtain ⟨aa', ca', ha'⟩ : ∃ aa' ca', if t.ca = 1 then aa' = some (⟨b, off, none⟩ : Addr) ∧ ca' = 0 else aa' = some ⟨b, off + 2, none⟩ ∧ ca' = t.ca - 1 := by
    by_cases hc : t.ca = 1
    · exact ⟨_, _, by rw [if_pos hc]; exact ⟨rfl, rfl⟩⟩
    · exact ⟨_, _, by rw [if_neg hc]; exact ⟨rfl, rfl⟩⟩
  have hq := ht.hq
  have hpq : p ≠ t.q := by have := ht.ge; omega
  have hps := (Array.getElem?_eq_some_iff.1 hp).1
  have hqs := (Array.getElem?_eq_some_iff.1 hq).1
  have htb : ∀ g, t.vt.ownBlock = some g → p + 1 ≤ g ∧ g < w.heap.size ∧ g ≠ t.q := fun g e => by
    obtain ⟨h1, h2⟩ := ht.told.lt g e
    refine ⟨h1, h2, fun e2 => ?_⟩
    rcases ht.told.2 with ⟨ev, _⟩ | ⟨g', cap', cur, ev, _, hh, _⟩
    · rw [ev] at e; cases e
    · rw [ev] at e
      simp only [Value.ownBlock, Option.some.injEq] at e
      rw [e, e2, hq] at hh
      simp at hh
  rw [haa, hl, List.length_cons] at hq
  have := actStep_cons t.q l.length b off t.ca 4 x t.vt (.pointer (some ⟨p, 5, none⟩)) w hq (by have := ht.len; rw [hl] at this; simpa using this) hll (by simpa using h0) (by simpa using h1) aa' ca' ha' 0
    (fun W1 w2 vk => vk = .slice none 0 0 ∧ W1.heap.size = w.heap.size + 2 ∧ ∃ vt', Took p t.q (p + 1) t.vt W1 w2 #[v0, v1, v2, v3, v4, .int .u64 now, v6, v7] (.slice aa' l.length ca') vt' (t.told ++ [now]))
    (fun W1 hs1 k1 hq1 => by
      have hp1 := (k1.block p hps hpq).trans hp
      have ht1 : W1.ownsRow (p + 1) 45 1 t.vt t.told.length (t.told.map nV) := owns_same ht.told (fun g e => k1.block g (htb g e).2.1 (htb g e).2.2)
      refine (do_now p t.q (p + 1) t.told.length x v0 v1 v2 v3 v4 v6 v7 _ t.vt now t.told W1 hp1 hq1 ht1 (by omega) htl).mono ?_
      rintro r w2 ⟨rfl, vt', hT⟩
      exact ⟨none, 0, 0, rfl, rfl, hs1, vt', hT⟩)
    (fun W1 w2 vk ⟨_, hs1, vt', hT⟩ => ⟨⟨vt', hT.hq⟩, hT.kb.block _ (by omega) (by
      rintro (e | e | e)
      · omega
      · omega
      · have := (htb _ e).2.1; omega), hT.kb.size⟩)
  refine this.mono ?_
  rintro r w' ⟨W1, w2, vk, rfl, hs1, k1, ⟨rfl, _, vt', hT⟩, k2⟩
  exact ⟨by simp, { q := t.q, acts := l, aa := aa', ca := ca', vt := vt', told := t.told ++ [now] }, rfl, rfl, rfl, stepped_of ht hl haa ha' hp hs1 k1 hT k2⟩
/-- A step of a task whose next act takes a draw down. -/
theorem task_draw (p : Nat) (t : Tk) (x : Int) (l : List (Int × Int)) (v0 v1 v2 v3 v4 v5 vd : Value) (draws : List Int) (fu : Nat) (w : World) (ht : TkAt (p + 1) w t) (hl : t.acts = (5, x) :: l) (hll : l.length < 1000000) (htl : t.told.length ≤ 1000000)
    (hp : w.heap[p]? = some (.cells #[v0, v1, v2, v3, v4, v5, vd, .int .u64 (fu : Nat)] 83 (0, 0))) (hd : RowAt p w vd (draws.map nV)) (hdl : draws.length ≤ 65536) (hfu : fu < 1000000) :
    Calls Try.prog 24 #[.pointer (some ⟨t.q, 0, none⟩), .pointer (some ⟨p, 5, none⟩)] w fun r w' => r = .returned (.agg #[.bool (decide (l.length = 0)), .int .i64 0, .slice none 0 0]) ∧ ∃ t' vd', t'.q = t.q ∧ t'.acts = l ∧ t'.told = t.told ++ [drawI draws fu] ∧ RowAt p w' vd' (draws.tail.map nV) ∧ Stepped p t t' w w' #[v0, v1, v2, v3, v4, v5, vd', .int .u64 (fuN draws fu : Nat)] := by
  obtain ⟨b, off, haa, _, h0, h1⟩ := ht.acts 0 (5, x) (by rw [hl]; rfl)
  obtain ⟨aa', ca', ha'⟩ : ∃ aa' ca', if t.ca = 1 then aa' = some (⟨b, off, none⟩ : Addr) ∧ ca' = 0 else aa' = some ⟨b, off + 2, none⟩ ∧ ca' = t.ca - 1 := by
    by_cases hc : t.ca = 1
    · exact ⟨_, _, by rw [if_pos hc]; exact ⟨rfl, rfl⟩⟩
    · exact ⟨_, _, by rw [if_neg hc]; exact ⟨rfl, rfl⟩⟩
  have hq := ht.hq
  have hpq : p ≠ t.q := by have := ht.ge; omega
  have hps := (Array.getElem?_eq_some_iff.1 hp).1
  have hqs := (Array.getElem?_eq_some_iff.1 hq).1
  have htb : ∀ g, t.vt.ownBlock = some g → p + 1 ≤ g ∧ g < w.heap.size ∧ g ≠ t.q := fun g e => by
    obtain ⟨h1, h2⟩ := ht.told.lt g e
    refine ⟨h1, h2, fun e2 => ?_⟩
    rcases ht.told.2 with ⟨ev, _⟩ | ⟨g', cap', cur, ev, _, hh, _⟩
    · rw [ev] at e; cases e
    · rw [ev] at e
      simp only [Value.ownBlock, Option.some.injEq] at e
      rw [e, e2, hq] at hh
      simp at hh
  rw [haa, hl, List.length_cons] at hq
  have := actStep_cons t.q l.length b off t.ca 5 x t.vt (.pointer (some ⟨p, 5, none⟩)) w hq (by have := ht.len; rw [hl] at this; simpa using this) hll (by simpa using h0) (by simpa using h1) aa' ca' ha' 0
    (fun W1 w2 vk => vk = .slice none 0 0 ∧ W1.heap.size = w.heap.size + 2 ∧ ∃ vt' vd', RowAt p w2 vd' (draws.tail.map nV) ∧ Took p t.q (p + 1) t.vt W1 w2 #[v0, v1, v2, v3, v4, v5, vd', .int .u64 (fuN draws fu : Nat)] (.slice aa' l.length ca') vt' (t.told ++ [drawI draws fu]))
    (fun W1 hs1 k1 hq1 => by
      have hp1 := (k1.block p hps hpq).trans hp
      have ht1 : W1.ownsRow (p + 1) 45 1 t.vt t.told.length (t.told.map nV) := owns_same ht.told (fun g e => k1.block g (htb g e).2.1 (htb g e).2.2)
      refine (do_draw p t.q (p + 1) t.told.length fu x v0 v1 v2 v3 v4 v5 vd _ t.vt draws t.told W1 hp1 (hd.kb hps (S := fun b => b = t.q) (fun b e => by have := ht.ge; omega) k1) hdl hfu hq1 ht1 (by omega) ⟨by have := ht.ge; omega, by omega⟩ htl).mono ?_
      rintro r w2 ⟨rfl, vt', vd', hd2, hT⟩
      exact ⟨none, 0, 0, rfl, rfl, hs1, vt', vd', hd2, hT⟩)
    (fun W1 w2 vk ⟨_, hs1, vt', vd', _, hT⟩ => ⟨⟨vt', hT.hq⟩, hT.kb.block _ (by omega) (by
      rintro (e | e | e)
      · omega
      · omega
      · have := (htb _ e).2.1; omega), hT.kb.size⟩)
  refine this.mono ?_
  rintro r w' ⟨W1, w2, vk, rfl, hs1, k1, ⟨rfl, _, vt', vd', hd2, hT⟩, k2⟩
  exact ⟨by simp, { q := t.q, acts := l, aa := aa', ca := ca', vt := vt', told := t.told ++ [drawI draws fu] }, vd', rfl, rfl, rfl, hd2.kb (by have := hT.kb.size; omega) (S := fun b => b = w.heap.size) (fun b e => by omega) k2, stepped_of ht hl haa ha' hp hs1 k1 hT k2⟩
end Go.Proofs.Ytefmhghdehokcaa
