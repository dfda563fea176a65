/-
  New tasks, and a loop's first one.
-/
import Derived.Test.YtefmhghdehokcaaActs
namespace Go.Proofs.Ytefmhghdehokcaa
open Go.RowKit
theorem newActs_nil (w : World) : Calls Try.prog 23 #[.slice none 0 0] w fun r w' => ∃ q, r = .returned (.pointer (some ⟨q, 0, none⟩)) ∧ Below w.heap.size w w' := by
  go_enter Try.func23, Try.ntmps23
  go_wp2_with fail
  refine (clone32_nil _).mono ?_
  rintro e w1 ⟨rfl, hw⟩
  subst hw
  go_wp2_with fail
  go_ret
  exact ⟨_, rfl, (Below.refl _ _).alloc (Nat.le_refl _) _⟩
/-- Acts in a row of their own. -/
theorem newActs_some (g n ca : Nat) (l : List (Int × Int)) (w : World) (hl : l.length = n) (hn : n ≤ 1000000) (h : ∀ j x, l[j]? = some x → w.cell? ⟨g, 2 * j, none⟩ = some (.int .i64 x.1) ∧ w.cell? ⟨g, 2 * j + 1, none⟩ = some (.int .i64 x.2)) (hg : g < w.heap.size) :
    Calls Try.prog 23 #[.slice (some ⟨g, 0, none⟩) n ca] w fun r w' => ∃ q g' ca', r = .returned (.pointer (some ⟨q, 0, none⟩)) ∧ w.heap.size ≤ q ∧ w.heap.size ≤ g' ∧ n ≤ ca' ∧ w'.heap[q]? = some (.cells #[.slice (some ⟨g', 0, none⟩) n ca', .slice none 0 0] 91 (0, 0)) ∧ ActsAt w' (some ⟨g', 0, none⟩) l ∧ Below w.heap.size w w' := by
  obtain ⟨vs, hvs⟩ : ∃ vs, l.flatMap (fun x => [Value.int .i64 x.1, Value.int .i64 x.2]) = vs := ⟨_, rfl⟩
  have hfl : ∀ (l : List (Int × Int)), (l.flatMap (fun x => [Value.int .i64 x.1, Value.int .i64 x.2])).length = l.length * 2 := fun l => by
    induction l with
    | nil => rfl
    | cons a l ih => rw [List.flatMap_cons, List.length_append, ih, List.length_cons]; simp; omega
  have hat : ∀ (l : List (Int × Int)) (j : Nat) (u : Value), (l.flatMap (fun x => [Value.int .i64 x.1, Value.int .i64 x.2]))[j]? = some u → ∃ i x, l[i]? = some x ∧ ((j = 2 * i ∧ u = .int .i64 x.1) ∨ (j = 2 * i + 1 ∧ u = .int .i64 x.2)) := fun l => by
    induction l with
    | nil => intro j u hj; simp at hj
    | cons a l ih =>
      intro j u hj
      rw [List.flatMap_cons] at hj
      match j, hj with
      | 0, hj => exact ⟨0, a, rfl, Or.inl ⟨rfl, by simpa using hj.symm⟩⟩
      | 1, hj => exact ⟨0, a, rfl, Or.inr ⟨rfl, by simpa using hj.symm⟩⟩
      | j + 2, hj =>
        obtain ⟨i, x, h1, h2⟩ := ih j u (by simpa using hj)
        refine ⟨i + 1, x, by simpa using h1, ?_⟩
        rcases h2 with ⟨e, h⟩ | ⟨e, h⟩
        · exact Or.inl ⟨by omega, h⟩
        · exact Or.inr ⟨by omega, h⟩
  have hto : ∀ (l : List (Int × Int)) (i : Nat) (x : Int × Int), l[i]? = some x → (l.flatMap (fun x => [Value.int .i64 x.1, Value.int .i64 x.2]))[2 * i]? = some (.int .i64 x.1) ∧ (l.flatMap (fun x => [Value.int .i64 x.1, Value.int .i64 x.2]))[2 * i + 1]? = some (.int .i64 x.2) := fun l => by
    induction l with
    | nil => intro i x hi; simp at hi
    | cons a l ih =>
      intro i x hi
      cases i with
      | zero => simp at hi; subst hi; exact ⟨rfl, rfl⟩
      | succ i =>
        obtain ⟨h1, h2⟩ := ih i x (by simpa using hi)
        rw [List.flatMap_cons]
        exact ⟨by rw [show 2 * (i + 1) = 2 * i + 2 by omega]; simpa using h1, by rw [show 2 * (i + 1) + 1 = 2 * i + 1 + 2 by omega]; simpa using h2⟩
  have HC : Hid (Calls Try.prog 45 #[.slice (some ⟨g, 0, none⟩) n ca] w fun r w' => ∃ g' cap, r = .returned (.slice (some ⟨g', 0, none⟩) n cap) ∧ n ≤ cap ∧ w'.ownsRow w.heap.size 54 2 (.slice (some ⟨g', 0, none⟩) n cap) n vs ∧ Below w.heap.size w w') := by
    refine clone32_some ⟨g, 0, none⟩ n ca vs w (fun j u hj => ?_) hg (by rw [← hvs, hfl, hl]) (fun u hu => ?_) (by omega)
    · rw [← hvs] at hj
      obtain ⟨i, x, h1, h2⟩ := hat l j u hj
      obtain ⟨h3, h4⟩ := h i x h1
      rw [addr_add, Nat.zero_add]
      rcases h2 with ⟨e, rfl⟩ | ⟨e, rfl⟩
      · rw [e]; exact h3
      · rw [e]; exact h4
    · rw [← hvs] at hu
      simp only [List.mem_flatMap] at hu
      obtain ⟨x, _, hx⟩ := hu
      simp at hx
      rcases hx with rfl | rfl <;> rfl
  clear h
  go_enter Try.func23, Try.ntmps23
  go_wp2_with fail
  refine (HC.out).mono ?_
  rintro e w1 ⟨g', cap, rfl, hcap, ho, hB⟩
  have HO : Hid _ := ho
  have HBB : Hid _ := hB
  clear ho hB HC
  go_wp2_with fail
  go_ret
  rcases HO.out.2 with ⟨ev, _⟩ | ⟨g2, cap2, cur, ev, hb2, hh, _⟩
  · cases ev
  · cases ev
    have hgs := (Array.getElem?_eq_some_iff.1 hh).1
    refine ⟨w1.heap.size, g', cap, rfl, HBB.out.size, hb2, hcap, World.alloc_heap_new _ _, fun j x hj => ?_, HBB.out.alloc HBB.out.size _⟩
    obtain ⟨h1, h2⟩ := hto l j x hj
    rw [hvs] at h1 h2
    have al : ∀ o k v, w1.cell? ⟨g', k, none⟩ = some v → (w1.alloc o).cell? ⟨g', k, none⟩ = some v := fun o k v h => (((Below.refl w1.heap.size w1).alloc (Nat.le_refl _) o).cell (p := ⟨g', k, none⟩) hgs).trans h
    have c1 := World.ownsRow.cells HO.out (g := g') rfl (2 * j) _ h1
    have c2 := World.ownsRow.cells HO.out (g := g') rfl (2 * j + 1) _ h2
    rw [addr_add, Nat.zero_add] at c1 c2
    refine ⟨g', 0, rfl, ⟨cur, (0, 0), (Below.heap_alloc _ _ _ hgs).trans hh⟩, ?_, ?_⟩
    · rw [Nat.zero_add]; exact al _ _ _ c1
    · rw [Nat.zero_add]; exact al _ _ _ c2
theorem iface_nil (q : Nat) (w : World) : (binOp .eql 86 (.iface 58 (.pointer (some ⟨q, 0, none⟩))) .nilIface).run Try.prog w = .ok (.bool false) w := by kernel_rfl
theorem iface_nilnil (w : World) : (binOp .eql 86 .nilIface .nilIface).run Try.prog w = .ok (.bool true) w := by kernel_rfl
theorem add_none (p : Nat) (w : World) : Calls Try.prog 22 #[.pointer (some ⟨p, 0, none⟩), .nilIface] w fun r w' => r = .returned (.tuple #[.int .i64 0, .int .i64 1]) ∧ w' = w := by
  have h := iface_nilnil
  go_enter Try.func22, Try.ntmps22
  go_wp2
  go_ret2
  exact ⟨rfl, rfl⟩
set_option maxRecDepth 100000 in
set_option maxHeartbeats 4000000 in
/-- Add of a first task. -/
theorem add_first (p q : Nat) (vp vk vd : Value) (v4 v5 v7 : Value) (w : World) (hp : w.heap[p]? = some (.cells #[vp, vk, .slice none 0 0, .slice none 0 0, v4, v5, vd, v7] 83 (0, 0))) :
    Calls Try.prog 22 #[.pointer (some ⟨p, 0, none⟩), .iface 58 (.pointer (some ⟨q, 0, none⟩))] w fun r w' => ∃ vs vw, r = .returned (.tuple #[.int .i64 0, .int .i64 0]) ∧ w'.heap[p]? = some (.cells #[vp, vk, vs, vw, v4, v5, vd, v7] 83 (0, 0)) ∧ w'.ownsRow w.heap.size 86 1 vs 1 [.iface 58 (.pointer (some ⟨q, 0, none⟩))] ∧ w'.ownsRow w.heap.size 3 1 vw 1 [.int .i64 0] ∧ Kb (fun b => b = p) w w' := by
  obtain ⟨i3, hi3, z30, z31, z32⟩ := info_parts info3
  obtain ⟨i8, hi8, z80, z81, z82⟩ := info_parts info86
  have hps := (Array.getElem?_eq_some_iff.1 hp).1
  have c2 : w.cell? ⟨p, 2, none⟩ = some (.slice none 0 0) := by have := cells_of_block hp 2; simpa using this
  have hin := iface_nil q
  have HP : Hid _ := hp
  clear hp
  go_enter Try.func22, Try.ntmps22
  go_wp2_with (at_builtin; refine wpList_append_lies _ rfl (.tmp 20) (.tmp 22) 81 rfl w.heap.size 86 i8 .nilIface 1 16 Try.underlying81 hi8 z80 z81 z82 rfl (by decide) _ _ _ rfl (World.ownsRow_nil _ _ _ _) ⟨w.heap.size, 0, none⟩ 1 1 [.iface 58 (.pointer (some ⟨q, 0, none⟩))] rfl rfl (cell_one_new _ _ _) (by simp [Value.oneCell']) (by decide) (by unfold maxLen; omega) (by omega) (by simp) (w.heap.size + 1) (by simp) ?_)
  intro g cap w2 hown2 hg2 hat2 hlt2
  have hgw : g = w.heap.size + 1 := by
    rcases hat2 with h | h
    · cases h
    · exact h
  have b2 : Below w.heap.size w w2 := ((Below.refl _ w).alloc (Nat.le_refl _) _).grown hg2 (by simp) (fun i hi => by cases hi)
  have hp2 := (b2.block p hps).trans HP.out
  have c22 : w2.cell? ⟨p, 2, none⟩ = some (.slice none 0 0) := by have := cells_of_block hp2 2; simpa using this
  have f22 : w2.frozen? ⟨p, 2, none⟩ = false := by simp [World.frozen?, hp2]
  have hpY := block_set hp2 2 (.slice (some ⟨g, 0, none⟩) 1 cap)
  have oY : (w2.setCell ⟨p, 2, none⟩ (.slice (some ⟨g, 0, none⟩) 1 cap)).ownsRow w.heap.size 86 1 (.slice (some ⟨g, 0, none⟩) 1 cap) 1 [.iface 58 (.pointer (some ⟨q, 0, none⟩))] := owns_same hown2 (fun b e => Below.heap_setCell _ _ _ _ (by show b ≠ p; simp only [Value.ownBlock, Option.some.injEq] at e; omega))
  have kY : Kb (fun b => b = p) w (w2.setCell ⟨p, 2, none⟩ (.slice (some ⟨g, 0, none⟩) 1 cap)) := (Kb.of_below (S := fun b => b = p) b2).setCell rfl _ _
  obtain ⟨Y, hY⟩ : ∃ Y, w2.setCell ⟨p, 2, none⟩ (.slice (some ⟨g, 0, none⟩) 1 cap) = Y := ⟨_, rfl⟩
  rw [hY] at hpY oY kY
  have hpY' : Y.heap[p]? = some (.cells #[vp, vk, .slice (some ⟨g, 0, none⟩) 1 cap, .slice none 0 0, v4, v5, vd, v7] 83 (0, 0)) := hpY
  have y3 : Y.cell? ⟨p, 3, none⟩ = some (.slice none 0 0) := by have := cells_of_block hpY' 3; simpa using this
  have HPY : Hid _ := hpY'
  have HOY : Hid _ := oY
  have HKY : Hid _ := kY
  have hYs : w.heap.size ≤ Y.heap.size := kY.size
  have hpYs : p < Y.heap.size := by omega
  have HY : Hid _ := hY
  have HGW : Hid _ := hgw
  clear hown2 hg2 hat2 hlt2 hpY hpY' oY kY hp2 b2 hgw hY
  go_upto_region 8 with fail
  rw [HY.out]
  clear HY
  go_wp2_with (at_builtin; refine wpList_append_lies _ rfl (.tmp 30) (.tmp 31) 22 rfl w.heap.size 3 i3 (.int .i64 0) 1 8 Try.underlying22 hi3 z30 z31 z32 rfl (by decide) _ _ _ rfl (World.ownsRow_nil _ _ _ _) ⟨Y.heap.size, 0, none⟩ 1 1 [.int .i64 0] rfl rfl (cell_one_new _ _ _) (by simp [Value.oneCell']) (by decide) (by unfold maxLen; omega) (by omega) (by simp; omega) (Y.heap.size + 1) (by simp) ?_)
  intro g3 cap3 w3 hown3 hg3 hat3 hlt3
  have hgw := HGW.out
  have hgw3 : g3 = Y.heap.size + 1 := by
    rcases hat3 with h | h
    · cases h
    · exact h
  have b3 : Below Y.heap.size Y w3 := ((Below.refl _ Y).alloc (Nat.le_refl _) _).grown hg3 (by simp) (fun i hi => by cases hi)
  have hp3 := (b3.block p hpYs).trans HPY.out
  have c33 : w3.cell? ⟨p, 3, none⟩ = some (.slice none 0 0) := by have := cells_of_block hp3 3; simpa using this
  have f33 : w3.frozen? ⟨p, 3, none⟩ = false := by simp [World.frozen?, hp3]
  have hpZ : (w3.setCell ⟨p, 3, none⟩ (.slice (some ⟨g3, 0, none⟩) 1 cap3)).heap[p]? = some (.cells #[vp, vk, .slice (some ⟨g, 0, none⟩) 1 cap, .slice (some ⟨g3, 0, none⟩) 1 cap3, v4, v5, vd, v7] 83 (0, 0)) := block_set hp3 3 _
  have oZ : (w3.setCell ⟨p, 3, none⟩ (.slice (some ⟨g3, 0, none⟩) 1 cap3)).ownsRow w.heap.size 3 1 (.slice (some ⟨g3, 0, none⟩) 1 cap3) 1 [.int .i64 0] := owns_same hown3 (fun b e => Below.heap_setCell _ _ _ _ (by show b ≠ p; simp only [Value.ownBlock, Option.some.injEq] at e; omega))
  have oZ2 : (w3.setCell ⟨p, 3, none⟩ (.slice (some ⟨g3, 0, none⟩) 1 cap3)).ownsRow w.heap.size 86 1 (.slice (some ⟨g, 0, none⟩) 1 cap) 1 [.iface 58 (.pointer (some ⟨q, 0, none⟩))] := owns_same HOY.out (fun b e => (Below.heap_setCell _ _ _ _ (by show b ≠ p; simp only [Value.ownBlock, Option.some.injEq] at e; omega)).trans (b3.block b (World.ownsRow.lt HOY.out b e).2))
  have kZ : Kb (fun b => b = p) w (w3.setCell ⟨p, 3, none⟩ (.slice (some ⟨g3, 0, none⟩) 1 cap3)) := (HKY.out.trans (Kb.of_below (S := fun _ => False) b3) (fun _ _ e => e.elim)).setCell rfl _ _
  obtain ⟨Z, hZ⟩ : ∃ Z, w3.setCell ⟨p, 3, none⟩ (.slice (some ⟨g3, 0, none⟩) 1 cap3) = Z := ⟨_, rfl⟩
  rw [hZ] at hpZ oZ oZ2 kZ
  have z2 : Z.cell? ⟨p, 2, none⟩ = some (.slice (some ⟨g, 0, none⟩) 1 cap) := by have := cells_of_block hpZ 2; simpa using this
  have HPZ : Hid _ := hpZ
  have HOZ : Hid _ := oZ
  have HOZ2 : Hid _ := oZ2
  have HKZ : Hid _ := kZ
  have HZ : Hid _ := hZ
  clear hown3 hg3 hat3 hlt3 hpZ oZ oZ2 kZ hp3 b3 hgw hgw3 hZ HGW
  go_upto_region 9 with fail
  rw [HZ.out]
  clear HZ
  go_wp2_with fail
  go_ret2
  exact ⟨_, _, rfl, HPZ.out, HOZ2.out, HOZ.out, HKZ.out⟩
end Go.Proofs.Ytefmhghdehokcaa
