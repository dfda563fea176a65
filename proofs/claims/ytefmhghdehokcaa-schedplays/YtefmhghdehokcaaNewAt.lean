/-
  Acts in a row of their own, of any number.
-/
import Derived.Test.YtefmhghdehokcaaLadd
namespace Go.Proofs.Ytefmhghdehokcaa
open Go.RowKit
/-- Acts in a row of their own. -/
theorem newActs_at (g n ca : Nat) (l : List (Int × Int)) (w : World) (hl : l.length = n) (hn : n * 16 ≤ 140737488355328) (h : ∀ j x, l[j]? = some x → w.cell? ⟨g, 2 * j, none⟩ = some (.int .i64 x.1) ∧ w.cell? ⟨g, 2 * j + 1, none⟩ = some (.int .i64 x.2)) (hg : g < w.heap.size) :
    Calls Try.prog 23 #[.slice (some ⟨g, 0, none⟩) n ca] w fun r w' => ∃ q g' ca', r = .returned (.pointer (some ⟨q, 0, none⟩)) ∧ w.heap.size ≤ q ∧ w.heap.size ≤ g' ∧ n ≤ ca' ∧ w'.heap[q]? = some (.cells #[.slice (some ⟨g', 0, none⟩) n ca', .slice none 0 0] 91 (0, 0)) ∧ ActsAt w' (some ⟨g', 0, none⟩) l ∧ (∃ c f, w'.heap[g']? = some (.cells c 54 f)) ∧ Below w.heap.size w w' := by
  obtain ⟨vs, hvs⟩ : ∃ vs, l.flatMap (fun x => [Value.int .i64 x.1, Value.int .i64 x.2]) = vs := ⟨_, rfl⟩
  have hfl : ∀ (l : List (Int × Int)), (l.flatMap (fun x => [Value.int .i64 x.1, Value.int .i64 x.2])).length = l.length * 2 := fun l => by
    induction l with
    | nil => rfl
    | cons a l ih => rw [List.flatMap_cons, List.length_append, ih, List.length_cons]; simp; omega
  have hat : ∀ (l : List (Int × Int)) (j : Nat) (u : Value), (l.flatMap (fun x => [Value.int .i64 x.1, Value.int .i64 x.2]))[j]? = some u → ∃ i x, l[i]? = some x ∧ ((j = 2 * i ∧ u = .int .i64 x.1) ∨ (j = 2 * i + 1 ∧ u = .int .i64 x.2)) := fun l => by
    induction l with
    | nil => intro j u hj; simp at hj
    | cons a l ih =>
      intro j u hj
      rw [List.flatMap_cons] at hj
      match j, hj with
      | 0, hj => exact ⟨0, a, rfl, Or.inl ⟨rfl, by simpa using hj.symm⟩⟩
      | 1, hj => exact ⟨0, a, rfl, Or.inr ⟨rfl, by simpa using hj.symm⟩⟩
      | j + 2, hj =>
        obtain ⟨i, x, h1, h2⟩ := ih j u (by simpa using hj)
        refine ⟨i + 1, x, by simpa using h1, ?_⟩
        rcases h2 with ⟨e, h⟩ | ⟨e, h⟩
        · exact Or.inl ⟨by omega, h⟩
        · exact Or.inr ⟨by omega, h⟩
  have hto : ∀ (l : List (Int × Int)) (i : Nat) (x : Int × Int), l[i]? = some x → (l.flatMap (fun x => [Value.int .i64 x.1, Value.int .i64 x.2]))[2 * i]? = some (.int .i64 x.1) ∧ (l.flatMap (fun x => [Value.int .i64 x.1, Value.int .i64 x.2]))[2 * i + 1]? = some (.int .i64 x.2) := fun l => by
    induction l with
    | nil => intro i x hi; simp at hi
    | cons a l ih =>
      intro i x hi
      cases i with
      | zero => simp at hi; subst hi; exact ⟨rfl, rfl⟩
      | succ i =>
        obtain ⟨h1, h2⟩ := ih i x (by simpa using hi)
        rw [List.flatMap_cons]
        exact ⟨by rw [show 2 * (i + 1) = 2 * i + 2 by omega]; simpa using h1, by rw [show 2 * (i + 1) + 1 = 2 * i + 1 + 2 by omega]; simpa using h2⟩
  have HC : Hid (Calls Try.prog 45 #[.slice (some ⟨g, 0, none⟩) n ca] w fun r w' => ∃ g' cap, r = .returned (.slice (some ⟨g', 0, none⟩) n cap) ∧ n ≤ cap ∧ w'.ownsRow w.heap.size 54 2 (.slice (some ⟨g', 0, none⟩) n cap) n vs ∧ Below w.heap.size w w') := by
    refine clone32_some ⟨g, 0, none⟩ n ca vs w (fun j u hj => ?_) hg (by rw [← hvs, hfl, hl]) (fun u hu => ?_) (by omega)
    · rw [← hvs] at hj
      obtain ⟨i, x, h1, h2⟩ := hat l j u hj
      obtain ⟨h3, h4⟩ := h i x h1
      rw [addr_add, Nat.zero_add]
      rcases h2 with ⟨e, rfl⟩ | ⟨e, rfl⟩
      · rw [e]; exact h3
      · rw [e]; exact h4
    · rw [← hvs] at hu
      simp only [List.mem_flatMap] at hu
      obtain ⟨x, _, hx⟩ := hu
      simp at hx
      rcases hx with rfl | rfl <;> rfl
  clear h
  go_enter Try.func23, Try.ntmps23
  go_wp2_with fail
  refine (HC.out).mono ?_
  rintro e w1 ⟨g', cap, rfl, hcap, ho, hB⟩
  have HO : Hid _ := ho
  have HBB : Hid _ := hB
  clear ho hB HC
  go_wp2_with fail
  go_ret
  rcases HO.out.2 with ⟨ev, _⟩ | ⟨g2, cap2, cur, ev, hb2, hh, _⟩
  · cases ev
  · cases ev
    have hgs := (Array.getElem?_eq_some_iff.1 hh).1
    refine ⟨w1.heap.size, g', cap, rfl, HBB.out.size, hb2, hcap, World.alloc_heap_new _ _, fun j x hj => ?_, ⟨cur, (0, 0), (Below.heap_alloc _ _ _ hgs).trans hh⟩, HBB.out.alloc HBB.out.size _⟩
    obtain ⟨h1, h2⟩ := hto l j x hj
    rw [hvs] at h1 h2
    have al : ∀ o k v, w1.cell? ⟨g', k, none⟩ = some v → (w1.alloc o).cell? ⟨g', k, none⟩ = some v := fun o k v h => (((Below.refl w1.heap.size w1).alloc (Nat.le_refl _) o).cell (p := ⟨g', k, none⟩) hgs).trans h
    have c1 := World.ownsRow.cells HO.out (g := g') rfl (2 * j) _ h1
    have c2 := World.ownsRow.cells HO.out (g := g') rfl (2 * j + 1) _ h2
    rw [addr_add, Nat.zero_add] at c1 c2
    refine ⟨g', 0, rfl, ⟨cur, (0, 0), (Below.heap_alloc _ _ _ hgs).trans hh⟩, ?_, ?_⟩
    · rw [Nat.zero_add]; exact al _ _ _ c1
    · rw [Nat.zero_add]; exact al _ _ _ c2
end Go.Proofs.Ytefmhghdehokcaa
