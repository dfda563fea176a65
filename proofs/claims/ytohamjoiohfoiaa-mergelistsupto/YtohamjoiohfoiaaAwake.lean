/-
  awake tells true.
-/
import Derived.Test.YtohamjoiohfoiaaAwake0
import Derived.Test.YtohamjoiohfoiaaSame
namespace Go.Proofs.Ytohamjoiohfoiaa
open Go.RowKit
theorem ca_lit {W : World} {x B : Nat} {l : List Cl} {cs : Array Value} (h : W.heap[x]? = some (.cells cs 24 (0, 0))) (e : cs = (flC l).toArray) (hx : x < B) : CA B W (some ⟨x, 0, none⟩) l := fun j c hj => by
  have q : ∀ i, i < 4 → W.cell? ⟨x, 0 + j * 4 + i, none⟩ = (clL c)[i]? := fun i hi => by
    rw [cells_of_block h, e, Nat.zero_add, List.getElem?_toArray, flC_get hj i hi]
  exact ⟨x, 0, rfl, hx, by simpa [clL] using q 0 (by omega), by simpa [clL] using q 1 (by omega), by simpa [clL] using q 2 (by omega), by simpa [clL] using q 3 (by omega)⟩
theorem la_lit {W : World} {x B : Nat} {ls : List Sl} (h : W.heap[x]? = some (.cells (ls.map slV).toArray 25 (0, 0))) (hx : x < B) (hc : ∀ s ∈ ls, CA B W s.a s.cs ∧ s.cs.length ≤ s.c ∧ s.cs.length < 1000000000000000) : LA B W (some ⟨x, 0, none⟩) ls := fun j s hj =>
  ⟨⟨x, 0, rfl, hx, by rw [cells_of_block h, Nat.zero_add, List.getElem?_toArray, List.getElem?_map, hj]; rfl⟩, hc s (List.mem_of_getElem? hj)⟩
/-- The first world in which Merge is asked. -/
def awW (w : World) : World := ((w.alloc (.cells #[.string ⟨#[97]⟩, .int .u64 3, .string ⟨#[]⟩, .bool false, .string ⟨#[97]⟩, .int .u64 1, .string ⟨#[]⟩, .bool false] 24)).alloc (.cells #[.string ⟨#[97]⟩, .int .u64 2, .string ⟨#[]⟩, .bool false, .string ⟨#[98]⟩, .int .u64 1, .string ⟨#[]⟩, .bool false] 24)).alloc (.cells #[.slice (some ⟨w.heap.size, 0, none⟩) 2 2, .slice (some ⟨w.heap.size + 1, 0, none⟩) 2 2] 25)
theorem awW_below (w : World) : Below w.heap.size w (awW w) := (((Below.refl _ w).alloc (Nat.le_refl _) _).alloc (by simp) _).alloc (by simp; omega) _
theorem awW_size (w : World) : (awW w).heap.size = w.heap.size + 3 := by simp [awW]
theorem aw_merge (w : World) : Calls Try.prog 15 #[.slice (some ⟨w.heap.size + 1 + 1, 0, none⟩) 2 2] (awW w) fun r w' => ∃ va vc, r = .returned (.slice va 4 vc) ∧ 4 ≤ vc ∧ CA w'.heap.size w' va awL ∧ Below (awW w).heap.size (awW w) w' := by
  have h1 : (awW w).heap[w.heap.size]? = some (.cells #[.string ⟨#[97]⟩, .int .u64 3, .string ⟨#[]⟩, .bool false, .string ⟨#[97]⟩, .int .u64 1, .string ⟨#[]⟩, .bool false] 24 (0, 0)) := by
    rw [awW, Below.heap_alloc _ _ _ (by simp; omega), Below.heap_alloc _ _ _ (by simp)]
    exact World.alloc_heap_new _ _
  have h2 : (awW w).heap[w.heap.size + 1]? = some (.cells #[.string ⟨#[97]⟩, .int .u64 2, .string ⟨#[]⟩, .bool false, .string ⟨#[98]⟩, .int .u64 1, .string ⟨#[]⟩, .bool false] 24 (0, 0)) := by
    rw [awW, Below.heap_alloc _ _ _ (by simp)]
    have := World.alloc_heap_new (w.alloc (.cells #[.string ⟨#[97]⟩, .int .u64 3, .string ⟨#[]⟩, .bool false, .string ⟨#[97]⟩, .int .u64 1, .string ⟨#[]⟩, .bool false] 24)) (.cells #[.string ⟨#[97]⟩, .int .u64 2, .string ⟨#[]⟩, .bool false, .string ⟨#[98]⟩, .int .u64 1, .string ⟨#[]⟩, .bool false] 24)
    rw [World.size_alloc] at this
    exact this
  have h3 : (awW w).heap[w.heap.size + 1 + 1]? = some (.cells #[.slice (some ⟨w.heap.size, 0, none⟩) 2 2, .slice (some ⟨w.heap.size + 1, 0, none⟩) 2 2] 25 (0, 0)) := by
    have := World.alloc_heap_new ((w.alloc (.cells #[.string ⟨#[97]⟩, .int .u64 3, .string ⟨#[]⟩, .bool false, .string ⟨#[97]⟩, .int .u64 1, .string ⟨#[]⟩, .bool false] 24)).alloc (.cells #[.string ⟨#[97]⟩, .int .u64 2, .string ⟨#[]⟩, .bool false, .string ⟨#[98]⟩, .int .u64 1, .string ⟨#[]⟩, .bool false] 24)) (.cells #[.slice (some ⟨w.heap.size, 0, none⟩) 2 2, .slice (some ⟨w.heap.size + 1, 0, none⟩) 2 2] 25)
    rw [World.size_alloc, World.size_alloc] at this
    exact this
  have hsz := awW_size w
  have hla : LA (awW w).heap.size (awW w) (some ⟨w.heap.size + 1 + 1, 0, none⟩) [⟨some ⟨w.heap.size, 0, none⟩, 2, [cA 3, cA 1]⟩, ⟨some ⟨w.heap.size + 1, 0, none⟩, 2, [cA 2, cB 1]⟩] := by
    refine la_lit h3 (by omega) (fun s hs => ?_)
    simp only [List.mem_cons, List.not_mem_nil, or_false] at hs
    rcases hs with rfl | rfl
    · exact ⟨ca_lit h1 rfl (by omega), by simp, by simp⟩
    · exact ⟨ca_lit h2 rfl (by omega), by simp, by simp⟩
  refine Calls.mono (merge_any 2 2 _ _ (awW w) hla rfl (by omega) (by rw [aw_outM]; decide)) ?_
  rintro r w' ⟨v, rfl, hr, hb⟩
  rw [aw_out] at hr
  obtain ⟨va, vc, rfl, hc, hca⟩ := ca_row hr
  exact ⟨va, vc, rfl, hc, hca, hb⟩
set_option maxRecDepth 100000 in
set_option maxHeartbeats 4000000 in
theorem awake_any (w : World) : Calls Try.prog 9 #[] w fun r w' => r = .returned (.bool true) ∧ Below w.heap.size w w' := by
  have hnl : ∀ (n : Nat) (lb : Array Value) (W : World), (binOp .neq 37 (.func (.func n) #[] lb) .nilFunc).run Try.prog W = .ok (.bool true) W := fun _ _ _ => rfl
  go_enter Try.func9, Try.ntmps9
  go_wp2_with fail
  refine Calls.mono (aw_merge w) ?_
  rintro e w2 ⟨va, vc, rfl, hvc, hca, b2⟩
  have HB2 : Hid (Below w.heap.size w w2) := (awW_below w).trans (b2.mono (awW_below w).size)
  have HX : Hid (∀ V, Below w2.heap.size w2 V → CA V.heap.size V va awL) := fun V hV => (hca.below (fun b hb => hV.block b hb)).up hV.size
  have HB3 : Hid (Below w2.heap.size w2 (w2.alloc (.cells #[.string ⟨#[97]⟩, .int .u64 3, .string ⟨#[]⟩, .bool false, .string ⟨#[97]⟩, .int .u64 2, .string ⟨#[]⟩, .bool false, .string ⟨#[97]⟩, .int .u64 1, .string ⟨#[]⟩, .bool false, .string ⟨#[98]⟩, .int .u64 1, .string ⟨#[]⟩, .bool false] 24))) := (Below.refl _ w2).alloc (Nat.le_refl _) _
  have H16 : Hid (Calls Try.prog 16 #[.slice va 4 vc, .slice (some ⟨w2.heap.size, 0, none⟩) 4 4] (w2.alloc (.cells #[.string ⟨#[97]⟩, .int .u64 3, .string ⟨#[]⟩, .bool false, .string ⟨#[97]⟩, .int .u64 2, .string ⟨#[]⟩, .bool false, .string ⟨#[97]⟩, .int .u64 1, .string ⟨#[]⟩, .bool false, .string ⟨#[98]⟩, .int .u64 1, .string ⟨#[]⟩, .bool false] 24)) fun r w' => r = .returned (.bool true) ∧ Below w2.heap.size w2 w') :=
    Calls.mono (same_eq va _ 4 vc 4 awL _ (HX.out _ HB3.out) (ca_lit (World.alloc_heap_new w2 _) rfl (by simp)) rfl (by omega)) (by
      rintro r w' ⟨rfl, q, rfl⟩
      exact ⟨rfl, HB3.out.trans ((belD _ q).mono HB3.out.size)⟩)
  have H12 : Hid (∀ V, Below w2.heap.size w2 V → Calls Try.prog 12 #[.slice va 4 vc] V fun r w' => r = .returned (.bool true) ∧ Below w2.heap.size w2 w') := fun V hV =>
    Calls.mono (sorted_any _ 4 vc va awL V (HX.out V hV) rfl (Nat.le_refl _) (by omega)) (by
      rintro r w' ⟨rfl, b⟩
      exact ⟨by rw [aw_sorted], hV.trans (b.mono hV.size)⟩)
  have H19 : Hid (∀ V, Below w2.heap.size w2 V → Calls Try.prog 19 #[.slice va 4 vc, .int .u64 2] V fun r w' => (∃ xa xc, r = .returned (.slice xa 2 xc)) ∧ Below w2.heap.size w2 w') := fun V hV =>
    Calls.mono (visible_any va 4 vc 2 awL V (HX.out V hV) rfl hvc (by omega)) (by
      rintro r w' ⟨v, rfl, hr, b⟩
      rw [aw_vis] at hr
      obtain ⟨xa, xc, rfl⟩ := row_form4 hr
      exact ⟨⟨xa, xc, rfl⟩, hV.trans (b.mono hV.size)⟩)
  have H21 : Hid (∀ V, Below w2.heap.size w2 V → Calls Try.prog 21 #[.slice va 4 vc, .int .u64 2, .bool false] V fun r w' => (∃ xa xc, r = .returned (.slice xa 3 xc)) ∧ Below w2.heap.size w2 w') := fun V hV =>
    Calls.mono (drop_any va 4 vc 2 false awL V (HX.out V hV) rfl hvc (by omega)) (by
      rintro r w' ⟨v, rfl, hr, b⟩
      rw [aw_drp] at hr
      obtain ⟨xa, xc, rfl⟩ := row_form4 hr
      exact ⟨⟨xa, xc, rfl⟩, hV.trans (b.mono hV.size)⟩)
  have H18 : Hid (∀ V, Below w2.heap.size w2 V → Calls Try.prog 18 #[.slice (some ⟨V.heap.size, 0, none⟩) 1 1] (V.alloc (.cells #[.slice va 4 vc] 25)) fun r w' => (∃ n8 lb, r = .returned (.func (.func n8) #[] lb)) ∧ Below w2.heap.size w2 w') := fun V hV => by
    have hW : Below w2.heap.size w2 (V.alloc (.cells #[.slice va 4 vc] 25)) := hV.trans (((Below.refl _ V).alloc (Nat.le_refl _) _).mono hV.size)
    refine Calls.mono (cells_any 1 1 _ [⟨va, vc, awL⟩] _ (la_lit (World.alloc_heap_new V _) (by simp) (fun s hs => ?_)) rfl (by omega) (fun s hs => ?_)) ?_
    · simp only [List.mem_cons, List.not_mem_nil, or_false] at hs
      subst hs
      exact ⟨HX.out _ hW, hvc, by simp [awL]⟩
    · simp only [List.mem_cons, List.not_mem_nil, or_false] at hs
      subst hs
      simp [awL]
    · rintro r w' ⟨ls', c0, a', rfl, _, _, _, _, b⟩
      refine ⟨?_, hW.trans (b.mono hW.size)⟩
      cases allS ls'
      · exact ⟨_, _, rfl⟩
      · exact ⟨_, _, rfl⟩
  have H23 : Hid (∀ V, Below w2.heap.size w2 V → Calls Try.prog 23 #[.slice va 4 vc, .int .i64 1] V fun r w' => (∃ xa xc, r = .returned (.slice xa 2 xc)) ∧ Below w2.heap.size w2 w') := fun V hV =>
    Calls.mono (cut_any va 4 vc 1 awL V (HX.out V hV) rfl hvc (by omega)) (by
      rintro r w' ⟨v, rfl, ⟨vs, hr, _⟩, b⟩
      rw [aw_cut] at hr
      obtain ⟨xa, xc, rfl⟩ := row_form4 hr
      exact ⟨⟨xa, xc, rfl⟩, hV.trans (b.mono hV.size)⟩)
  clear hca b2 hvc HX
  go_wp2_with (first
    | (go_at_call 16; refine Calls.mono H16.out ?_; rintro e w4 ⟨rfl, b4⟩; have HB4 : Hid _ := b4; clear b4)
    | (go_at_call 12; refine Calls.mono (H12.out _ HB4.out) ?_; rintro e w5 ⟨rfl, b5⟩; have HB5 : Hid _ := b5; clear b5)
    | (go_at_call 19; refine Calls.mono (H19.out _ HB5.out) ?_; rintro e w6 ⟨⟨xa6, xc6, rfl⟩, b6⟩; have HB6 : Hid _ := b6; clear b6)
    | (go_at_call 21; refine Calls.mono (H21.out _ HB6.out) ?_; rintro e w7 ⟨⟨xa7, xc7, rfl⟩, b7⟩; have HB7 : Hid _ := b7; clear b7)
    | (go_at_call 18; refine Calls.mono (H18.out _ HB7.out) ?_; rintro e w8 ⟨⟨i8, c8, rfl⟩, b8⟩; have HB8 : Hid _ := b8; clear b8)
    | (go_at_call 23; refine Calls.mono (H23.out _ HB8.out) ?_; rintro e w9 ⟨⟨xa9, xc9, rfl⟩, b9⟩; have HB9 : Hid _ := b9; clear b9))
  go_ret
  exact ⟨rfl, HB2.out.trans (HB9.out.mono HB2.out.size)⟩
end Go.Proofs.Ytohamjoiohfoiaa
