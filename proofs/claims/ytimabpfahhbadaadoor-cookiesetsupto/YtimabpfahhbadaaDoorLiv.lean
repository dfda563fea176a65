/-
  The contract of lives.
-/
import Derived.Test.YtimabpfahhbadaaDoorStw
namespace Go.Proofs.YtimabpfahhbadaaDoor
open Go.RowKit
def lvV : ByteArray := ⟨#[97, 61, 49, 59, 32, 98, 61, 34, 50, 34]⟩
def lvF : List Fd := [⟨⟨#[97]⟩, ⟨#[49]⟩⟩, ⟨⟨#[98]⟩, ⟨#[34, 50, 34]⟩⟩]
def lvC : Ck := ⟨⟨#[115, 105, 100]⟩, ⟨#[120]⟩, ⟨#[47]⟩, 0, false, true, false, ⟨#[]⟩⟩
def lvT : ByteArray := ⟨#[115, 105, 100, 61, 120, 59, 32, 80, 97, 116, 104, 61, 47, 59, 32, 72, 116, 116, 112, 79, 110, 108, 121]⟩
theorem lv_fd : ((parseR lvV).1.map fun f => (f.name.data.toList, f.val.data.toList)) = [([97], [49]), ([98], [34, 50, 34])] := by decide +kernel
theorem lv_err : (parseR lvV).2 = 0 := by decide +kernel
theorem fd_eq {f : Fd} {a b : List UInt8} (h : (f.name.data.toList, f.val.data.toList) = (a, b)) : f = ⟨⟨a.toArray⟩, ⟨b.toArray⟩⟩ := by
  obtain ⟨n, v⟩ := f
  simp only [Prod.mk.injEq] at h
  rw [Fd.mk.injEq]
  exact ⟨ext_list (by rw [h.1]), ext_list (by rw [h.2])⟩
theorem lv_parse : parseR lvV = (lvF, 0) := by
  have h := lv_fd
  have e := lv_err
  cases hq : parseR lvV with
  | mk l r =>
    rw [hq] at h e
    simp only at h e
    subst e
    match l, h with
    | [f, g], h =>
      rw [List.map_cons, List.map_cons, List.map_nil, List.cons.injEq, List.cons.injEq] at h
      rw [fd_eq h.1, fd_eq h.2.1]
      rfl
theorem lv_find : findR ⟨#[98]⟩ [lvV] = (⟨#[50]⟩, true) := by
  rw [findR, lv_parse]
  decide +kernel
theorem lv_set : setR lvC = (lvT, 0) := by decide +kernel
theorem lvC_z : ckZ 1000000000 lvC := by refine ⟨?_, ?_, ?_, ?_⟩ <;> decide
set_option maxRecDepth 20000 in
set_option maxHeartbeats 4000000 in
theorem lives_any (m : Int) (w : World) (hm : w.cell? ⟨0, 0, none⟩ = some (.int .i64 m)) : Calls Tryd.prog 10 #[] w fun e w' => e = .returned (.bool true) ∧ Below w.heap.size w w' := by
  have HM : Hid (∀ W, Below w.heap.size w W → W.cell? ⟨0, 0, none⟩ = some (.int .i64 m)) := fun W b => mx_below hm b
  have H1 : Hid (∀ W, Below w.heap.size w W → _) := fun W b => parse_any lvV (by decide) m W (HM.out W b)
  rw [lv_parse] at H1
  have H2 : Hid (∀ W a, TextsAt W a [lvV] → Below w.heap.size w W → _) := fun W a ha b => find_any a 1 [lvV] ⟨#[98]⟩ m W ha (by decide) (fun l hl => by rw [List.mem_singleton] at hl; subst hl; decide) (HM.out W b)
  rw [lv_find] at H2
  have H3 : Hid (∀ W : World, _) := fun W => set_any lvC lvC_z W (fun h => by cases h)
  rw [lv_set] at H3
  simp only [lvV, lvF, lvC, ckV, lvT, List.length_cons, List.length_nil, Nat.zero_add, Nat.reduceAdd] at H1 H2 H3
  clear hm
  go_enter Tryd.func10, Tryd.ntmps10
  go_wp2_with fail
  refine (H1.out _ (Below.refl _ _)).mono ?_
  rintro e w1 ⟨pa, pc, rfl, hpo, hb1⟩
  have HB1 : Hid (Below w.heap.size w w1) := hb1
  have hFA : FA w1.heap.size w1 pa lvF := fa_row (c := pc) hpo
  obtain ⟨b, off, rfl, hbl, _, x1⟩ := hFA 1 ⟨⟨#[98]⟩, ⟨#[34, 50, 34]⟩⟩ rfl
  have hlt : b < w1.heap.size := hbl
  clear hFA hpo hb1 hbl
  obtain ⟨W2, hW2⟩ : ∃ W2, w1.alloc (.cells #[.string ⟨#[97, 61, 49, 59, 32, 98, 61, 34, 50, 34]⟩] 9) = W2 := ⟨_, rfl⟩
  have HB2 : Hid (Below w1.heap.size w1 W2) := by rw [Hid, ← hW2]; exact (Below.refl _ _).alloc (Nat.le_refl _) _
  have HT2 : Hid (TextsAt W2 (some ⟨w1.heap.size, 0, none⟩) [⟨#[97, 61, 49, 59, 32, 98, 61, 34, 50, 34]⟩]) := by
    intro j z hj
    refine ⟨w1.heap.size, 0, rfl, by rw [← hW2]; simp, ?_⟩
    match j, hj with
    | 0, hj =>
      simp only [List.getElem?_cons_zero, Option.some.injEq] at hj
      subst hj
      rw [← hW2]
      exact cell_of_block (block_alloc_at w1 _) rfl
  go_wp2_with fail
  try rw [hW2]
  refine (H2.out _ _ HT2.out (HB1.out.trans (HB2.out.mono HB1.out.size))).mono ?_
  rintro e w3 ⟨rfl, b3⟩
  have HB3 : Hid (Below w1.heap.size w1 w3) := HB2.out.trans (b3.mono HB2.out.size)
  clear b3
  go_wp2_with fail
  refine (H3.out _).mono ?_
  rintro e w4 ⟨rfl, b4⟩
  have HB4 : Hid (Below w1.heap.size w1 w4) := HB3.out.trans (b4.mono HB3.out.size)
  have y1 : w4.cell? ⟨b, off + 1 * 2 + 1, none⟩ = some (.string ⟨#[34, 50, 34]⟩) := (World.cell?_of_block (HB4.out.block b hlt)).trans x1
  rw [show off + 1 * 2 + 1 = off + 3 by omega] at y1
  have e1 : ((⟨#[34, 50, 34]⟩ : ByteArray).toList == [34, 50, 34]) = true := by decide +kernel
  clear b4 x1
  go_wp2_with fail
  go_ret
  exact ⟨rfl, HB1.out.trans (HB4.out.mono HB1.out.size)⟩
end Go.Proofs.YtimabpfahhbadaaDoor
