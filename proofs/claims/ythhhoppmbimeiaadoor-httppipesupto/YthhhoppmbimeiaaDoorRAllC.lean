/-
  The contract of the twin's All.
-/
import Derived.Test.YthhhoppmbimeiaaDoorAllC
namespace Go.Proofs.YthhhoppmbimeiaaDoor
open Go.RowKit
theorem owns_down {w : World} {B B' e n : Nat} {v : Value} {xs : List Value} (h : w.ownsRow B e 1 v n xs) (hB : B' ≤ B) : w.ownsRow B' e 1 v n xs := by
  refine ⟨h.1, ?_⟩
  rcases h.2 with q | ⟨g, cp, cur, hv, hg, rr⟩
  · exact Or.inl q
  · exact Or.inr ⟨g, cp, cur, hv, Nat.le_trans hB hg, rr⟩
set_option maxRecDepth 20000 in
set_option maxHeartbeats 4000000 in
theorem rall_any (r : Rq) (B : Nat) (name : ByteArray) (w : World) (h : FA B w r.a r.fs) (hB : B ≤ w.heap.size) (hr : rqOk r) (hs : name.size ≤ 140737488355328) :
    Calls Tryd.prog 16 #[rqV r, .string name] w fun e w' => ∃ a2 c2, e = .returned (.slice a2 (allF name r.fs).length c2) ∧ w'.ownsRow w.heap.size 9 1 (.slice a2 (allF name r.fs).length c2) (allF name r.fs).length (strV (allF name r.fs)) ∧ Below w.heap.size w w' := by
  obtain ⟨met, tar, a, c, fs, body, shut⟩ := r
  simp only [rqV] at *
  obtain ⟨n, hn⟩ : ∃ n, fs.length = n := ⟨_, rfl⟩
  have hn0 : n ≤ 4398046511104 := by have := hr.1; simp only at this; omega
  have HO : Hid (∀ c ∈ fs, fdOk c) := hr.2
  have HL : Hid _ := hn
  have HC : Hid _ := h
  rw [hn]
  clear hn h hr
  obtain ⟨i0, hi, hz⟩ := Option.map_eq_some_iff.1 info9
  simp only [Prod.mk.injEq] at hz
  obtain ⟨hz0, hz1, hz2⟩ := hz
  have H1 : Hid (∀ W : World, _) := fun W => rlower_any name hs W
  rw [show (⟨(name.data.toList.map lowC).toArray⟩ : ByteArray) = lowT name from rfl] at H1
  obtain ⟨nm, hnm⟩ : ∃ nm, lowT name = nm := ⟨_, rfl⟩
  rw [hnm] at H1
  have HNM : Hid _ := hnm
  clear hnm
  obtain ⟨W0, hW0⟩ : ∃ W0, w.alloc (.cells #[.string met, .string tar, .slice a n c, .string body, .bool shut] 24) = W0 := ⟨_, rfl⟩
  have HZ : Hid (W0.heap.size = w.heap.size + 1) := by rw [Hid, ← hW0]; simp
  have HBX : Hid (W0.heap[w.heap.size]? = some (.cells #[.string met, .string tar, .slice a n c, .string body, .bool shut] 24)) := by rw [Hid, ← hW0]; exact block_alloc_at _ _
  have HB0 : Hid (Below w.heap.size w W0) := by rw [Hid, ← hW0]; exact (Below.refl _ _).alloc (Nat.le_refl _) _
  go_enter Tryd.func16, Tryd.ntmps16
  go_wp2_with fail
  try rw [hW0]
  clear hW0
  go_loopw [5, 6] (fun v i wr => ∃ (k : Nat) (acc : List ByteArray), k ≤ n ∧ i = .int .i64 (k : Nat) ∧ wr.ownsRow W0.heap.size 9 1 v acc.length (strV acc) ∧ Hid (allF name (fs.take k) = acc) ∧ Hid (Below W0.heap.size W0 wr)) (fun _ i _ => n - (intOf i).toNat)
  case atStart => exact ⟨0, [], by omega, rfl, World.ownsRow_nil _ _ _ _, by rw [Hid, List.take_zero]; rfl, Below.refl _ _⟩
  case round =>
    obtain ⟨k, acc, hkn, rfl, hown, HE, HB⟩ := hrel
    obtain ⟨va, vc, rfl⟩ := form_of_row hown
    have hbx : wr.cell? ⟨w.heap.size, 2, none⟩ = some (.slice a n c) := cell_of_block ((HB.out.block _ (by have := HZ.out; omega)).trans HBX.out) rfl
    by_cases hlt : k < n
    · obtain ⟨x, hx⟩ : ∃ x, fs[k]? = some x := ⟨fs[k]'(by rw [HL.out]; exact hlt), List.getElem?_eq_getElem _⟩
      have HC2 : FA B wr a fs := FA.below HC.out (fun b hb => (HB.out.block b (by have := HZ.out; omega)).trans (HB0.out.block b (by omega)))
      obtain ⟨b, off, rfl, _, x0, x1⟩ := HC2 k x hx
      have hxo := HO.out x (List.mem_of_getElem? hx)
      have HT : Hid (allF name (fs.take (k + 1)) = acc ++ (if hitF name x = true then [x.val] else [])) := by rw [Hid, allF_take hx, HE.out]
      have HLA : Hid (acc.length ≤ k) := by
        have := allF_len name (fs.take k)
        rw [HE.out, List.length_take] at this
        rw [Hid]
        omega
      have hh : hitF name x = ((lowT x.name).toList == nm.toList) := by rw [← HNM.out]; rfl
      have H2 : Hid (∀ W : World, _) := fun W => rlower_any x.name hxo.1 W
      rw [show (⟨(x.name.data.toList.map lowC).toArray⟩ : ByteArray) = lowT x.name from rfl] at H2
      obtain ⟨ln, hln⟩ : ∃ ln, lowT x.name = ln := ⟨_, rfl⟩
      rw [hln] at H2 hh
      obtain ⟨xn, xv⟩ := x
      simp only at x0 x1 H2
      have HOW : Hid _ := hown
      clear hx HC2 hxo hln hown
      cases hq : (ln.toList == nm.toList) with
      | true =>
        rw [hq] at hh
        have HR : Hid (allF name (fs.take (k + 1)) = acc ++ [xv]) := by rw [Hid, HT.out, if_pos hh]
        clear hh HT
        go_wp2_with fail
        refine (H2.out _).mono ?_
        rintro e w2 ⟨rfl, b2⟩
        go_wp2_with fail
        refine (H1.out _).mono ?_
        rintro e w3 ⟨rfl, b3⟩
        have b23 : Below wr.heap.size wr w3 := b2.trans (b3.mono b2.size)
        have HB3 : Hid (Below W0.heap.size W0 w3) := HB.out.trans (b23.mono HB.out.size)
        have hbx3 : w3.cell? ⟨w.heap.size, 2, none⟩ = some (.slice (some ⟨b, off, none⟩) n c) := cell_of_block ((HB3.out.block _ (by have := HZ.out; omega)).trans HBX.out) rfl
        have x13 : w3.cell? ⟨b, off + k * 2 + 1, none⟩ = some (.string xv) := (World.cell?_of_block (b23.block b (by have := HB.out.size; have := HZ.out; omega))).trans x1
        have hown2 : w3.ownsRow W0.heap.size 9 1 (.slice va acc.length vc) acc.length (strV acc) := owns_on HOW.out b23
        have hsz2 := HB3.out.size
        clear b2 b3 b23 x0 x1 hbx
        go_wp2_with (at_builtin; refine wpList_append_own _ rfl (.tmp 24) (.tmp 31) 33 rfl W0.heap.size 9 i0 (.string ⟨#[]⟩) 1 16 Tryd.underlying33 hi hz0 hz1 hz2 rfl (by decide) _ _ _ rfl (World.ownsRow.alloc hown2 _) ⟨_, 0, none⟩ 1 1 (strV [xv]) rfl rfl (new_cells _ (strV [xv]) _) (strV_one _) (by have := HLA.out; unfold maxLen; omega) (by have := HLA.out; omega) (by simp; omega) ?_)
        intro v1 w5 hown1 hgrow _
        obtain ⟨a1, cap1, rfl⟩ := form_of_row hown1
        have HR5 : Hid (w5.ownsRow W0.heap.size 9 1 (.slice a1 (acc.length + 1) cap1) (acc ++ [xv]).length (strV (acc ++ [xv]))) := by
          rw [Hid, strV, List.map_append, List.length_append]; exact hown1
        have HB5 : Hid (Below W0.heap.size W0 w5) := (HB3.out.alloc hsz2 _).grown hgrow (by simp; omega) (fun i hi => (World.ownsRow.lt hown2 i hi).1)
        clear hown1 hgrow hown2
        go_wp2_with fail
        go_roundw
        case rel => exact ⟨k + 1, acc ++ [xv], by omega, by go_num, HR5.out, HR.out, HB5.out⟩
        case measure => simp [intOf]; omega
      | false =>
        rw [hq] at hh
        have HR : Hid (allF name (fs.take (k + 1)) = acc) := by rw [Hid, HT.out, if_neg (by rw [hh]; decide), List.append_nil]
        clear hh HT
        go_wp2_with fail
        refine (H2.out _).mono ?_
        rintro e w2 ⟨rfl, b2⟩
        go_wp2_with fail
        refine (H1.out _).mono ?_
        rintro e w3 ⟨rfl, b3⟩
        have b23 : Below wr.heap.size wr w3 := b2.trans (b3.mono b2.size)
        have HB3 : Hid (Below W0.heap.size W0 w3) := HB.out.trans (b23.mono HB.out.size)
        have hown2 : w3.ownsRow W0.heap.size 9 1 (.slice va acc.length vc) acc.length (strV acc) := owns_on HOW.out b23
        clear b2 b3 b23
        have HOW2 : Hid _ := hown2
        clear hown2
        go_wp2_with fail
        go_roundw
        case rel => exact ⟨k + 1, acc, by omega, by go_num, HOW2.out, HR.out, HB3.out⟩
        case measure => simp [intOf]; omega
    · have HT : Hid (allF name fs = acc) := by
        have := HE.out
        rw [List.take_of_length_le (by rw [HL.out]; omega)] at this
        exact this
      go_wp2_with fail
      go_ret
      rw [HT.out]
      exact ⟨va, vc, rfl, owns_down hown (by have := HZ.out; omega), HB0.out.trans (HB.out.mono (by have := HZ.out; omega))⟩
end Go.Proofs.YthhhoppmbimeiaaDoor
