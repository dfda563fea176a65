/-
  The contract of All.
-/
import Derived.Test.YthhhoppmbimeiaaDoorGetC
namespace Go.Proofs.YthhhoppmbimeiaaDoor
open Go.RowKit
theorem info9 : (Tryd.prog.info? 9).map (fun i => (i.zero, i.size, i.bytes)) = some (some (.string ⟨#[]⟩), 1, 16) := by kernel_rfl
def strV (l : List ByteArray) : List Value := l.map Value.string
theorem strV_one (l : List ByteArray) : ∀ u ∈ strV l, u.oneCell' = true := by
  intro u hu
  simp only [strV, List.mem_map] at hu
  obtain ⟨c, _, rfl⟩ := hu
  rfl
theorem allF_len (name : ByteArray) (fs : List Fd) : (allF name fs).length ≤ fs.length := by
  unfold allF
  rw [List.length_map]
  exact List.length_filter_le _ _
theorem owns_on {w w' : World} {B e n : Nat} {v : Value} {xs : List Value} (h : w.ownsRow B e 1 v n xs) (b : Below w.heap.size w w') : w'.ownsRow B e 1 v n xs := by
  refine ⟨h.1, ?_⟩
  rcases h.2 with q | ⟨g, cp, cur, hv, hg, hh, rr⟩
  · exact Or.inl q
  · exact Or.inr ⟨g, cp, cur, hv, hg, (b.block g (Array.getElem?_eq_some_iff.1 hh).1).trans hh, rr⟩
set_option maxRecDepth 20000 in
set_option maxHeartbeats 4000000 in
theorem all_any (r : Rq) (B : Nat) (name : ByteArray) (w : World) (h : FA B w r.a r.fs) (hB : B ≤ w.heap.size) (hr : rqOk r) (hs : name.size ≤ 140737488355328) :
    Calls Tryd.prog 15 #[rqV r, .string name] w fun e w' => ∃ a2 c2, e = .returned (.slice a2 (allF name r.fs).length c2) ∧ w'.ownsRow w.heap.size 9 1 (.slice a2 (allF name r.fs).length c2) (allF name r.fs).length (strV (allF name r.fs)) ∧ Below w.heap.size w w' := by
  obtain ⟨met, tar, a, c, fs, body, shut⟩ := r
  simp only [rqV] at *
  obtain ⟨n, hn⟩ : ∃ n, fs.length = n := ⟨_, rfl⟩
  have hn0 : n ≤ 4398046511104 := by have := hr.1; simp only at this; omega
  have HO : Hid (∀ c ∈ fs, fdOk c) := hr.2
  have HL : Hid _ := hn
  have HC : Hid _ := h
  rw [hn]
  clear hn h hr
  obtain ⟨i0, hi, hz⟩ := Option.map_eq_some_iff.1 info9
  simp only [Prod.mk.injEq] at hz
  obtain ⟨hz0, hz1, hz2⟩ := hz
  have H1 : Hid (∀ W : World, _) := fun W => lower_any name hs W
  rw [show (⟨(name.data.toList.map lowC).toArray⟩ : ByteArray) = lowT name from rfl] at H1
  obtain ⟨nm, hnm⟩ : ∃ nm, lowT name = nm := ⟨_, rfl⟩
  rw [hnm] at H1
  have HNM : Hid _ := hnm
  clear hnm
  go_enter Tryd.func15, Tryd.ntmps15
  go_wp2_with fail
  refine (H1.out _).mono ?_
  rintro e w1 ⟨rfl, b1⟩
  have hbx : w1.cell? ⟨w.heap.size, 2, none⟩ = some (.slice a n c) := cell_of_block ((b1.block _ (by simp)).trans (block_alloc_at _ _)) rfl
  have HB1 : Hid (Below w.heap.size w w1) := ((Below.refl _ _).alloc (Nat.le_refl _) _).trans (b1.mono (by simp))
  clear b1 H1
  go_wp2_with fail
  go_loopw [5, 13] (fun v i wr => ∃ (k : Nat) (acc : List ByteArray), k ≤ n ∧ i = .int .i64 (k : Nat) ∧ wr.ownsRow w.heap.size 9 1 v acc.length (strV acc) ∧ Hid (allF name (fs.take k) = acc) ∧ Hid (Below w.heap.size w wr)) (fun _ i _ => n - (intOf i).toNat)
  case atStart => exact ⟨0, [], by omega, rfl, World.ownsRow_nil _ _ _ _, by rw [Hid, List.take_zero]; rfl, HB1.out⟩
  case round =>
    obtain ⟨k, acc, hkn, rfl, hown, HE, HB⟩ := hrel
    obtain ⟨va, vc, rfl⟩ := form_of_row hown
    by_cases hlt : k < n
    · obtain ⟨x, hx⟩ : ∃ x, fs[k]? = some x := ⟨fs[k]'(by rw [HL.out]; exact hlt), List.getElem?_eq_getElem _⟩
      have HC2 : FA B wr a fs := FA.below HC.out (fun b hb => HB.out.block b (by omega))
      obtain ⟨b, off, rfl, _, x0, x1⟩ := HC2 k x hx
      have hxo := HO.out x (List.mem_of_getElem? hx)
      have HT : Hid (allF name (fs.take (k + 1)) = acc ++ (if hitF name x = true then [x.val] else [])) := by rw [Hid, allF_take hx, HE.out]
      have HLA : Hid (acc.length ≤ k) := by
        have := allF_len name (fs.take k)
        rw [HE.out, List.length_take] at this
        rw [Hid]
        omega
      have hh : hitF name x = ((lowT x.name).toList == nm.toList) := by rw [← HNM.out]; rfl
      have H2 : Hid (∀ W : World, _) := fun W => lower_any x.name hxo.1 W
      rw [show (⟨(x.name.data.toList.map lowC).toArray⟩ : ByteArray) = lowT x.name from rfl] at H2
      obtain ⟨ln, hln⟩ : ∃ ln, lowT x.name = ln := ⟨_, rfl⟩
      rw [hln] at H2 hh
      obtain ⟨xn, xv⟩ := x
      simp only at x0 x1 H2
      have HOW : Hid _ := hown
      clear hx HC2 hxo hln hown
      cases hq : (ln.toList == nm.toList) with
      | true =>
        rw [hq] at hh
        have HR : Hid (allF name (fs.take (k + 1)) = acc ++ [xv]) := by rw [Hid, HT.out, if_pos hh]
        clear hh HT
        go_wp2_with fail
        refine (H2.out _).mono ?_
        rintro e w2 ⟨rfl, b2⟩
        have hv : w2.cell? ⟨wr.heap.size, 1, none⟩ = some (.string xv) := cell_of_block ((b2.block _ (by simp)).trans (block_alloc_at _ _)) rfl
        have HB2 : Hid (Below w.heap.size w w2) := (HB.out.alloc HB.out.size _).trans (b2.mono (by have := HB.out.size; simp; omega))
        have hown2 : w2.ownsRow w.heap.size 9 1 (.slice va acc.length vc) acc.length (strV acc) := owns_on (World.ownsRow.alloc HOW.out _) b2
        have hsz2 := HB2.out.size
        clear b2
        go_wp2_with (at_builtin; refine wpList_append_own _ rfl (.tmp 22) (.tmp 25) 33 rfl w.heap.size 9 i0 (.string ⟨#[]⟩) 1 16 Tryd.underlying33 hi hz0 hz1 hz2 rfl (by decide) _ _ _ rfl (hown2.alloc _) ⟨_, 0, none⟩ 1 1 (strV [xv]) rfl rfl (new_cells _ (strV [xv]) _) (strV_one _) (by have := HLA.out; unfold maxLen; omega) (by have := HLA.out; omega) (by simp; omega) ?_)
        intro v1 w5 hown1 hgrow _
        obtain ⟨a1, cap1, rfl⟩ := form_of_row hown1
        have HR5 : Hid (w5.ownsRow w.heap.size 9 1 (.slice a1 (acc.length + 1) cap1) (acc ++ [xv]).length (strV (acc ++ [xv]))) := by
          rw [Hid, strV, List.map_append, List.length_append]; exact hown1
        have HB5 : Hid (Below w.heap.size w w5) := (HB2.out.alloc hsz2 _).grown hgrow (by simp; omega) (fun i hi => (hown2.lt i hi).1)
        clear hown1 hgrow hown2
        go_wp2_with fail
        go_roundw
        case rel => exact ⟨k + 1, acc ++ [xv], by omega, by go_num, HR5.out, HR.out, HB5.out⟩
        case measure => simp [intOf]; omega
      | false =>
        rw [hq] at hh
        have HR : Hid (allF name (fs.take (k + 1)) = acc) := by rw [Hid, HT.out, if_neg (by rw [hh]; decide), List.append_nil]
        clear hh HT
        go_wp2_with (go_at_call 27; refine (H2.out _).mono ?_; rintro e w2 ⟨rfl, b2⟩)
        go_roundw
        case rel => exact ⟨k + 1, acc, by omega, by go_num, owns_on (World.ownsRow.alloc HOW.out _) b2, HR.out, (HB.out.alloc HB.out.size _).trans (b2.mono (by have := HB.out.size; simp; omega))⟩
        case measure => simp [intOf]; omega
    · have HT : Hid (allF name fs = acc) := by
        have := HE.out
        rw [List.take_of_length_le (by rw [HL.out]; omega)] at this
        exact this
      go_wp2_with fail
      go_ret
      rw [HT.out]
      exact ⟨va, vc, rfl, hown, HB.out⟩
end Go.Proofs.YthhhoppmbimeiaaDoor
