/-
  The contract of Methods.
-/
import Derived.Test.YtbpfggpljfpfcaaDoorFnd
import Derived.Test.YtbpfggpljfpfcaaDoorShs
import Derived.Sort.OwnSorted
namespace Go.Proofs.YtbpfggpljfpfcaaDoor
open Go.RowKit Go.Sort
def srtM (l : List (List UInt8)) : List (List UInt8) := l.mergeSort fun x y => decide (x ≤ y)
theorem srt_len (l : List (List UInt8)) : (srtM l).length = l.length := List.length_mergeSort _
theorem srt2 (a b : List UInt8) : srtM [a, b] = if a ≤ b then [a, b] else [b, a] := by
  unfold srtM
  by_cases h : a ≤ b
  · simp [List.mergeSort, List.MergeSort.Internal.splitInTwo, h]
  · simp [List.mergeSort, List.MergeSort.Internal.splitInTwo, h]
theorem srt1 (a : List UInt8) : srtM [a] = [a] := by unfold srtM; simp
theorem srt0 : srtM [] = [] := by unfold srtM; simp
theorem new_cells1 (W : World) (o : Obj) (l : List Value) (t : TypeId) : ∀ j x, l[j]? = some x → ((W.alloc o).alloc (.cells l.toArray t)).cell? ((⟨W.heap.size + 1, 0, none⟩ : Addr).add j) = some x := by
  have e : (W.alloc o).heap.size = W.heap.size + 1 := by simp
  rw [← e]
  exact new_cells _ _ _
theorem srt_rules (L : List (List UInt8)) : srtM ((rulesR L).map Rule.meth) = (rowsR L).map (fun r => r.1) := by
  rw [rules_eq]
  match L with
  | [] => exact srt0
  | [a] =>
    unfold rulesC rowsR
    dsimp only
    by_cases h1 : a = wSess
    · rw [if_pos h1, if_pos h1]; exact (srt2 mPost mDel).trans (if_neg (by decide))
    rw [if_neg h1, if_neg h1]
    by_cases h2 : a = wAudit
    · rw [if_pos h2, if_pos h2]; exact srt1 _
    rw [if_neg h2, if_neg h2]
    by_cases h3 : a = wStats
    · rw [if_pos h3, if_pos h3]; exact srt1 _
    rw [if_neg h3, if_neg h3]
    by_cases h4 : a = wMe
    · rw [if_pos h4, if_pos h4]; exact srt1 _
    rw [if_neg h4, if_neg h4]
    exact srt0
  | [a, b] =>
    unfold rulesC rowsR
    dsimp only
    by_cases h1 : a = wSess ∧ b ≠ []
    · rw [if_pos h1, if_pos h1]; exact (srt2 mGet mDel).trans (if_neg (by decide))
    · rw [if_neg h1, if_neg h1]; exact srt0
  | [a, b, c] =>
    unfold rulesC rowsR
    dsimp only
    by_cases h1 : a = wSess ∧ b ≠ [] ∧ c = wTouch
    · rw [if_pos h1, if_pos h1]; exact srt1 _
    rw [if_neg h1, if_neg h1]
    by_cases h2 : a = wUsers ∧ b ≠ [] ∧ c = wSess
    · rw [if_pos h2, if_pos h2]; exact (srt2 mDel mGet).trans (if_pos (by decide))
    · rw [if_neg h2, if_neg h2]; exact srt0
  | _ :: _ :: _ :: _ :: _ => exact srt0
theorem srt_rof (t : List UInt8) : srtM ((rofR t).map Rule.meth) = methR t := by
  unfold rofR methR
  by_cases h : splE t = 0
  · rw [if_pos h, if_pos h]; exact srt_rules _
  · rw [if_neg h, if_neg h]; exact srt0
theorem rof_len (t : List UInt8) : (rofR t).length ≤ 10 := by
  unfold rofR
  by_cases h : splE t = 0
  · rw [if_pos h]; exact rulesR_len _
  · rw [if_neg h]; decide
theorem strV_enc (ss : List (List UInt8)) : strV (ss.map bOf) = ss.map encStr := by
  unfold strV
  rw [List.map_map]
  rfl
/-- What Methods tells. -/
def MthP (w : World) (l : List (List UInt8)) (e : Ending) (w' : World) : Prop := ∃ a c, e = .returned (.slice a l.length c) ∧ TextsAt w' a (l.map bOf) ∧ Below w.heap.size w w'
theorem meth_snoc {RS : List Rule} {k : Nat} {r : Rule} (h : RS[k]? = some r) : strV (((RS.take (k + 1)).map Rule.meth).map bOf) = strV (((RS.take k).map Rule.meth).map bOf) ++ [.string (bOf r.meth)] := by
  rw [List.take_add_one, h]
  simp [strV]
set_option maxRecDepth 20000 in
set_option maxHeartbeats 32000000 in
theorem methods_any (s : ByteArray) (hs : s.size ≤ 140737488355328) (mx : Int) (w : World) (hm : w.cell? ⟨0, 0, none⟩ = some (.int .i64 mx)) : Calls Tryd.prog 12 #[.string s] w (MthP w (methR s.data.toList)) := by
  obtain ⟨i0, hi, hz⟩ := Option.map_eq_some_iff.1 info9
  simp only [Prod.mk.injEq] at hz
  obtain ⟨hz0, hz1, hz2⟩ := hz
  have H1 : Hid (∀ _ : Unit, _) := fun _ => rulesOf_any s hs mx w hm
  have HS : Hid (srtM ((rofR s.data.toList).map Rule.meth) = methR s.data.toList) := srt_rof _
  have hl := rof_len s.data.toList
  obtain ⟨RS, hRS⟩ : ∃ RS, rofR s.data.toList = RS := ⟨_, rfl⟩
  rw [hRS] at H1 HS hl
  obtain ⟨MR, hMR⟩ : ∃ MR, methR s.data.toList = MR := ⟨_, rfl⟩
  rw [hMR] at HS ⊢
  obtain ⟨n, hn⟩ : ∃ n, RS.length = n := ⟨_, rfl⟩
  unfold RofP at H1
  rw [hn] at H1 hl
  have HN : Hid (RS.length = n) := hn
  clear hRS hMR hn hm
  go_enter Tryd.func12, Tryd.ntmps12
  go_wp2_with fail
  refine (H1.out ()).mono ?_
  rintro e w1 ⟨a, c, l, rfl, hlf, how, _, b1⟩
  have HB1 : Hid (Below w.heap.size w w1) := b1
  have hll : l.length = n := by rw [← HN.out, ← hlf, List.length_map]
  have HRW : Hid (RowR w1 a l) := row_owns (B := w.heap.size) (c := c) (by rw [hll]; exact how)
  have HLF : Hid (l.map Prod.fst = RS) := hlf
  have HLL : Hid (l.length = n) := hll
  clear how b1 H1 hlf hll
  go_wp2_with fail
  go_loopw [3, 9] (fun v i wr => ∃ k : Nat, k ≤ n ∧ i = .int .i64 (k : Nat) ∧ wr.ownsRow w1.heap.size 9 1 v k (strV (((RS.take k).map Rule.meth).map bOf)) ∧ Hid (Below w1.heap.size w1 wr)) (fun _ i _ => n - (intOf i).toNat)
  case atStart => exact ⟨0, by omega, rfl, by rw [List.take_zero]; exact World.ownsRow_nil _ _ _ _, Below.refl _ _⟩
  case round =>
    obtain ⟨k, hk, rfl, how, HB⟩ := hrel
    obtain ⟨va, vc, rfl⟩ := row_form how
    obtain ⟨R, hR⟩ : ∃ R, strV (((RS.take k).map Rule.meth).map bOf) = R := ⟨_, rfl⟩
    rw [hR] at how
    have HOW : Hid (wr.ownsRow w1.heap.size 9 1 (.slice va k vc) k R) := how
    clear how
    by_cases hlt : k < n
    · have hlz : (k : Int) < (n : Int) := by omega
      obtain ⟨x, hx⟩ : ∃ x, l[k]? = some x := ⟨_, List.getElem?_eq_getElem (by rw [HLL.out]; exact hlt)⟩
      obtain ⟨b, off, rfl, _, c0, c1, c2, c3, c4, c5, c6, c7, c8, c9⟩ := RowR.get (RowR.below HRW.out HB.out) hx
      have hRx : RS[k]? = some x.1 := by rw [← HLF.out, List.getElem?_map, hx]; rfl
      have HSN : Hid _ := meth_snoc hRx
      rw [hR] at HSN
      have hra : Hid (∀ o o', ((wr.alloc o).alloc o').ownsRow w1.heap.size 9 1 (.slice va k vc) k R) := fun o o' => World.ownsRow.alloc (World.ownsRow.alloc HOW.out o) o'
      have hsz := HB.out.size
      have hfv := pfV_cases (partF x.1.part)
      obtain ⟨fv, hv⟩ : ∃ fv, pfV (partF x.1.part) = fv := ⟨_, rfl⟩
      rw [hv] at c7 hfv
      obtain ⟨f1, hf1⟩ : ∃ f1, (rmOf x).fr = f1 := ⟨_, rfl⟩
      obtain ⟨f2, hf2⟩ : ∃ f2, (rmOf x).fw = f2 := ⟨_, rfl⟩
      rw [hf1] at c8
      rw [hf2] at c9
      clear hv hf1 hf2 hx hRx hR
      rcases hfv with rfl | ⟨fn, rfl⟩
      all_goals
        go_wp2_with (at_builtin; go_loud (refine wpList_append_own _ rfl (.tmp 13) (.tmp 16) 28 rfl w1.heap.size 9 i0 (.string ⟨#[]⟩) 1 16 Tryd.underlying28 hi hz0 hz1 hz2 rfl (by decide) _ _ _ rfl (hra.out _ _) ⟨_, 0, none⟩ 1 1 [.string (bOf x.1.meth)] rfl rfl (new_cells1 _ _ [.string (bOf x.1.meth)] _) (strV_one [bOf x.1.meth]) (by unfold maxLen; omega) (by omega) (by simp; omega) ?_))
        intro v1 w5 hown1 hgrow _
        obtain ⟨a1, cap1, rfl⟩ := row_form hown1
        have HR5 : Hid (w5.ownsRow w1.heap.size 9 1 (.slice a1 (k + 1) cap1) (k + 1) (strV (((RS.take (k + 1)).map Rule.meth).map bOf))) := by rw [Hid, HSN.out]; exact hown1
        have HB5 : Hid (Below w1.heap.size w1 w5) := ((HB.out.alloc hsz _).alloc (by simp; omega) _).grown hgrow (by simp; omega) (fun i hi => (World.ownsRow.lt HOW.out i hi).1)
        clear hown1 hgrow
        go_wp2_with fail
        go_roundw
        case rel => exact ⟨k + 1, by omega, by go_num, HR5.out, HB5.out⟩
        case measure => simp [intOf]; omega
    · obtain rfl : k = n := by omega
      have hlz : ¬ (k : Int) < (k : Int) := by omega
      have hq := HOW.out
      rw [← hR, List.take_of_length_le (by rw [HN.out]; omega), strV_enc] at hq
      have hsl : (RS.map Rule.meth).length = k := by rw [List.length_map, HN.out]
      have HSL : Hid (MR.length = k) := by rw [Hid, ← HS.out, srt_len, hsl]
      have HBW : Hid (Below w.heap.size w wr) := HB1.out.trans (HB.out.mono HB1.out.size)
      obtain ⟨ss, hss⟩ : ∃ ss, RS.map Rule.meth = ss := ⟨_, rfl⟩
      rw [hss] at hq hsl
      have HSS : Hid (srtM ss = MR) := by rw [Hid, ← hss]; exact HS.out
      clear hR hss
      rcases hq.2 with ⟨hv, h0⟩ | ⟨g, cap, cur, hv, hbase, hb, h1, h2, h3, h4⟩
      · subst h0
        have HM0 : Hid (MR = []) := List.eq_nil_of_length_eq_zero HSL.out
        have H2 : Hid (∀ W : World, _) := fun W => Tryd.slices_Sort_string_none va vc W
        clear hq hv
        go_wp2_with fail
        refine (H2.out _).mono ?_
        rintro e w2 ⟨rfl, hw2⟩
        rw [hw2]
        clear hw2 w2
        go_wp2_with fail
        go_ret
        exact ⟨va, vc, by rw [HM0.out]; rfl, by rw [HM0.out]; exact fun j z hj => (by simp at hj), HBW.out⟩
      · rw [Value.slice.injEq] at hv
        obtain ⟨rfl, _, rfl⟩ := hv
        rw [← hsl] at h4
        have hH := holds_of_block (ss := ss) hb (by simpa using h4)
        have hg := (Array.getElem?_eq_some_iff.1 hb).1
        have H2 : Hid (∀ _ : Unit, _) := fun _ => Tryd.slices_Sort_string g 0 vc ss wr hH hg (by omega)
        rw [hsl] at H2
        have HO : Hid (∀ N os, World.ownsRow (grow (putRow encStr (Sort.ahead wr N) g 0 (srtM ss).toArray) os) w1.heap.size 9 1 (.slice (some ⟨g, 0, none⟩) k vc) k ((srtM ss).map encStr)) := fun N os => by
          have := ownsRow_sorted (n := N) (os := os) (srt_len ss) hbase hb (by rw [hsl]; exact h1) h2 h3
          rw [hsl] at this
          exact this
        have HG : Hid (∀ N os, Below w.heap.size w (grow (putRow encStr (Sort.ahead wr N) g 0 (srtM ss).toArray) os)) := fun N os => HBW.out.grown (grownBy_sorted (n := N) (os := os) _) HBW.out.size (fun q hq => by rw [← Option.some.inj hq]; exact Nat.le_trans HB1.out.size hbase)
        clear hq hbase hb h1 h2 h3 h4 hH hg
        go_wp2_with fail
        refine (H2.out ()).mono ?_
        rintro e w2 ⟨rfl, N, os, hw2⟩
        have HT : Hid (TextsAt w2 (some ⟨g, 0, none⟩) (MR.map bOf)) := by
          have h1 := HO.out N os
          have e : (srtM ss).map encStr = strV (MR.map bOf) := by rw [HSS.out, strV_enc]
          rw [e] at h1
          rw [Hid, hw2]
          exact row_texts h1
        have HB2 : Hid (Below w.heap.size w w2) := by rw [Hid, hw2]; exact HG.out N os
        clear hw2
        go_wp2_with fail
        go_ret
        exact ⟨_, _, by rw [HSL.out]; rfl, HT.out, HB2.out⟩
end Go.Proofs.YtbpfggpljfpfcaaDoor
