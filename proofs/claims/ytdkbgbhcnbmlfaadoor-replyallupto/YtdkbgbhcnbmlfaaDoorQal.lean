/-
  The contract of the twin's All.
-/
import Derived.Test.YtdkbgbhcnbmlfaaDoorAlp
import Derived.Test.YtdkbgbhcnbmlfaaDoorQpr
namespace Go.Proofs.YtdkbgbhcnbmlfaaDoor
open Go.RowKit
set_option maxRecDepth 20000 in
set_option maxHeartbeats 8000000 in
theorem qall_any (s : ByteArray) (hs : s.size ≤ 2000000000000) (w : World) : Calls Tryd.prog 17 #[.string s] w fun e w' => ∃ a c, e = .returned (.tuple #[.slice a (allF s.size s.data.toList).1.length c, .int .i64 ((allF s.size s.data.toList).2.1 : Nat), .int .i64 (allF s.size s.data.toList).2.2]) ∧ w'.ownsRow w.heap.size 23 4 (.slice a (allF s.size s.data.toList).1.length c) (allF s.size s.data.toList).1.length (flR (allF s.size s.data.toList).1) ∧ Below w.heap.size w w' := by
  obtain ⟨i0, hi, hz⟩ := Option.map_eq_some_iff.1 info_rp
  simp only [Prod.mk.injEq] at hz
  obtain ⟨hz0, hz1, hz2⟩ := hz
  obtain ⟨T, hT⟩ : ∃ T, allF s.size s.data.toList = T := ⟨_, rfl⟩
  have HT : Hid (allF s.size (s.data.toList.drop 0) = T) := hT
  rw [hT]
  clear hT
  go_enter Tryd.func17, Tryd.ntmps17
  go_wp2_with fail
  go_loopw [5, 6] (fun v i wr => ∃ (k f : Nat) (acc : List Rp), k ≤ s.size ∧ s.size - k ≤ f ∧ i = .int .i64 (k : Nat) ∧ wr.ownsRow w.heap.size 23 4 v acc.length (flR acc) ∧ Hid (acc.length ≤ k) ∧ Hid (T = (acc ++ (allF f (s.data.toList.drop k)).1, k + (allF f (s.data.toList.drop k)).2.1, (allF f (s.data.toList.drop k)).2.2)) ∧ Hid (Below w.heap.size w wr)) (fun _ i _ => s.size - (intOf i).toNat)
  case atStart => exact ⟨0, s.size, [], by omega, by omega, rfl, World.ownsRow_nil _ _ _ _, Nat.le_refl _, by rw [Hid, HT.out]; simp, Below.refl _ _⟩
  case round =>
    obtain ⟨k, f, acc, hk, hf, rfl, how, HK, HE, HB⟩ := hrel
    obtain ⟨va, vc, rfl⟩ := row_form how
    obtain ⟨n, hn⟩ : ∃ n, acc.length = n := ⟨_, rfl⟩
    have HN : Hid (acc.length = n) := hn
    rw [hn] at how HK ⊢
    have HOW : Hid (wr.ownsRow w.heap.size 23 4 (.slice va n vc) n (flR acc)) := how
    clear how hn
    by_cases hlt : k < s.size
    · have hlz : (k : Int) < (s.size : Int) := by omega
      obtain ⟨g, rfl⟩ : ∃ g, f = g + 1 := ⟨f - 1, by omega⟩
      have hxl : (s.extract k s.size).data.toList = s.data.toList.drop k := by
        rw [ByteArray.data_extract, Array.toList_extract, List.extract_eq_take_drop, List.take_of_length_le]
        rw [List.length_drop, size_list]
        omega
      have hxz : (s.extract k s.size).size = s.size - k := by rw [ByteArray.size_extract]; omega
      have HC : Hid (∀ W : World, _) := fun W => qparse_any (s.extract k s.size) (by omega) W
      rw [hxl] at HC
      obtain ⟨X, hX⟩ : ∃ X, s.extract k s.size = X := ⟨_, rfl⟩
      rw [hX] at HC
      have HST : Hid ((parR (s.data.toList.drop k)).2.2 = 0 → 1 ≤ (parR (s.data.toList.drop k)).2.1 ∧ (parR (s.data.toList.drop k)).2.1 ≤ s.size - k) := by
        rw [Hid]
        intro q
        have := par_step _ q
        rw [List.length_drop, size_list] at this
        exact this
      have HDN : Hid (¬ s.data.toList.drop k = []) := by
        rw [Hid]
        intro c
        have := congrArg List.length c
        rw [List.length_drop, size_list, List.length_nil] at this
        omega
      unfold Hid at HE
      rw [allF, if_neg HDN.out, List.drop_drop] at HE
      have HE : Hid _ := HE
      obtain ⟨⟨r, m, e⟩, hR⟩ : ∃ Y, parR (s.data.toList.drop k) = Y := ⟨_, rfl⟩
      rw [hR] at HC HST HE
      clear hR HDN hxl hxz
      dsimp only at HC HST HE
      unfold rqV at HC
      dsimp only at HC
      unfold rpV at HC
      by_cases he : e = 0
      · subst he
        obtain ⟨hm1, hm2⟩ := HST.out rfl
        have HE2 : Hid (T = ((acc ++ [r]) ++ (allF g (s.data.toList.drop (k + m))).1, (k + m) + (allF g (s.data.toList.drop (k + m))).2.1, (allF g (s.data.toList.drop (k + m))).2.2)) := by
          rw [Hid, HE.out, if_pos rfl, List.append_assoc, Nat.add_assoc]
          rfl
        clear HE HST
        go_upto_region 5 with (go_at_call 15; refine (HC.out _).mono ?_; rintro e1 w1 ⟨rfl, b1⟩)
        obtain ⟨W1, hW1⟩ : ∃ W1, w1.alloc (.cells (rpA r) 23) = W1 := ⟨_, rfl⟩
        have HX1 : Hid (RpB W1 w1.heap.size r) := by rw [Hid, ← hW1]; exact block_alloc_at _ _
        have b2 : Below wr.heap.size wr W1 := by rw [← hW1]; exact b1.trans (((Below.refl _ _).alloc (Nat.le_refl _) _).mono b1.size)
        have HB1 : Hid (Below w.heap.size w W1) := HB.out.trans (b2.mono HB.out.size)
        have HOW1 : Hid (W1.ownsRow w.heap.size 23 4 (.slice va n vc) n (flR acc)) := owns_on2 HOW.out b2
        unfold rpA at hW1
        rw [hW1]
        clear hW1 b2 b1
        obtain ⟨a0, a1, a2, a3⟩ := HX1.out.cells
        have hra : Hid (∀ o, (W1.alloc o).ownsRow w.heap.size 23 4 (.slice va n vc) n (flR acc)) := fun o => World.ownsRow.alloc HOW1.out o
        have hsz := HB1.out.size
        have hnk : n ≤ 2000000000000 := by have := HK.out; omega
        go_wp2_with (at_builtin; refine wpList_append_own _ rfl (.tmp 27) (.tmp 29) 34 rfl w.heap.size 23 i0 (.agg #[.int .i64 0, .string ByteArray.empty, .string ByteArray.empty, .bool false]) 4 48 Tryd.underlying34 hi hz0 hz1 hz2 rfl (by decide) _ _ _ rfl (hra.out _) ⟨_, 0, none⟩ 1 1 (rpL r) rfl rfl (new_cells _ (rpL r) _) (rpL_one r) (by unfold maxLen; omega) (by omega) (by simp; omega) ?_)
        intro v1 w5 hown1 hgrow _
        obtain ⟨y1, cap1, rfl⟩ := row_form hown1
        have HR5 : Hid (w5.ownsRow w.heap.size 23 4 (.slice y1 (n + 1) cap1) (n + 1) (flR (acc ++ [r]))) := by
          rw [Hid, flR_app, show flR [r] = rpL r by simp [flR]]; exact hown1
        have HB5 : Hid (Below w.heap.size w w5) := (HB1.out.alloc hsz _).grown hgrow (by simp; omega) (fun i hi => (World.ownsRow.lt HOW1.out i hi).1)
        have HKK : Hid ((acc ++ [r]).length = n + 1) := by rw [Hid, List.length_append, HN.out]; rfl
        clear hown1 hgrow
        go_wp2_with fail
        go_roundw
        case rel => exact ⟨k + m, g, acc ++ [r], by omega, by omega, by go_num, by rw [HKK.out]; exact HR5.out, by rw [HKK.out]; have := HK.out; rw [Hid]; omega, HE2.out, HB5.out⟩
        case measure => simp [intOf]; omega
      · have hez : (e != 0) = true := by simp [he]
        have HE2 : Hid (T = (acc, k, e)) := by
          rw [Hid, HE.out, if_neg he, List.append_nil]
          rfl
        clear HE HST he
        go_upto_region 5 with (go_at_call 15; refine (HC.out _).mono ?_; rintro e1 w1 ⟨rfl, b1⟩)
        obtain ⟨W1, hW1⟩ : ∃ W1, w1.alloc (.cells (rpA r) 23) = W1 := ⟨_, rfl⟩
        have b2 : Below wr.heap.size wr W1 := by rw [← hW1]; exact b1.trans (((Below.refl _ _).alloc (Nat.le_refl _) _).mono b1.size)
        have HB1 : Hid (Below w.heap.size w W1) := HB.out.trans (b2.mono HB.out.size)
        have HOW1 : Hid (W1.ownsRow w.heap.size 23 4 (.slice va n vc) n (flR acc)) := owns_on2 HOW.out b2
        unfold rpA at hW1
        rw [hW1]
        clear hW1 b2 b1
        go_wp2_with fail
        go_ret3
        refine ⟨va, vc, ?_, ?_, HB1.out⟩
        · rw [HE2.out]; show _ = Ending.returned (.tuple #[.slice va acc.length vc, .int .i64 (k : Nat), .int .i64 e]); rw [HN.out]; rfl
        · rw [HE2.out]; show World.ownsRow _ _ _ _ (.slice va acc.length vc) acc.length (flR acc); rw [HN.out]; exact HOW1.out
    · have hlz : ¬ (k : Int) < (s.size : Int) := by omega
      have HE2 : Hid (T = (acc, k, 0)) := by
        rw [Hid, HE.out, List.drop_eq_nil_of_le (by rw [size_list]; omega), allF_nil, List.append_nil]
        rfl
      clear HE
      go_wp2_with fail
      go_ret3
      refine ⟨va, vc, ?_, ?_, HB.out⟩
      · rw [HE2.out]; show _ = Ending.returned (.tuple #[.slice va acc.length vc, .int .i64 (k : Nat), .int .i64 0]); rw [HN.out]; rfl
      · rw [HE2.out]; show World.ownsRow _ _ _ _ (.slice va acc.length vc) acc.length (flR acc); rw [HN.out]; exact HOW.out
end Go.Proofs.YtdkbgbhcnbmlfaaDoor
