/-
  The contract of the twin's split.
-/
import Derived.Test.YtimabpfahhbadaaDoorRdp
namespace Go.Proofs.YtimabpfahhbadaaDoor
open Go.RowKit
theorem sub_sub (s : ByteArray) (a b i j : Nat) (h : a + j ≤ b) : (s.extract a b).extract i j = s.extract (a + i) (a + j) := by
  apply ext_list
  rw [sub_list, sub_list, sub_list, List.drop_take, List.drop_drop, List.take_take]
  congr 1
  omega
theorem size_sub {s : ByteArray} {a : Nat} : (s.extract a s.size).size = s.size - a := by rw [ByteArray.size_extract]; omega
theorem sepAt_sub {s : ByteArray} {f j : Nat} : sepAt (s.extract f s.size) j ↔ sepAt s (f + j) := by
  unfold sepAt
  rw [size_sub]
  by_cases h : f + j + 1 < s.size
  · rw [byteAt_sub (Nat.le_refl _) (by omega), byteAt_sub (Nat.le_refl _) (by omega), Nat.add_assoc]
    omega
  · omega
theorem parts_at {s : ByteArray} {f k : Nat} (hfk : f ≤ k) (h : sepAt s k) (h0 : ∀ j, f ≤ j → j < k → ¬ sepAt s j) : parts (s.extract f s.size) = s.extract f k :: parts (s.extract (k + 2) s.size) := by
  have hk := h.1
  have h1 : sepAt (s.extract f s.size) (k - f) := sepAt_sub.2 (by rw [show f + (k - f) = k by omega]; exact h)
  have h2 : ∀ j, j < k - f → ¬ sepAt (s.extract f s.size) j := fun j hj hq => h0 (f + j) (by omega) (by omega) (sepAt_sub.1 hq)
  rw [parts_some h1 h2, size_sub, sub_sub _ _ _ _ _ (by omega), sub_sub _ _ _ _ _ (by omega)]
  rw [show f + 0 = f from rfl, show f + (k - f) = k by omega, show f + (k - f + 2) = k + 2 by omega, show f + (s.size - f) = s.size by omega]
theorem parts_end {s : ByteArray} {f : Nat} (h0 : ∀ j, f ≤ j → ¬ sepAt s j) : parts (s.extract f s.size) = [s.extract f s.size] :=
  parts_none fun j hj => h0 (f + j) (by omega) (sepAt_sub.1 hj)
theorem strV_snoc (l : List ByteArray) (x : ByteArray) : strV (l ++ [x]) = strV l ++ strV [x] := by simp [strV]
set_option maxRecDepth 20000 in
set_option maxHeartbeats 8000000 in
theorem qsplit_any (s : ByteArray) (hs : s.size ≤ 1000000000) (w : World) :
    Calls Tryd.prog 22 #[.string s] w fun e w' => ∃ a c, e = .returned (.slice a (parts s).length c) ∧ w'.ownsRow w.heap.size 9 1 (.slice a (parts s).length c) (parts s).length (strV (parts s)) ∧ Below w.heap.size w w' := by
  obtain ⟨i0, hi, hz⟩ := Option.map_eq_some_iff.1 info9
  simp only [Prod.mk.injEq] at hz
  obtain ⟨hz0, hz1, hz2⟩ := hz
  obtain ⟨T, hT⟩ : ∃ T, parts s = T := ⟨_, rfl⟩
  have HT : Hid _ := hT
  rw [hT]
  clear hT
  go_enter Tryd.func22, Tryd.ntmps22
  go_wp2_with fail
  go_loopw [3, 4, 5] (fun v f i wr => ∃ (k g n : Nat) (acc : List ByteArray), k ≤ s.size ∧ g ≤ k ∧ n ≤ k ∧ i = .int .i64 (k : Nat) ∧ f = .int .i64 (g : Nat) ∧ wr.ownsRow w.heap.size 9 1 v n (strV acc) ∧ Hid (acc.length = n) ∧ Hid (T = acc ++ parts (s.extract g s.size)) ∧ Hid (∀ j, g ≤ j → j < k → ¬ sepAt s j) ∧ Hid (Below w.heap.size w wr)) (fun _ _ i _ => s.size - (intOf i).toNat)
  case atStart => exact ⟨0, 0, 0, [], by omega, by omega, by omega, rfl, rfl, World.ownsRow_nil _ _ _ _, rfl, by rw [Hid, sub_whole, ← HT.out]; rfl, fun j _ hj => by omega, Below.refl _ _⟩
  case round =>
    obtain ⟨k, g, n, acc, hks, hgk, hnk, rfl, rfl, hown, HL, HE, HN, HB⟩ := hrel
    obtain ⟨va, vc, rfl⟩ := form_of_row hown
    have HOW : Hid _ := hown
    clear hown
    have hsz := HB.out.size
    by_cases hlt : k + 1 < s.size
    · have hlz : (k : Int) + 1 < (s.size : Int) := by omega
      have r0 := fun W => run_byte s (i := k) (z := (k : Int)) rfl (by omega) W
      have r1 := fun W => run_byte s (i := k + 1) (z := (k : Int) + 1) (by omega) (by omega) W
      have hsep : sepAt s k ↔ byteAt s k = 59 ∧ byteAt s (k + 1) = 32 := ⟨fun h => h.2, fun h => ⟨hlt, h⟩⟩
      have HS : Hid _ := hsep
      obtain ⟨x, hx⟩ : ∃ x, byteAt s k = x := ⟨_, rfl⟩
      obtain ⟨y, hy⟩ : ∃ y, byteAt s (k + 1) = y := ⟨_, rfl⟩
      rw [hx] at r0 HS
      rw [hy] at r1 HS
      clear hsep hx hy
      have HV : Hid (¬ (x = 59 ∧ y = 32) → ∀ j, g ≤ j → j < k + 1 → ¬ sepAt s j) := fun hno j h1 h2 => by
        rcases Nat.lt_succ_iff_lt_or_eq.1 h2 with h | rfl
        · exact HN.out j h1 h
        · exact fun hq => hno (HS.out.1 hq)
      by_cases hx : x = 59
      · by_cases hy : y = 32
        · have HP : Hid (T = (acc ++ [s.extract g k]) ++ parts (s.extract (k + 2) s.size)) := by
            rw [Hid, HE.out, parts_at hgk (HS.out.2 ⟨hx, hy⟩) HN.out, List.append_assoc]
            rfl
          subst hx hy
          have q1 : (g : Int) ≤ (k : Int) := by omega
          have q2 : (k : Int) ≤ (s.size : Int) := by omega
          have q3 : (0 : Int) ≤ (g : Int) := by omega
          have hra : Hid (∀ o, (wr.alloc o).ownsRow w.heap.size 9 1 (.slice va n vc) n (strV acc)) := fun o => World.ownsRow.alloc HOW.out o
          clear HS HV
          go_wp2_with (at_builtin; refine wpList_append_own _ rfl (.tmp 24) (.tmp 29) 32 rfl w.heap.size 9 i0 (.string ⟨#[]⟩) 1 16 Tryd.underlying32 hi hz0 hz1 hz2 rfl (by decide) _ _ _ rfl (hra.out _) ⟨_, 0, none⟩ 1 1 (strV [s.extract g k]) rfl rfl (new_cells _ (strV [s.extract g k]) _) (strV_one _) (by unfold maxLen; omega) (by omega) (by simp; omega) ?_)
          intro v1 w5 hown1 hgrow _
          obtain ⟨a1, cap1, rfl⟩ := form_of_row hown1
          have HR5 : Hid (w5.ownsRow w.heap.size 9 1 (.slice a1 (n + 1) cap1) (n + 1) (strV (acc ++ [s.extract g k]))) := by
            rw [Hid, strV_snoc]; exact hown1
          have HB5 : Hid (Below w.heap.size w w5) := (HB.out.alloc hsz _).grown hgrow (by simp; omega) (fun i hi => (World.ownsRow.lt HOW.out i hi).1)
          have HLL : Hid ((acc ++ [s.extract g k]).length = n + 1) := by rw [Hid, List.length_append, HL.out]; rfl
          clear hown1 hgrow
          go_wp2_with fail
          go_roundw
          case rel => exact ⟨k + 2, k + 2, n + 1, _, by omega, by omega, by omega, by go_num, by go_num, HR5.out, HLL.out, HP.out, fun j h1 h2 => by omega, HB5.out⟩
          case measure => simp [intOf]; omega
        · have HV2 : Hid (∀ j, g ≤ j → j < k + 1 → ¬ sepAt s j) := HV.out (fun h => hy h.2)
          have q0 : ((y : Int) == 32) = false := by simp; omega
          have q1 : ¬ (y : Int) = 32 := by omega
          subst hx
          clear HS HV hy
          go_wp2_with fail
          go_roundw
          case rel => exact ⟨k + 1, g, n, acc, by omega, by omega, by omega, by go_num, rfl, HOW.out, HL.out, HE.out, HV2.out, HB.out⟩
          case measure => simp [intOf]; omega
      · have HV2 : Hid (∀ j, g ≤ j → j < k + 1 → ¬ sepAt s j) := HV.out (fun h => hx h.1)
        have q0 : ((x : Int) == 59) = false := by simp; omega
        have q1 : ¬ (x : Int) = 59 := by omega
        clear HS HV hx
        go_wp2_with fail
        go_roundw
        case rel => exact ⟨k + 1, g, n, acc, by omega, by omega, by omega, by go_num, rfl, HOW.out, HL.out, HE.out, HV2.out, HB.out⟩
        case measure => simp [intOf]; omega
    · have hlz : ¬ (k : Int) + 1 < (s.size : Int) := by omega
      have HP : Hid (T = acc ++ [s.extract g s.size]) := by
        rw [Hid, HE.out, parts_end fun j h1 hq => ?_]
        by_cases hjk : j < k
        · exact HN.out j h1 hjk hq
        · have := hq.1; omega
      have q1 : (g : Int) ≤ (s.size : Int) := by omega
      have q3 : (0 : Int) ≤ (g : Int) := by omega
      have hra : Hid (∀ o, (wr.alloc o).ownsRow w.heap.size 9 1 (.slice va n vc) n (strV acc)) := fun o => World.ownsRow.alloc HOW.out o
      go_wp2_with (at_builtin; refine wpList_append_own _ rfl (.tmp 35) (.tmp 39) 32 rfl w.heap.size 9 i0 (.string ⟨#[]⟩) 1 16 Tryd.underlying32 hi hz0 hz1 hz2 rfl (by decide) _ _ _ rfl (hra.out _) ⟨_, 0, none⟩ 1 1 (strV [s.extract g s.size]) rfl rfl (new_cells _ (strV [s.extract g s.size]) _) (strV_one _) (by unfold maxLen; omega) (by omega) (by simp; omega) ?_)
      intro v1 w5 hown1 hgrow _
      obtain ⟨a1, cap1, rfl⟩ := form_of_row hown1
      have HR5 : Hid (w5.ownsRow w.heap.size 9 1 (.slice a1 (n + 1) cap1) (n + 1) (strV (acc ++ [s.extract g s.size]))) := by
        rw [Hid, strV_snoc]; exact hown1
      have HB5 : Hid (Below w.heap.size w w5) := (HB.out.alloc hsz _).grown hgrow (by simp; omega) (fun i hi => (World.ownsRow.lt HOW.out i hi).1)
      have HLL : Hid (T.length = n + 1) := by rw [Hid, HP.out, List.length_append, HL.out]; rfl
      clear hown1 hgrow
      go_wp2_with fail
      go_ret
      refine ⟨a1, cap1, ?_, ?_, HB5.out⟩
      · rw [HLL.out]; rfl
      · rw [HLL.out, HP.out]; exact HR5.out
end Go.Proofs.YtimabpfahhbadaaDoor
