/-
  The contracts of the twin's find and cut.
-/
import Derived.Test.YtbpfggpljfpfcaaDoorRts
namespace Go.Proofs.YtbpfggpljfpfcaaDoor
open Go.RowKit
theorem ahd_step {c x : UInt8} (h : x ≠ c) (l : List UInt8) : ahd c (x :: l) = x :: ahd c l := by
  unfold ahd
  rw [List.takeWhile_cons_of_pos (by simp [h])]
theorem ahd_stop (c : UInt8) (l : List UInt8) : ahd c (c :: l) = [] := by simp [ahd]
theorem drop_at {s : ByteArray} {k x : Nat} (h : k < s.size) (hx : byteAt s k = x) : s.data.toList.drop k = UInt8.ofNat x :: s.data.toList.drop (k + 1) := by rw [byteAt_drop h, hx]
theorem u8_ne {c : UInt8} {x : Nat} (hx : x < 256) (h : ¬ x = c.toNat) : UInt8.ofNat x ≠ c := fun e => h (by rw [← e, UInt8.toNat_ofNat_of_lt' hx])
theorem u8_eq {c : UInt8} {x : Nat} (h : x = c.toNat) : UInt8.ofNat x = c := by rw [h]; exact UInt8.ofNat_toNat
set_option maxRecDepth 20000 in
set_option maxHeartbeats 4000000 in
theorem qfind_any (s : ByteArray) (c : UInt8) (hs : s.size ≤ 140737488355328) (w : World) : Calls Tryd.prog 35 #[.string s, .int .u8 (c.toNat : Int)] w fun e w' => e = .returned (.int .i64 ((ahd c s.data.toList).length : Nat)) ∧ w' = w := by
  have HL : Hid (s.data.toList.length = s.size) := size_list' s
  obtain ⟨T, hT⟩ : ∃ T, (ahd c s.data.toList).length = T := ⟨_, rfl⟩
  have HT : Hid (0 + (ahd c (s.data.toList.drop 0)).length = T) := by rw [Hid, Nat.zero_add]; exact hT
  rw [hT]
  clear hT
  have hcb := c.toNat_lt
  obtain ⟨cn, hcn⟩ : ∃ cn, c.toNat = cn := ⟨_, rfl⟩
  have HCN : Hid (c.toNat = cn) := hcn
  rw [hcn] at hcb ⊢
  clear hcn
  go_enter Tryd.func35, Tryd.ntmps35
  go_wp2_with fail
  go_loopw [5] (fun i wr => ∃ k : Nat, k ≤ s.size ∧ i = .int .i64 (k : Nat) ∧ Hid (k + (ahd c (s.data.toList.drop k)).length = T) ∧ wr = w) (fun i _ => s.size - (intOf i).toNat)
  case atStart => exact ⟨0, by omega, rfl, HT.out, rfl⟩
  case round =>
    obtain ⟨k, hk, rfl, HE, rfl⟩ := hrel
    by_cases hlt : k < s.size
    · have hlz : (k : Int) < (s.size : Int) := by omega
      have r0 := fun W => run_byte s (i := k) (z := (k : Int)) rfl hlt W
      have hbl := byteAt_lt s k
      obtain ⟨x, hx⟩ : ∃ x, byteAt s k = x := ⟨_, rfl⟩
      have HD : Hid _ := drop_at hlt hx
      rw [hx] at r0 hbl
      clear hx
      by_cases hc : x = cn
      · have hcz : ((x : Int) == (cn : Int)) = true := by rw [beq_iff_eq]; omega
        have HQ : Hid (k = T) := by
          rw [Hid, ← HE.out, HD.out, u8_eq (hc.trans HCN.out.symm), ahd_stop]
          rfl
        clear hc
        go_wp2_with fail
        go_ret
        exact ⟨by rw [← HQ.out]; rfl, rfl⟩
      · have hcz : ((x : Int) == (cn : Int)) = false := by rw [beq_eq_false_iff_ne]; omega
        have HQ : Hid (k + 1 + (ahd c (s.data.toList.drop (k + 1))).length = T) := by
          rw [Hid, ← HE.out, HD.out, ahd_step (u8_ne hbl (fun e => hc (e.trans HCN.out))), List.length_cons]
          omega
        clear hc
        go_wp2_with fail
        go_roundw
        case rel => exact ⟨k + 1, by omega, by go_num, HQ.out, by first | rfl | trivial⟩
        case measure => simp [intOf]; omega
    · have hlz : ¬ (k : Int) < (s.size : Int) := by omega
      have HQ : Hid (s.size = T) := by
        rw [Hid, ← HE.out, List.drop_eq_nil_of_le (by rw [HL.out]; omega)]
        simp [ahd]
        omega
      go_wp2_with fail
      go_ret
      exact ⟨by rw [← HQ.out]; rfl, rfl⟩
/-- How far the twin's cut has come. -/
def CutP (c : UInt8) (s : ByteArray) (T : List (List UInt8)) (i f : Nat) (acc : List (List UInt8)) : Prop := (i ≤ s.size ∧ f ≤ i ∧ acc ++ cutA c ((s.data.toList.drop f).take (i - f)) (s.data.toList.drop i) = T) ∨ (i = s.size + 1 ∧ acc = T)
theorem CutP.go {c : UInt8} {s : ByteArray} {T acc : List (List UInt8)} {i f x : Nat} (h : CutP c s T i f acc) (hi : i < s.size) (hx : byteAt s i = x) (hc : ¬ x = c.toNat) : CutP c s T (i + 1) f acc := by
  rcases h with ⟨h1, h2, h3⟩ | ⟨h1, _⟩
  · refine Or.inl ⟨by omega, by omega, ?_⟩
    have hb := byteAt_lt s i
    rw [hx] at hb
    rw [drop_at hi hx, cutA_on (u8_ne hb hc)] at h3
    rw [← h3]
    congr 2
    have hl : i < s.data.toList.length := by rw [size_list']; exact hi
    have he : s.data.toList[i] = UInt8.ofNat x := by
      have := drop_at hi hx
      rw [List.drop_eq_getElem_cons hl] at this
      exact (List.cons.inj this).1
    rw [show i + 1 - f = (i - f) + 1 by omega, List.take_add_one, List.getElem?_drop, show f + (i - f) = i by omega, List.getElem?_eq_getElem hl, he]
    rfl
  · omega
theorem CutP.hit {c : UInt8} {s : ByteArray} {T acc : List (List UInt8)} {i f x : Nat} (h : CutP c s T i f acc) (hi : i < s.size) (hx : byteAt s i = x) (hc : x = c.toNat) : CutP c s T (i + 1) (i + 1) (acc ++ [(s.data.toList.drop f).take (i - f)]) := by
  rcases h with ⟨h1, h2, h3⟩ | ⟨h1, _⟩
  · refine Or.inl ⟨by omega, by omega, ?_⟩
    rw [drop_at hi hx, u8_eq hc, cutA_hit] at h3
    rw [← h3, Nat.sub_self, List.take_zero, List.append_assoc]
    rfl
  · omega
theorem CutP.last {c : UInt8} {s : ByteArray} {T acc : List (List UInt8)} {i f : Nat} (h : CutP c s T i f acc) (hi : i = s.size) : CutP c s T (i + 1) (i + 1) (acc ++ [(s.data.toList.drop f).take (i - f)]) := by
  rcases h with ⟨h1, h2, h3⟩ | ⟨h1, _⟩
  · refine Or.inr ⟨by omega, ?_⟩
    have e : s.data.toList.drop i = [] := List.drop_eq_nil_of_le (by rw [size_list']; omega)
    rw [e, cutA_end] at h3
    exact h3
  · omega
theorem CutP.len {c : UInt8} {s : ByteArray} {T acc : List (List UInt8)} {i f : Nat} (h : CutP c s T i f acc) : i ≤ s.size + 1 := by
  rcases h with ⟨h1, _⟩ | ⟨h1, _⟩ <;> omega
theorem sub_take (s : ByteArray) {f i : Nat} : s.extract f i = bOf ((s.data.toList.drop f).take (i - f)) := by
  apply ext_list
  rw [sub_list]
  rfl
set_option maxRecDepth 20000 in
set_option maxHeartbeats 8000000 in
theorem qcut_any (s : ByteArray) (c : UInt8) (hs : s.size ≤ 1000000000) (w : World) : Calls Tryd.prog 34 #[.string s, .int .u8 (c.toNat : Int)] w fun e w' => ∃ a cp, e = .returned (.slice a (cutL c s.data.toList).length cp) ∧ w'.ownsRow w.heap.size 9 1 (.slice a (cutL c s.data.toList).length cp) (cutL c s.data.toList).length (strV ((cutL c s.data.toList).map bOf)) ∧ Below w.heap.size w w' := by
  obtain ⟨i0, hi, hz⟩ := Option.map_eq_some_iff.1 info9
  simp only [Prod.mk.injEq] at hz
  obtain ⟨hz0, hz1, hz2⟩ := hz
  have HT : Hid (CutP c s (cutL c s.data.toList) 0 0 []) := Or.inl ⟨Nat.zero_le _, Nat.le_refl _, by rw [List.drop_zero]; simp [cutA_nil]⟩
  obtain ⟨T, hT⟩ : ∃ T, cutL c s.data.toList = T := ⟨_, rfl⟩
  rw [hT] at HT ⊢
  clear hT
  have hcb := c.toNat_lt
  obtain ⟨cn, hcn⟩ : ∃ cn, c.toNat = cn := ⟨_, rfl⟩
  have HCN : Hid (c.toNat = cn) := hcn
  rw [hcn] at hcb ⊢
  clear hcn
  go_enter Tryd.func34, Tryd.ntmps34
  go_wp2_with fail
  go_loopw [5, 6, 7] (fun v fz iz wr => ∃ (i f n : Nat) (acc : List (List UInt8)), i ≤ s.size + 1 ∧ f ≤ i ∧ fz = .int .i64 (f : Nat) ∧ iz = .int .i64 (i : Nat) ∧ wr.ownsRow w.heap.size 9 1 v n (strV (acc.map bOf)) ∧ Hid (acc.length = n) ∧ n ≤ i ∧ Hid (CutP c s T i f acc) ∧ Hid (Below w.heap.size w wr)) (fun _ _ iz _ => s.size + 1 - (intOf iz).toNat)
  case atStart => exact ⟨0, 0, 0, [], by omega, by omega, rfl, rfl, World.ownsRow_nil _ _ _ _, rfl, by omega, HT.out, Below.refl _ _⟩
  case round =>
    obtain ⟨i, f, n, acc, hi1, hfi, rfl, rfl, how, HN, hni, HC, HB⟩ := hrel
    obtain ⟨va, vc, rfl⟩ := row_form how
    have HOW : Hid (wr.ownsRow w.heap.size 9 1 (.slice va n vc) n (strV (acc.map bOf))) := how
    clear how
    by_cases hle : i ≤ s.size
    · have hlez : (i : Int) ≤ (s.size : Int) := by omega
      have hra : Hid (∀ o, (wr.alloc o).ownsRow w.heap.size 9 1 (.slice va n vc) n (strV (acc.map bOf))) := fun o => World.ownsRow.alloc HOW.out o
      have hsz := HB.out.size
      have hxt := sub_take s (f := f) (i := i)
      obtain ⟨P, hP⟩ : ∃ P, (s.data.toList.drop f).take (i - f) = P := ⟨_, rfl⟩
      rw [hP] at hxt
      have HAP : Hid (strV ((acc ++ [P]).map bOf) = strV (acc.map bOf) ++ [.string (bOf P)]) := by rw [Hid]; simp [strV]
      have HNP : Hid ((acc ++ [P]).length = n + 1) := by rw [Hid, List.length_append, HN.out]; rfl
      have HLS : Hid (i = s.size → CutP c s T (i + 1) (i + 1) (acc ++ [P])) := by rw [Hid, ← hP]; exact fun e => HC.out.last e
      have HHT : Hid (∀ x, i < s.size → byteAt s i = x → x = c.toNat → CutP c s T (i + 1) (i + 1) (acc ++ [P])) := by rw [Hid, ← hP]; exact fun x a b d => HC.out.hit a b d
      clear hP
      by_cases hie : i = s.size
      · have hiz : ((i : Int) == (s.size : Int)) = true := by rw [beq_iff_eq]; omega
        have HQ : Hid (CutP c s T (i + 1) (i + 1) (acc ++ [P])) := HLS.out hie
        clear hie HLS HHT
        go_wp2_with (at_builtin; go_loud (refine wpList_append_own _ rfl (.tmp 25) (.tmp 30) 28 rfl w.heap.size 9 i0 (.string ⟨#[]⟩) 1 16 Tryd.underlying28 hi hz0 hz1 hz2 rfl (by decide) _ _ _ rfl (hra.out _) ⟨_, 0, none⟩ 1 1 [.string (bOf P)] rfl rfl (new_cells _ [.string (bOf P)] _) (strV_one [bOf P]) (by unfold maxLen; omega) (by omega) (by simp; omega) ?_))
        intro v1 w5 hown1 hgrow _
        obtain ⟨a1, cap1, rfl⟩ := row_form hown1
        have HR5 : Hid (w5.ownsRow w.heap.size 9 1 (.slice a1 (n + 1) cap1) (n + 1) (strV ((acc ++ [P]).map bOf))) := by rw [Hid, HAP.out]; exact hown1
        have HB5 : Hid (Below w.heap.size w w5) := (HB.out.alloc hsz _).grown hgrow (by simp; omega) (fun i hi => (World.ownsRow.lt HOW.out i hi).1)
        clear hown1 hgrow
        go_wp2_with fail
        go_roundw
        case rel => exact ⟨i + 1, i + 1, n + 1, acc ++ [P], by omega, by omega, by go_num, by go_num, HR5.out, HNP.out, by omega, HQ.out, HB5.out⟩
        case measure => simp [intOf]; omega
      · have hiz : ((i : Int) == (s.size : Int)) = false := by rw [beq_eq_false_iff_ne]; omega
        have hlt : i < s.size := by omega
        have r0 := fun W => run_byte s (i := i) (z := (i : Int)) rfl hlt W
        obtain ⟨x, hx⟩ : ∃ x, byteAt s i = x := ⟨_, rfl⟩
        by_cases hc : x = cn
        · have hcz : ((x : Int) == (cn : Int)) = true := by rw [beq_iff_eq]; omega
          have HQ : Hid (CutP c s T (i + 1) (i + 1) (acc ++ [P])) := HHT.out x hlt hx (hc.trans HCN.out.symm)
          rw [hx] at r0
          clear hie HLS HHT hx hc
          go_wp2_with (at_builtin; go_loud (refine wpList_append_own _ rfl (.tmp 25) (.tmp 30) 28 rfl w.heap.size 9 i0 (.string ⟨#[]⟩) 1 16 Tryd.underlying28 hi hz0 hz1 hz2 rfl (by decide) _ _ _ rfl (hra.out _) ⟨_, 0, none⟩ 1 1 [.string (bOf P)] rfl rfl (new_cells _ [.string (bOf P)] _) (strV_one [bOf P]) (by unfold maxLen; omega) (by omega) (by simp; omega) ?_))
          intro v1 w5 hown1 hgrow _
          obtain ⟨a1, cap1, rfl⟩ := row_form hown1
          have HR5 : Hid (w5.ownsRow w.heap.size 9 1 (.slice a1 (n + 1) cap1) (n + 1) (strV ((acc ++ [P]).map bOf))) := by rw [Hid, HAP.out]; exact hown1
          have HB5 : Hid (Below w.heap.size w w5) := (HB.out.alloc hsz _).grown hgrow (by simp; omega) (fun i hi => (World.ownsRow.lt HOW.out i hi).1)
          clear hown1 hgrow
          go_wp2_with fail
          go_roundw
          case rel => exact ⟨i + 1, i + 1, n + 1, acc ++ [P], by omega, by omega, by go_num, by go_num, HR5.out, HNP.out, by omega, HQ.out, HB5.out⟩
          case measure => simp [intOf]; omega
        · have hcz : ((x : Int) == (cn : Int)) = false := by rw [beq_eq_false_iff_ne]; omega
          have HQ : Hid (CutP c s T (i + 1) f acc) := HC.out.go hlt hx (fun e => hc (e.trans HCN.out))
          rw [hx] at r0
          clear hie HLS HHT hx hc
          go_wp2_with fail
          go_roundw
          case rel => exact ⟨i + 1, f, n, acc, by omega, by omega, rfl, by go_num, HOW.out, HN.out, by omega, HQ.out, HB.out⟩
          case measure => simp [intOf]; omega
    · have hlez : ¬ (i : Int) ≤ (s.size : Int) := by omega
      have HQ : Hid (acc = T) := by
        rcases HC.out with ⟨h1, _⟩ | ⟨_, h2⟩
        · omega
        · exact h2
      go_wp2_with fail
      go_ret
      refine ⟨va, vc, ?_, ?_, HB.out⟩
      · rw [← HQ.out, HN.out]; rfl
      · rw [← HQ.out, HN.out]; exact HOW.out
end Go.Proofs.YtbpfggpljfpfcaaDoor
