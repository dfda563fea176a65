/-
  The contract of Parse.
-/
import Derived.Test.YtimabpfahhbadaaDoorPrq
namespace Go.Proofs.YtimabpfahhbadaaDoor
open Go.RowKit
theorem texts_cells {W : World} {l : List ByteArray} {N : Nat} {t : TypeId} : TextsAt (W.alloc (.cells (Lib.cellsOf l N) t)) (some ⟨W.heap.size, 0, none⟩) l := by
  intro j z hj
  refine ⟨W.heap.size, 0, rfl, by simp, ?_⟩
  refine cell_of_block (block_alloc_at W _) ?_
  have hjl : j < l.length := (List.getElem?_eq_some_iff.1 hj).1
  rw [Lib.cellsOf, List.getElem?_toArray, Nat.zero_add, List.getElem?_append_left (by rw [List.length_map]; exact hjl), List.getElem?_map, hj]
  rfl
theorem split_sizes (sep : ByteArray) : ∀ (j : Nat) (s : ByteArray) (N : Nat), s.size ≤ N → ∀ l ∈ Lib.splitB sep 0 j s, l.size ≤ N
  | 0, s, N, h => fun l hl => by rw [Lib.splitB_zero, List.mem_singleton] at hl; subst hl; exact h
  | j + 1, s, N, h => fun l hl => by
    rcases Lib.indexB_cases s sep with hix | ⟨i, hix, _⟩
    · rw [Lib.splitB_miss sep 0 _ s hix, List.mem_singleton] at hl; subst hl; exact h
    · rw [Lib.splitB_hit sep 0 j s i hix, List.mem_cons] at hl
      rcases hl with rfl | hl
      · rw [ByteArray.size_extract]; omega
      · exact split_sizes sep j _ N (by rw [ByteArray.size_extract]; omega) l hl
theorem owns_down2 {w : World} {B B' e z n : Nat} {v : Value} {xs : List Value} (h : w.ownsRow B e z v n xs) (hB : B' ≤ B) : w.ownsRow B' e z v n xs := by
  refine ⟨h.1, ?_⟩
  rcases h.2 with q | ⟨g, cp, cur, hv, hg, rr⟩
  · exact Or.inl q
  · exact Or.inr ⟨g, cp, cur, hv, Nat.le_trans hB hg, rr⟩
theorem rdP_size (s : ByteArray) : (rdP s).name.size ≤ s.size ∧ (rdP s).val.size ≤ s.size := cutP_size s 61
theorem flF_snoc (l : List Fd) (x : Fd) : flF (l ++ [x]) = flF l ++ [.string x.name, .string x.val] := by simp [flF, fdL]
theorem toList_ne {a b : ByteArray} (h : a ≠ b) : (a.toList == b.toList) = false := by
  rw [beq_eq_false_iff_ne, ByteArray.toList_eq, ByteArray.toList_eq]
  exact fun e => h (ext_list e)
theorem toList_eq' {a b : ByteArray} (h : a = b) : (a.toList == b.toList) = true := by subst h; simp
set_option maxRecDepth 20000 in
set_option maxHeartbeats 8000000 in
theorem parse_any (v : ByteArray) (hs : v.size ≤ 1000000000) (m : Int) (w : World) (hm : w.cell? ⟨0, 0, none⟩ = some (.int .i64 m)) :
    Calls Tryd.prog 8 #[.string v] w fun e w' => ∃ a c, e = .returned (.tuple #[.slice a (parseR v).1.length c, .int .i64 (parseR v).2]) ∧ w'.ownsRow w.heap.size 44 2 (.slice a (parseR v).1.length c) (parseR v).1.length (flF (parseR v).1) ∧ Below w.heap.size w w' := by
  obtain ⟨i0, hi, hz⟩ := Option.map_eq_some_iff.1 info53
  simp only [Prod.mk.injEq] at hz
  obtain ⟨hz0, hz1, hz2⟩ := hz
  have HM : Hid (∀ W, Below w.heap.size w W → W.cell? ⟨0, 0, none⟩ = some (.int .i64 m)) := fun W b => mx_below hm b
  have H1 : Hid (∀ W, Below w.heap.size w W → _) := fun W b => Tryd.strings_SplitN v ⟨#[59, 32]⟩ 17 m W (by omega) (HM.out W b) (by decide) (by decide) (by decide)
  rw [show Lib.splitB ⟨#[59, 32]⟩ 0 (min 17 (v.size + 1) - 1) v = partsN v from rfl] at H1
  obtain ⟨P, hP⟩ : ∃ P, partsN v = P := ⟨_, rfl⟩
  obtain ⟨n, hn⟩ : ∃ n, P.length = n := ⟨_, rfl⟩
  obtain ⟨N, hN⟩ : ∃ N, min 17 (v.size + 1) = N := ⟨_, rfl⟩
  have hl := partsN_len v
  have HPZ : Hid (∀ l ∈ P, l.size ≤ 1000000000) := by rw [← hP]; exact split_sizes smb _ v _ hs
  have HOKK : Hid ((printR (P.map rdP)).2 = 0 → (printR (P.map rdP)).1 = v → parseR v = (P.map rdP, 0)) := by rw [← hP]; exact parse_ok
  have HBAD : Hid (¬ printR (P.map rdP) = (v, 0) → parseR v = ([], 190)) := by rw [← hP]; exact parse_bad
  rw [hP, hN] at H1
  rw [hP] at hl
  rw [hn] at H1 hl
  have HL : Hid _ := hn
  clear hP hn hm hN
  obtain ⟨T, hT⟩ : ∃ T, parseR v = T := ⟨_, rfl⟩
  rw [hT] at HOKK HBAD ⊢
  clear hT
  go_enter Tryd.func8, Tryd.ntmps8
  go_wp2_with fail
  refine (H1.out _ (Below.refl _ _)).mono ?_
  rintro e w1 ⟨rfl, hw1⟩
  have HTX : Hid (TextsAt w1 (some ⟨w.heap.size, 0, none⟩) P) := by rw [hw1]; exact texts_cells
  have HB1 : Hid (Below w.heap.size w w1) := by rw [hw1]; exact (Below.refl _ _).alloc (Nat.le_refl _) _
  clear hw1 H1
  go_wp2_with fail
  go_loopw [4, 12] (fun v i wr => ∃ k : Nat, k ≤ n ∧ i = .int .i64 (k : Nat) ∧ wr.ownsRow w1.heap.size 44 2 v k (flF ((P.take k).map rdP)) ∧ Hid (Below w1.heap.size w1 wr)) (fun _ i _ => n - (intOf i).toNat)
  case atStart => exact ⟨0, by omega, rfl, by rw [List.take_zero]; exact World.ownsRow_nil _ _ _ _, Below.refl _ _⟩
  case round =>
    obtain ⟨k, hkn, rfl, hown, HB⟩ := hrel
    obtain ⟨va, vc, rfl⟩ := row_form hown
    have HOW : Hid _ := hown
    clear hown
    have HBW : Hid (Below w.heap.size w wr) := HB1.out.trans (HB.out.mono HB1.out.size)
    by_cases hlt : k < n
    · have hlz : (k : Int) < (n : Int) := by omega
      obtain ⟨x, hx⟩ : ∃ x, P[k]? = some x := ⟨P[k]'(by rw [HL.out]; exact hlt), List.getElem?_eq_getElem _⟩
      have HX2 : TextsAt wr (some ⟨w.heap.size, 0, none⟩) P := TextsAt.below HTX.out HB.out
      obtain ⟨b, off, hbo, _, x0⟩ := HX2 k x hx
      obtain ⟨rfl, rfl⟩ : w.heap.size = b ∧ 0 = off := by cases hbo; exact ⟨rfl, rfl⟩
      rw [Nat.zero_add] at x0
      have hxz := HPZ.out x (List.mem_of_getElem? hx)
      have HTK : Hid ((P.take (k + 1)).map rdP = (P.take k).map rdP ++ [rdP x]) := map_take hx
      have H2 : Hid (∀ W, Below w.heap.size w W → _) := fun W b => readPair_any x (by omega) m W (HM.out W b)
      obtain ⟨xp, hxp⟩ : ∃ xp, rdP x = xp := ⟨_, rfl⟩
      rw [hxp] at H2 HTK
      obtain ⟨xn, xv⟩ := xp
      simp only at H2
      clear hx HX2 hxz hxp hbo
      go_wp2_with fail
      refine (H2.out _ HBW.out).mono ?_
      rintro e w2 ⟨rfl, b2⟩
      have HBW2 : Hid (Below w.heap.size w w2) := HBW.out.trans (b2.mono HBW.out.size)
      have HB2 : Hid (Below w1.heap.size w1 w2) := HB.out.trans (b2.mono HB.out.size)
      have HOW2 : Hid (w2.ownsRow w1.heap.size 44 2 (.slice va k vc) k (flF ((P.take k).map rdP))) := owns_on2 HOW.out b2
      have hra : Hid (∀ o, (w2.alloc o).ownsRow w1.heap.size 44 2 (.slice va k vc) k (flF ((P.take k).map rdP))) := fun o => World.ownsRow.alloc HOW2.out o
      have hsz := HBW2.out.size
      have hsz1 := HB1.out.size
      have hsz2 := HB2.out.size
      clear b2
      go_wp2_with (at_builtin; refine wpList_append_own _ rfl (.tmp 16) (.tmp 19) 22 rfl w1.heap.size 44 i0 (.agg #[.string ByteArray.empty, .string ByteArray.empty]) 2 32 Tryd.underlying22 hi hz0 hz1 hz2 rfl (by decide) _ _ _ rfl (hra.out _) ⟨_, 0, none⟩ 1 1 [.string xn, .string xv] rfl rfl (new_cells _ [.string xn, .string xv] _) (fdL_one ⟨xn, xv⟩) (by unfold maxLen; omega) (by omega) (by simp; omega) ?_)
      intro v1 w5 hown1 hgrow _
      obtain ⟨a1, cap1, rfl⟩ := row_form hown1
      have HR5 : Hid (w5.ownsRow w1.heap.size 44 2 (.slice a1 (k + 1) cap1) (k + 1) (flF ((P.take (k + 1)).map rdP))) := by
        rw [Hid, HTK.out, flF_snoc]; first | exact hown1 | (rw [List.map_take]; exact hown1)
      have HB5 : Hid (Below w1.heap.size w1 w5) := (HB2.out.alloc hsz2 _).grown hgrow (by simp; omega) (fun i hi => (World.ownsRow.lt HOW2.out i hi).1)
      clear hown1 hgrow
      go_wp2_with fail
      go_roundw
      case rel => exact ⟨k + 1, by omega, by go_num, HR5.out, HB5.out⟩
      case measure => simp [intOf]; omega
    · obtain rfl : k = n := by omega
      have hlz : ¬ (k : Int) < (k : Int) := by omega
      have hq := HOW.out
      rw [List.take_of_length_le (by rw [HL.out]; omega)] at hq
      have hml : (P.map rdP).length = k := by rw [List.length_map, HL.out]
      rw [← hml] at hq
      have HQ : Hid _ := owns_down2 hq HB1.out.size
      have hsm : smF 1000000000 (P.map rdP) := fun c hc => by
        obtain ⟨s, hs, rfl⟩ := List.mem_map.1 hc
        have h1 := rdP_size s
        have h2 := HPZ.out s hs
        omega
      have HFA : FA wr.heap.size wr va (P.map rdP) := fa_row hq
      have H3 : Hid (∀ _ : Unit, _) := fun _ => print_any va vc wr.heap.size (P.map rdP) wr HFA (Nat.le_refl _) (by omega) hsm
      rw [hml] at H3
      obtain ⟨F, hF⟩ : ∃ F, P.map rdP = F := ⟨_, rfl⟩
      rw [hF] at H3 HOKK HBAD hml HQ
      rw [hml] at HQ
      obtain ⟨R, hR⟩ : ∃ R, printR F = R := ⟨_, rfl⟩
      have hcut : R.2 = 0 ∨ R = (⟨#[]⟩, 190) := by rw [← hR]; exact printR_cut F
      rw [hR] at H3 HOKK HBAD
      have HML : Hid _ := hml
      clear hq hsm HFA hF hR hml
      obtain ⟨rs, re⟩ := R
      simp only at H3 HOKK
      rcases hcut with h0 | h0
      · simp only at h0
        subst h0
        by_cases hv : rs = v
        · have HR : Hid (T = (F, 0)) := HOKK.out rfl hv
          have hne := toList_eq' hv
          clear hv
          go_wp2_with fail
          refine (H3.out ()).mono ?_
          rintro e w3 ⟨rfl, b3⟩
          go_wp2_with fail
          go_ret2
          refine ⟨va, vc, ?_, ?_, HBW.out.trans (b3.mono HBW.out.size)⟩
          · rw [HR.out]; show _ = Ending.returned (.tuple #[.slice va F.length vc, .int .i64 0]); rw [HML.out]; rfl
          · rw [HR.out]; show World.ownsRow _ _ _ _ (.slice va F.length vc) F.length (flF F); rw [HML.out]; exact owns_on2 HQ.out b3
        · have HR : Hid (T = ([], 190)) := HBAD.out (fun e => hv (congrArg Prod.fst e))
          have hne := toList_ne hv
          clear hv
          go_wp2_with fail
          refine (H3.out ()).mono ?_
          rintro e w3 ⟨rfl, b3⟩
          go_wp2_with fail
          go_ret2
          refine ⟨none, 0, by rw [HR.out]; rfl, by rw [HR.out]; exact World.ownsRow_nil _ _ _ _, HBW.out.trans (b3.mono HBW.out.size)⟩
      · obtain ⟨rfl, rfl⟩ : rs = ⟨#[]⟩ ∧ re = 190 := by cases h0; exact ⟨rfl, rfl⟩
        have HR : Hid (T = ([], 190)) := HBAD.out (fun e => by have := congrArg Prod.snd e; cases this)
        clear h0
        go_wp2_with fail
        refine (H3.out ()).mono ?_
        rintro e w3 ⟨rfl, b3⟩
        go_wp2_with fail
        go_ret2
        refine ⟨none, 0, by rw [HR.out]; rfl, by rw [HR.out]; exact World.ownsRow_nil _ _ _ _, HBW.out.trans (b3.mono HBW.out.size)⟩
end Go.Proofs.YtimabpfahhbadaaDoor
