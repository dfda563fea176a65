/-
  The contract of Query.
-/
import Derived.Test.YtbpfggpljfpfcaaDoorSpl
namespace Go.Proofs.YtbpfggpljfpfcaaDoor
open Go.RowKit
theorem texts_all {W : World} {h : Nat} {l : List ByteArray} (e : W.heap[h]? = some (.cells (strV l).toArray 9 (0, 0))) : TextsAt W (some ⟨h, 0, none⟩) l := by
  intro j z hj
  refine ⟨h, 0, rfl, (Array.getElem?_eq_some_iff.1 e).1, cell_of_block e ?_⟩
  rw [List.getElem?_toArray, Nat.zero_add, strV, List.getElem?_map, hj]
  rfl
theorem pair_form (p : List UInt8) : pairL p = match hsb 61 p, unesc (ahd 61 p), unesc (bhd 61 p) with
  | true, some x, some y => some (x, y)
  | _, _, _ => none := by
  unfold pairL
  cases hsb 61 p <;> cases unesc (ahd 61 p) <;> cases unesc (bhd 61 p) <;> rfl
theorem bhd_len (c : UInt8) (l : List UInt8) : (bhd c l).length ≤ l.length := by
  unfold bhd
  have h1 : (l.dropWhile (fun x => x != c)).length ≤ l.length := (List.dropWhile_suffix _).length_le
  rw [List.length_tail]
  omega
/-- The second value of an unescaping. -/
def unE (o : Option (List UInt8)) : Int := match o with
  | some _ => 0
  | none => 150
theorem unescV_form (l : List UInt8) : unescV l = #[.string (bOf (ufp l)), .int .i64 (unE (unesc l))] := by
  unfold unescV ufp unE
  cases unesc l <;> rfl
set_option maxRecDepth 20000 in
set_option maxHeartbeats 16000000 in
theorem query_any (s : ByteArray) (hs : s.size ≤ 1000000000) (m : Int) (w : World) (hm : w.cell? ⟨0, 0, none⟩ = some (.int .i64 m)) : Calls Tryd.prog 16 #[.string s] w (QryP w (qryR s.data.toList)) := by
  obtain ⟨i0, hi, hz⟩ := Option.map_eq_some_iff.1 info53
  simp only [Prod.mk.injEq] at hz
  obtain ⟨hz0, hz1, hz2⟩ := hz
  have hlen := size_list' s
  by_cases h2 : s.data.toList = []
  · have h2e : s.toList.isEmpty = true := by rw [ByteArray.toList_eq, h2]; rfl
    have HQ : Hid (qryR s.data.toList = some []) := by rw [Hid, h2]; rfl
    rw [HQ.out]
    clear hlen h2
    go_enter Tryd.func16, Tryd.ntmps16
    go_wp2_with fail
    go_ret2
    exact ⟨Below.refl _ _, Or.inr ⟨[], none, 0, rfl, rfl, World.ownsRow_nil _ _ _ _⟩⟩
  have h2e : s.toList.isEmpty = false := by
    rw [ByteArray.toList_eq]
    cases h : s.data.toList with
    | nil => exact absurd h h2
    | cons _ _ => rfl
  have HM0 : Hid (∀ W, Below w.heap.size w W → W.cell? ⟨0, 0, none⟩ = some (.int .i64 m)) := fun W b => mx_below hm b
  have H1 : Hid (∀ _ : Unit, _) := fun _ => split_any ⟨#[38]⟩ s (by decide) (by omega) m w hm
  rw [parts_cut 38 _ _ (Nat.le_refl _), List.length_map] at H1
  have hql : qryR s.data.toList = pairsL (cutL 38 s.data.toList) := by unfold qryR; rw [if_neg h2]
  have hcl := cutL_len 38 s.data.toList
  have HM : Hid (∀ p ∈ cutL 38 s.data.toList, p.length ≤ s.data.toList.length) := fun p hp => cutL_mem 38 _ p hp
  rw [hql]
  rw [hlen] at hcl HM
  obtain ⟨P, hP⟩ : ∃ P, cutL 38 s.data.toList = P := ⟨_, rfl⟩
  rw [hP] at H1 hcl HM ⊢
  obtain ⟨n, hn⟩ : ∃ n, P.length = n := ⟨_, rfl⟩
  rw [hn] at H1 hcl
  have HN : Hid (P.length = n) := hn
  have hn2 : n ≤ 1000000001 := by omega
  clear hP hn hql hcl hlen h2 hm
  obtain ⟨R, hR⟩ : ∃ R, pairsL P = R := ⟨_, rfl⟩
  have HNO : Hid (∀ (k : Nat) (p : List UInt8), P[k]? = some p → pairL p = none → R = none) := by rw [Hid, ← hR]; exact fun k p a b => pairs_none a b
  have HOK : Hid (∀ l, pairsL P = some l → R = some l) := by rw [Hid, ← hR]; exact fun l h => h
  rw [hR]
  clear hR
  go_enter Tryd.func16, Tryd.ntmps16
  go_wp2_with fail
  refine (H1.out ()).mono ?_
  rintro e w1 ⟨rfl, hw1⟩
  have HTX : Hid (TextsAt w1 (some ⟨w.heap.size, 0, none⟩) (P.map bOf)) := by rw [hw1]; exact texts_all (block_alloc_at _ _)
  have HB1 : Hid (Below w.heap.size w w1) := by rw [hw1]; exact (Below.refl _ _).alloc (Nat.le_refl _) _
  clear hw1 H1
  go_wp2_with fail
  go_loopw [4, 19] (fun v i wr => ∃ (k : Nat) (l : List (List UInt8 × List UInt8)), k ≤ n ∧ i = .int .i64 (k : Nat) ∧ wr.ownsRow w1.heap.size 38 2 v k (flF (l.map fdOf)) ∧ Hid (pairsL (P.take k) = some l) ∧ Hid (Below w1.heap.size w1 wr)) (fun _ i _ => n - (intOf i).toNat)
  case atStart => exact ⟨0, [], by omega, rfl, World.ownsRow_nil _ _ _ _, by rw [Hid, List.take_zero]; rfl, Below.refl _ _⟩
  case round =>
    obtain ⟨k, l, hk, rfl, how, HE, HB⟩ := hrel
    obtain ⟨va, vc, rfl⟩ := row_form how
    have HOW : Hid _ := how
    clear how
    have HBW : Hid (Below w.heap.size w wr) := HB1.out.trans (HB.out.mono HB1.out.size)
    by_cases hlt : k < n
    · have hlz : (k : Int) < (n : Int) := by omega
      obtain ⟨p, hp⟩ : ∃ p, P[k]? = some p := ⟨_, List.getElem?_eq_getElem (by rw [HN.out]; exact hlt)⟩
      obtain ⟨gb, off, hbo, _, c0⟩ := (HTX.out.below HB.out) k (bOf p) (by rw [List.getElem?_map, hp]; rfl)
      obtain ⟨rfl, rfl⟩ : w.heap.size = gb ∧ 0 = off := by cases hbo; exact ⟨rfl, rfl⟩
      rw [Nat.zero_add] at c0
      have hpl := HM.out p (List.mem_of_getElem? hp)
      have H2 : Hid (∀ W, Below w.heap.size w W → _) := fun W b => cut_any (bOf p) 61 (by rw [bOf_size]; omega) m W (HM0.out W b)
      rw [cutP_ahd, show (bOf p).data.toList = p from rfl] at H2
      dsimp only at H2
      have hl1 := ahd_len 61 p
      have hl2 := bhd_len 61 p
      have H3 : Hid (∀ W : World, _) := fun W => unescape_any (bOf (ahd 61 p)) W (by rw [bOf_size]; omega)
      have H4 : Hid (∀ W : World, _) := fun W => unescape_any (bOf (bhd 61 p)) W (by rw [bOf_size]; omega)
      rw [unescV_form, show (bOf (ahd 61 p)).data.toList = ahd 61 p from rfl] at H3
      rw [unescV_form, show (bOf (bhd 61 p)).data.toList = bhd 61 p from rfl] at H4
      have HPF : Hid _ := pair_form p
      have HSN : Hid (∀ y, pairL p = some y → pairsL (P.take (k + 1)) = some (l ++ [y])) := fun y h => pairs_snoc HE.out hp h
      have HNN : Hid (pairL p = none → R = none) := fun h => HNO.out k _ hp h
      have hu1 : ∀ {u : List UInt8}, unesc (ahd 61 p) = some u → ufp (ahd 61 p) = u := fun h => ufp_some h
      have hu2 : ∀ {u : List UInt8}, unesc (bhd 61 p) = some u → ufp (bhd 61 p) = u := fun h => ufp_some h
      obtain ⟨x, hx⟩ : ∃ x, ahd 61 p = x := ⟨_, rfl⟩
      obtain ⟨t, ht⟩ : ∃ t, bhd 61 p = t := ⟨_, rfl⟩
      obtain ⟨is, his⟩ : ∃ is, hsb 61 p = is := ⟨_, rfl⟩
      obtain ⟨y, hy⟩ : ∃ y, pairL p = y := ⟨_, rfl⟩
      obtain ⟨uo, huo⟩ : ∃ uo, unesc x = uo := ⟨_, rfl⟩
      obtain ⟨vo, hvo⟩ : ∃ vo, unesc t = vo := ⟨_, rfl⟩
      obtain ⟨ux, hux⟩ : ∃ ux, ufp x = ux := ⟨_, rfl⟩
      obtain ⟨ut, hut⟩ : ∃ ut, ufp t = ut := ⟨_, rfl⟩
      rw [hx] at H2 H3 HPF hu1
      rw [ht] at H2 H4 HPF hu2
      rw [his] at H2 HPF
      rw [hy] at HPF HSN HNN
      rw [huo] at H3 HPF hu1
      rw [hvo] at H4 HPF hu2
      rw [hux] at H3 hu1
      rw [hut] at H4 hu2
      clear hp hpl hl1 hl2 hx ht his hy huo hvo hux hut hbo
      go_wp2_with fail
      refine (H2.out wr HBW.out).mono ?_
      rintro e w2 ⟨rfl, nd, hw2⟩
      rw [hw2]
      clear hw2 w2 H2
      go_wp2_with fail
      refine (H3.out _).mono ?_
      rintro e w3 ⟨rfl, b3⟩
      have HB3 : Hid (Below w1.heap.size w1 w3) := HB.out.trans ((below_undrewN b3).mono HB.out.size)
      have HOW3 : Hid (w3.ownsRow w1.heap.size 38 2 (.slice va k vc) k (flF (l.map fdOf))) := owns_on2 HOW.out (below_undrewN b3)
      clear b3 H3
      go_wp2_with fail
      refine (H4.out _).mono ?_
      rintro e w4 ⟨rfl, b4⟩
      have HB4 : Hid (Below w1.heap.size w1 w4) := HB3.out.trans (b4.mono HB3.out.size)
      have HOW4 : Hid (w4.ownsRow w1.heap.size 38 2 (.slice va k vc) k (flF (l.map fdOf))) := owns_on2 HOW3.out b4
      have hra : Hid (∀ o, (w4.alloc o).ownsRow w1.heap.size 38 2 (.slice va k vc) k (flF (l.map fdOf))) := fun o => World.ownsRow.alloc HOW4.out o
      have HBW4 : Hid (Below w.heap.size w w4) := HB1.out.trans (HB4.out.mono HB1.out.size)
      have hsz4 := HB4.out.size
      clear b4 H4
      rw [Hid] at HPF
      cases is with
      | false =>
        have HR : Hid (R = none) := HNN.out (by rw [HPF])
        clear HPF HSN HNN hu1 hu2
        go_wp2_with fail
        go_ret2
        exact ⟨HBW4.out, Or.inl ⟨HR.out, rfl⟩⟩
      | true =>
        cases uo with
        | none =>
          have HR : Hid (R = none) := HNN.out (by rw [HPF])
          simp only [show unE none = 150 from rfl]
          clear HPF HSN HNN hu1 hu2
          obtain ⟨ve, hve⟩ : ∃ ve, unE vo = ve := ⟨_, rfl⟩
          rw [hve]
          clear hve
          go_wp2_with fail
          go_ret2
          exact ⟨HBW4.out, Or.inl ⟨HR.out, rfl⟩⟩
        | some u =>
          cases vo with
          | none =>
            have HR : Hid (R = none) := HNN.out (by rw [HPF])
            simp only [unE]
            clear HPF HSN HNN hu1 hu2
            go_wp2_with fail
            go_ret2
            exact ⟨HBW4.out, Or.inl ⟨HR.out, rfl⟩⟩
          | some v =>
            obtain rfl := hu1 rfl
            obtain rfl := hu2 rfl
            have HS : Hid _ := HSN.out _ HPF
            simp only [unE]
            clear HPF HSN HNN hu1 hu2
            go_wp2_with (at_builtin; go_loud (refine wpList_append_own _ rfl (.tmp 49) (.tmp 53) 34 rfl w1.heap.size 38 i0 (.agg #[.string ByteArray.empty, .string ByteArray.empty]) 2 32 Tryd.underlying34 hi hz0 hz1 hz2 rfl (by decide) _ _ _ rfl (hra.out _) ⟨_, 0, none⟩ 1 1 [.string (bOf ux), .string (bOf ut)] rfl rfl (new_cells _ [.string (bOf ux), .string (bOf ut)] _) (fdL_one ⟨bOf ux, bOf ut⟩) (by unfold maxLen; omega) (by omega) (by simp; omega) ?_))
            intro v1 w5 hown1 hgrow _
            obtain ⟨a1, cap1, rfl⟩ := row_form hown1
            have HR5 : Hid (w5.ownsRow w1.heap.size 38 2 (.slice a1 (k + 1) cap1) (k + 1) (flF ((l ++ [(ux, ut)]).map fdOf))) := by
              rw [Hid, fd_snoc]
              exact hown1
            have HB5 : Hid (Below w1.heap.size w1 w5) := (HB4.out.alloc hsz4 _).grown hgrow (by simp; omega) (fun i hi => (World.ownsRow.lt HOW4.out i hi).1)
            clear hown1 hgrow
            go_wp2_with fail
            go_roundw
            case rel => exact ⟨k + 1, l ++ [(ux, ut)], by omega, by go_num, HR5.out, HS.out, HB5.out⟩
            case measure => simp [intOf]; omega
    · obtain rfl : k = n := by omega
      have hlz : ¬ (k : Int) < (k : Int) := by omega
      have he := HE.out
      rw [List.take_of_length_le (by rw [HN.out]; omega)] at he
      have HR : Hid (R = some l) := HOK.out l he
      have HQ : Hid _ := owns_down2 HOW.out HB1.out.size
      have HML : Hid (l.length = k) := by rw [Hid, pairs_len he, HN.out]
      clear he
      go_wp2_with fail
      go_ret2
      exact ⟨HBW.out, Or.inr ⟨l, va, vc, HR.out, by rw [HML.out]; rfl, by rw [HML.out]; exact HQ.out⟩⟩
end Go.Proofs.YtbpfggpljfpfcaaDoor
