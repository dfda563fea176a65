/-
  The contract of Find.
-/
import Derived.Test.YtbpfggpljfpfcaaDoorFnp
namespace Go.Proofs.YtbpfggpljfpfcaaDoor
open Go.RowKit
set_option maxRecDepth 20000 in
set_option maxHeartbeats 32000000 in
theorem find_any (m : List UInt8) (s : ByteArray) (hs : s.size ≤ 140737488355328) (mx : Int) (w : World) (hm : w.cell? ⟨0, 0, none⟩ = some (.int .i64 mx)) : Calls Tryd.prog 8 #[.string (bOf m), .string s] w fun e w' => e = .returned (.tuple #[rtV (findR m s.data.toList).1, .int .i64 (findR m s.data.toList).2]) ∧ Below w.heap.size w w' := by
  have HMX : Hid (∀ W, Below w.heap.size w W → W.cell? ⟨0, 0, none⟩ = some (.int .i64 mx)) := fun W b => mx_below hm b
  have hlen := size_list' s
  have HF0 : Hid _ := fb_start w m
  have H1 : Hid (∀ W, Below w.heap.size w W → _) := fun W b => split_route s hs mx W (HMX.out W b)
  have H2 : Hid (∀ W, Below w.heap.size w W → _) := fun W b => rulesOf_any s hs mx W (HMX.out W b)
  have HZ : Hid (splE s.data.toList = 0 → _) := spl_zero
  have P1 : Hid (splE s.data.toList ≠ 0 → findR m s.data.toList = (rt0, 400)) := find_bad
  have P2 : Hid (splE s.data.toList = 0 → rulesR (rawL s.data.toList) = [] → findR m s.data.toList = (rt0, 404)) := find_no
  have P3 : Hid (splE s.data.toList = 0 → rulesR (rawL s.data.toList) ≠ [] → (∀ r ∈ rulesR (rawL s.data.toList), r.meth ≠ m) → findR m s.data.toList = (rt0, 405)) := find_meth
  have P4 : Hid (∀ (k : Nat) (r : Rule), splE s.data.toList = 0 → (rulesR (rawL s.data.toList))[k]? = some r → r.meth = m → (∀ (j : Nat) y, j < k → (rulesR (rawL s.data.toList))[j]? = some y → y.meth ≠ m) → findR m s.data.toList = readR (fillQ r (ufp ((rawL s.data.toList).getD 1 []))) (qryL s.data.toList) (hasQ s.data.toList)) := fun k r a b c d => find_rule a b c d
  have P5 : Hid (∀ r ∈ rulesR (rawL s.data.toList), _) := fun r hr => rules_fill (by rw [rules_eq] at hr; exact hr)
  have P6 := rulesR_len (rawL s.data.toList)
  have hql := bhd_len 63 s.data.toList.tail
  have htl : s.data.toList.tail.length ≤ s.data.toList.length := by rw [List.length_tail]; omega
  rw [show bhd 63 s.data.toList.tail = qryL s.data.toList from rfl] at hql
  unfold rofR at H2
  rw [pcs_map] at H1
  obtain ⟨t, ht⟩ : ∃ t, s.data.toList = t := ⟨_, rfl⟩
  rw [ht] at H1 H2 HZ P1 P2 P3 P4 P5 P6 hlen hql htl ⊢
  obtain ⟨L, hL⟩ : ∃ L, rawL t = L := ⟨_, rfl⟩
  rw [hL] at H1 H2 HZ P2 P3 P4 P5 P6
  obtain ⟨RS, hRS⟩ : ∃ RS, rulesR L = RS := ⟨_, rfl⟩
  rw [hRS] at H2 P2 P3 P4 P5 P6
  obtain ⟨er, her⟩ : ∃ er, splE t = er := ⟨_, rfl⟩
  rw [her] at H1 H2 HZ P1 P2 P3 P4
  obtain ⟨q, hq⟩ : ∃ q, qryL t = q := ⟨_, rfl⟩
  obtain ⟨has, hh⟩ : ∃ has, hasQ t = has := ⟨_, rfl⟩
  rw [hq] at H1 P4 hql
  rw [hh] at H1 P4
  obtain ⟨u, hu⟩ : ∃ u, ufp (L.getD 1 []) = u := ⟨_, rfl⟩
  rw [hu] at P4 P5
  obtain ⟨F, hF⟩ : ∃ F, findR m t = F := ⟨_, rfl⟩
  rw [hF] at P1 P2 P3 P4 ⊢
  have HU1 : Hid (L[1]? = some (L.getD 1 []) → (L.map ufp)[1]? = some u) := fun h => by rw [List.getElem?_map, h, ← hu]; rfl
  have hzl : er = 0 → q.length ≤ 1024 := fun h => by have := (HZ.out h).1; omega
  have HQL : Hid (er = 0 → q.length ≤ 1024) := hzl
  unfold RawP at H1
  unfold RofP at H2
  clear ht hL hRS her hq hh hF hm hu hlen hql htl hzl HZ
  obtain ⟨W2, hW2⟩ : ∃ W2, (w.alloc (.cells #[.string (bOf m)] 9)).alloc (.cells #[.int .i64 0, .string ⟨#[]⟩, .string ⟨#[]⟩, .int .i64 0, .bool false] 23) = W2 := ⟨_, rfl⟩
  rw [hW2] at HF0
  have HW2 : Hid _ := hW2
  clear hW2
  go_enter Tryd.func8, Tryd.ntmps8
  go_wp2_with fail
  rw [HW2.out]
  clear HW2
  have HF0' : Hid (FB w m W2) := HF0.out
  refine (H1.out W2 HF0'.out.2.2).mono ?_
  rintro e w3 ⟨b3, (⟨hne, rfl⟩ | ⟨h0, a1, cp1, rfl, how1⟩)⟩
  · have hnz : (er != 0) = true := by simpa using hne
    have HF3 : Hid (FB w m w3) := FB.on HF0'.out b3
    have HR : Hid (F = (rt0, 400)) := P1.out hne
    clear b3 hne H1 H2 P1 P2 P3 P4 P5
    obtain ⟨z0, z1, z2, z3, z4⟩ := XB.cells (FB.fin HF3.out rt0).1
    clear z0 z1 z2 z3 z4
    obtain ⟨z0, z1, z2, z3, z4⟩ := XB.cells HF3.out.2.1
    obtain ⟨f0, f1, f2, f3, f4⟩ := XB.free HF3.out.2.1
    obtain ⟨W9, hW9⟩ : ∃ W9, set5 w3 (w.heap.size + 1) (.int .i64 0) (.string ⟨#[]⟩) (.string ⟨#[]⟩) (.int .i64 0) (.bool false) = W9 := ⟨_, rfl⟩
    have HX9 : Hid (XB W9 (w.heap.size + 1) rt0) := by rw [Hid, ← hW9]; exact (FB.fin HF3.out rt0).1
    have HB9 : Hid (Below w.heap.size w W9) := by rw [Hid, ← hW9]; exact (FB.fin HF3.out rt0).2
    unfold set5 at hW9
    have HW9 : Hid _ := hW9
    clear hW9
    go_wp2_with fail
    rw [HW9.out]
    clear HW9 z0 z1 z2 z3 z4 f0 f1 f2 f3 f4
    obtain ⟨z0, z1, z2, z3, z4⟩ := XB.cells HX9.out
    refine bodyPost_ret (v := .tuple #[rtV rt0, .int .i64 400]) ?_ rfl ⟨by rw [HR.out], HB9.out⟩
    rw [results_cell_tmp rfl]
    unfold rtV rtA
    go_simp
  · subst h0
    have HF3 : Hid (FB w m w3) := FB.on HF0'.out b3
    have HTX3 : Hid (TextsAt w3 a1 ((L.map ufp).map bOf)) := row_texts how1
    rw [if_pos rfl] at H2
    have Q2 : Hid (RS = [] → F = (rt0, 404)) := P2.out rfl
    have Q3 : Hid (RS ≠ [] → (∀ r ∈ RS, r.meth ≠ m) → F = (rt0, 405)) := P3.out rfl
    have Q4 : Hid (∀ (k : Nat) (r : Rule), RS[k]? = some r → r.meth = m → (∀ (j : Nat) y, j < k → RS[j]? = some y → y.meth ≠ m) → F = readR (fillQ r u) q has) := fun k r => P4.out k r rfl
    clear b3 how1 H1 P1 P2 P3 P4
    have hqs := HQL.out rfl
    obtain ⟨n, hn⟩ : ∃ n, (L.map ufp).length = n := ⟨_, rfl⟩
    have hLn : L.length = n := by rw [← hn, List.length_map]
    rw [hn]
    go_wp2_with fail
    refine (H2.out w3 HF3.out.2.2).mono ?_
    rintro e w4 ⟨a2, c2, l, rfl, hlf, how2, hpa, b4⟩
    have HF4 : Hid (FB w m w4) := FB.on HF3.out b4
    have HTX4 : Hid (TextsAt w4 a1 ((L.map ufp).map bOf)) := HTX3.out.below b4
    have hll : l.length = RS.length := by rw [← hlf, List.length_map]
    have HRW : Hid (RowR w4 a2 l) := row_owns (B := w3.heap.size) (c := c2) (by rw [hll]; exact how2)
    have HPA : Hid (∀ x ∈ l, PathAt w4 x) := hpa
    have HLF : Hid (l.map Prod.fst = RS) := hlf
    clear b4 how2 hpa HF3 HTX3 HF0 HF0' hlf
    obtain ⟨rn, hrn⟩ : ∃ rn, RS.length = rn := ⟨_, rfl⟩
    rw [hrn] at P6 hll
    have HRN : Hid (RS.length = rn) := hrn
    have HLL : Hid (l.length = rn) := hll
    rw [hrn]
    clear hrn hll
    by_cases hr0 : rn = 0
    · have hrz : ((rn : Int) == 0) = true := by rw [beq_iff_eq]; omega
      have HR : Hid (F = (rt0, 404)) := Q2.out (List.eq_nil_of_length_eq_zero (HRN.out.trans hr0))
      clear hr0 Q2 Q3 Q4 P5 H2
      obtain ⟨z0, z1, z2, z3, z4⟩ := XB.cells (FB.fin HF4.out rt0).1
      clear z0 z1 z2 z3 z4
      obtain ⟨z0, z1, z2, z3, z4⟩ := XB.cells HF4.out.2.1
      obtain ⟨f0, f1, f2, f3, f4⟩ := XB.free HF4.out.2.1
      obtain ⟨W9, hW9⟩ : ∃ W9, set5 w4 (w.heap.size + 1) (.int .i64 0) (.string ⟨#[]⟩) (.string ⟨#[]⟩) (.int .i64 0) (.bool false) = W9 := ⟨_, rfl⟩
      have HX9 : Hid (XB W9 (w.heap.size + 1) rt0) := by rw [Hid, ← hW9]; exact (FB.fin HF4.out rt0).1
      have HB9 : Hid (Below w.heap.size w W9) := by rw [Hid, ← hW9]; exact (FB.fin HF4.out rt0).2
      unfold set5 at hW9
      have HW9 : Hid _ := hW9
      clear hW9
      go_wp2_with fail
      rw [HW9.out]
      clear HW9 z0 z1 z2 z3 z4 f0 f1 f2 f3 f4
      obtain ⟨z0, z1, z2, z3, z4⟩ := XB.cells HX9.out
      refine bodyPost_ret (v := .tuple #[rtV rt0, .int .i64 404]) ?_ rfl ⟨by rw [HR.out], HB9.out⟩
      rw [results_cell_tmp rfl]
      unfold rtV rtA
      go_simp
    · have hrz : ((rn : Int) == 0) = false := by rw [beq_eq_false_iff_ne]; omega
      have hRne : RS ≠ [] := fun e => hr0 (by rw [← HRN.out, e]; rfl)
      have H3 : Hid (∀ _ : Unit, _) := fun _ => index_rule l (by rw [HLL.out]; exact P6) a2 c2 w.heap.size m w4 HRW.out (cell_of_block HF4.out.1 rfl) (Array.getElem?_eq_some_iff.1 HF4.out.1).1
      rw [HLL.out] at H3
      clear hr0 Q2
      go_wp2_with fail
      refine (H3.out ()).mono ?_
      rintro e w5 ⟨(⟨k, x, rfl, hkx, hxm, hxn⟩ | ⟨rfl, hall⟩), b5⟩
      · have HF5 : Hid (FB w m w5) := FB.on HF4.out b5
        have hkn : k < rn := by rw [← HLL.out]; exact (List.getElem?_eq_some_iff.1 hkx).1
        have hkR : RS[k]? = some x.1 := by rw [← HLF.out, List.getElem?_map, hkx]; rfl
        have hR : F = readR (fillQ x.1 u) q has := Q4.out k x.1 hkR hxm (fun j y hj hy => by
          rw [← HLF.out, List.getElem?_map] at hy
          cases hz : l[j]? with
          | none => rw [hz] at hy; cases hy
          | some z => rw [hz] at hy; cases hy; exact hxn j z hj hz)
        obtain ⟨_, p2, p3, p4⟩ := P5.out x.1 (List.mem_of_getElem? hkR)
        have HPX : Hid (∀ W, Below w5.heap.size w5 W → PathAt W x) := fun W b => PathAt.below (PathAt.below (HPA.out x (List.mem_of_getElem? hkx)) b5) b
        have HTX5 : Hid (TextsAt w5 a1 ((L.map ufp).map bOf)) := HTX4.out.below b5
        have HRW5 : Hid (RowR w5 a2 l) := RowR.below HRW.out b5
        have hps := path_short x.1 p4
        have H4 : Hid (∀ _ : Unit, _) := fun _ => fill_gen x p4 (rmOf x).fr (rmOf x).fw (L.map ufp) a1 cp1 u w5 (HPX.out w5 (Below.refl _ _)) HTX5.out (by rw [List.length_map]; exact p2) (by omega) (fun h => HU1.out (p3 h))
        obtain ⟨gb, off, rfl, hgb5, c0, c1, c2', c3, c4, c5, c6, c7, c8, c9⟩ := RowR.get HRW5.out hkx
        have hfv := pfV_cases (partF x.1.part)
        have hkk := fillQ_kind x.1 u
        obtain ⟨pl, hpl⟩ : ∃ pl, x.1.path.length = pl := ⟨_, rfl⟩
        rw [hpl] at H4 c1 p2 hps
        obtain rfl : n = pl := by omega
        obtain ⟨fv, hv⟩ : ∃ fv, pfV (partF x.1.part) = fv := ⟨_, rfl⟩
        obtain ⟨X, hX⟩ : ∃ X, fillQ x.1 u = X := ⟨_, rfl⟩
        rw [hv] at c7 hfv H4
        rw [hX] at H4 hR hkk
        have hfr : (rmOf x).fr = if x.1.kind = 8 then 54 else 52 := rfl
        obtain ⟨f1, hf1⟩ : ∃ f1, (rmOf x).fr = f1 := ⟨_, rfl⟩
        obtain ⟨f2, hf2⟩ : ∃ f2, (rmOf x).fw = f2 := ⟨_, rfl⟩
        rw [hf1] at c8 H4 hfr
        rw [hf2] at c9 H4
        have HR : Hid _ := hR
        have HGB : Hid (gb < w5.heap.size) := hgb5
        have HKX : Hid _ := hkx
        have hkz : (k : Int) < (rn : Int) := by omega
        have hk0 : ((k : Int) < 0) = False := by simp
        have hk0' : ¬ (k : Int) < 0 := by omega
        clear hk0
        have HP2 : Hid _ := p2
        have HFR : Hid _ := hfr
        have HKK : Hid (X.kind = x.1.kind) := hkk
        have HLn : Hid _ := hLn
        clear hfr hkk b5 hkx hxm hxn hkR hR p2 p3 p4 hpl hv hX hf1 hf2 hLn hn HF4 HTX4 HRW H3 H2 Q3 Q4 P5 HPA
        rcases hfv with rfl | ⟨fn, rfl⟩
        all_goals
          go_wp2_with fail
          refine (H4.out ()).mono ?_
          rintro e w6 ⟨rfl, b6⟩
          have HF6 : Hid (FB w m w6) := FB.on HF5.out b6
          have hgb6 : gb < w6.heap.size := Nat.lt_of_lt_of_le HGB.out b6.size
          have c8' := (b6.cell (p := ⟨gb, off + k * 10 + 8, none⟩) HGB.out).trans c8
          clear b6 c0 c1 c2' c3 c4 c5 c6 c7 c8 c9
          obtain ⟨W7, hW7⟩ : ∃ W7, w6.alloc (.cells (rtA X) 23) = W7 := ⟨_, rfl⟩
          have HX7 : Hid (XB W7 w6.heap.size X) := by rw [Hid, ← hW7]; exact block_alloc_at _ _
          have b7 : Below w6.heap.size w6 W7 := by rw [← hW7]; exact below_new _ _
          have HF7 : Hid (FB w m W7) := FB.on HF6.out b7
          have hgz : w.heap.size + 1 < w6.heap.size := HF6.out.2.1.lt
          have d8 : W7.cell? ⟨gb, off + k * 10 + 8, none⟩ = some (.func (.func f1) #[] #[]) := (b7.cell (p := ⟨gb, off + k * 10 + 8, none⟩) hgb6).trans c8'
          clear c8' b7 hgb6
          unfold rtA at hW7
          unfold rtV rtA
          have hfr := HFR.out
          have hkk := HKK.out
          by_cases hk8 : x.1.kind = 8
          · rw [if_pos hk8] at hfr
            subst hfr
            have H5 : Hid (∀ _ : Unit, _) := fun _ => readFrom_any w6.heap.size X (hkk.trans hk8) q (by omega) has mx W7 (HMX.out W7 HF7.out.2.2) HX7.out
            clear hk8 hkk
            go_wp2_with fail
            try rw [hW7]
            refine (H5.out ()).mono ?_
            rintro e w8 ⟨ok, x', rfl, hrd, hx8, hkb⟩
            have HF8 : Hid (FB w m w8) := FB.kb HF7.out hkb hgz
            have HX8 : Hid (XB w8 w6.heap.size x') := hx8
            have HRD : Hid (F = (if ok = true then (x', 200) else (rt0, 400))) := HR.out.trans hrd
            clear hrd hkb hW7 d8 hx8
            cases ok with
            | false =>
              have HR2 : Hid (F = (rt0, 400)) := by rw [Hid, HRD.out]; rfl
              clear HRD
              obtain ⟨z0, z1, z2, z3, z4⟩ := XB.cells (FB.fin HF8.out rt0).1
              clear z0 z1 z2 z3 z4
              obtain ⟨z0, z1, z2, z3, z4⟩ := XB.cells HF8.out.2.1
              obtain ⟨f0, f1, f2, f3, f4⟩ := XB.free HF8.out.2.1
              obtain ⟨W9, hW9⟩ : ∃ W9, set5 w8 (w.heap.size + 1) (.int .i64 0) (.string ⟨#[]⟩) (.string ⟨#[]⟩) (.int .i64 0) (.bool false) = W9 := ⟨_, rfl⟩
              have HX9 : Hid (XB W9 (w.heap.size + 1) rt0) := by rw [Hid, ← hW9]; exact (FB.fin HF8.out rt0).1
              have HB9 : Hid (Below w.heap.size w W9) := by rw [Hid, ← hW9]; exact (FB.fin HF8.out rt0).2
              unfold set5 at hW9
              have HW9 : Hid _ := hW9
              clear hW9
              go_wp2_with fail
              rw [HW9.out]
              clear HW9 z0 z1 z2 z3 z4 f0 f1 f2 f3 f4
              obtain ⟨z0, z1, z2, z3, z4⟩ := XB.cells HX9.out
              refine bodyPost_ret (v := .tuple #[rtV rt0, .int .i64 400]) ?_ rfl ⟨by rw [HR2.out], HB9.out⟩
              rw [results_cell_tmp rfl]
              unfold rtV rtA
              go_simp
            | true =>
              have HR2 : Hid (F = (x', 200)) := by rw [Hid, HRD.out]; rfl
              clear HRD
              obtain ⟨x0, x1, x2, x3, x4⟩ := XB.cells HX8.out
              obtain ⟨z0, z1, z2, z3, z4⟩ := XB.cells (FB.fin HF8.out x').1
              clear z0 z1 z2 z3 z4
              obtain ⟨z0, z1, z2, z3, z4⟩ := XB.cells HF8.out.2.1
              obtain ⟨f0, f1, f2, f3, f4⟩ := XB.free HF8.out.2.1
              obtain ⟨W9, hW9⟩ : ∃ W9, setX w8 (w.heap.size + 1) x' = W9 := ⟨_, rfl⟩
              have HX9 : Hid (XB W9 (w.heap.size + 1) x') := by rw [Hid, ← hW9]; exact (FB.fin HF8.out x').1
              have HB9 : Hid (Below w.heap.size w W9) := by rw [Hid, ← hW9]; exact (FB.fin HF8.out x').2
              unfold setX set5 at hW9
              have HW9 : Hid _ := hW9
              clear hW9
              go_wp2_with fail
              rw [HW9.out]
              clear HW9 z0 z1 z2 z3 z4 f0 f1 f2 f3 f4
              obtain ⟨z0, z1, z2, z3, z4⟩ := XB.cells HX9.out
              refine bodyPost_ret (v := .tuple #[rtV x', .int .i64 200]) ?_ rfl ⟨by rw [HR2.out], HB9.out⟩
              rw [results_cell_tmp rfl]
              unfold rtV rtA
              go_simp
          · rw [if_neg hk8] at hfr
            subst hfr
            have H5 : Hid (∀ _ : Unit, _) := fun _ => noQuery_any w6.heap.size X (fun e => hk8 (hkk.symm.trans e)) q has W7 HX7.out
            clear hk8 hkk
            go_wp2_with fail
            try rw [hW7]
            refine (H5.out ()).mono ?_
            rintro e w8 ⟨ok, x', rfl, hrd, hx8, hkb⟩
            have HF8 : Hid (FB w m w8) := FB.kb HF7.out hkb hgz
            have HX8 : Hid (XB w8 w6.heap.size x') := hx8
            have HRD : Hid (F = (if ok = true then (x', 200) else (rt0, 400))) := HR.out.trans hrd
            clear hrd hkb hW7 d8 hx8
            cases ok with
            | false =>
              have HR2 : Hid (F = (rt0, 400)) := by rw [Hid, HRD.out]; rfl
              clear HRD
              obtain ⟨z0, z1, z2, z3, z4⟩ := XB.cells (FB.fin HF8.out rt0).1
              clear z0 z1 z2 z3 z4
              obtain ⟨z0, z1, z2, z3, z4⟩ := XB.cells HF8.out.2.1
              obtain ⟨f0, f1, f2, f3, f4⟩ := XB.free HF8.out.2.1
              obtain ⟨W9, hW9⟩ : ∃ W9, set5 w8 (w.heap.size + 1) (.int .i64 0) (.string ⟨#[]⟩) (.string ⟨#[]⟩) (.int .i64 0) (.bool false) = W9 := ⟨_, rfl⟩
              have HX9 : Hid (XB W9 (w.heap.size + 1) rt0) := by rw [Hid, ← hW9]; exact (FB.fin HF8.out rt0).1
              have HB9 : Hid (Below w.heap.size w W9) := by rw [Hid, ← hW9]; exact (FB.fin HF8.out rt0).2
              unfold set5 at hW9
              have HW9 : Hid _ := hW9
              clear hW9
              go_wp2_with fail
              rw [HW9.out]
              clear HW9 z0 z1 z2 z3 z4 f0 f1 f2 f3 f4
              obtain ⟨z0, z1, z2, z3, z4⟩ := XB.cells HX9.out
              refine bodyPost_ret (v := .tuple #[rtV rt0, .int .i64 400]) ?_ rfl ⟨by rw [HR2.out], HB9.out⟩
              rw [results_cell_tmp rfl]
              unfold rtV rtA
              go_simp
            | true =>
              have HR2 : Hid (F = (x', 200)) := by rw [Hid, HRD.out]; rfl
              clear HRD
              obtain ⟨x0, x1, x2, x3, x4⟩ := XB.cells HX8.out
              obtain ⟨z0, z1, z2, z3, z4⟩ := XB.cells (FB.fin HF8.out x').1
              clear z0 z1 z2 z3 z4
              obtain ⟨z0, z1, z2, z3, z4⟩ := XB.cells HF8.out.2.1
              obtain ⟨f0, f1, f2, f3, f4⟩ := XB.free HF8.out.2.1
              obtain ⟨W9, hW9⟩ : ∃ W9, setX w8 (w.heap.size + 1) x' = W9 := ⟨_, rfl⟩
              have HX9 : Hid (XB W9 (w.heap.size + 1) x') := by rw [Hid, ← hW9]; exact (FB.fin HF8.out x').1
              have HB9 : Hid (Below w.heap.size w W9) := by rw [Hid, ← hW9]; exact (FB.fin HF8.out x').2
              unfold setX set5 at hW9
              have HW9 : Hid _ := hW9
              clear hW9
              go_wp2_with fail
              rw [HW9.out]
              clear HW9 z0 z1 z2 z3 z4 f0 f1 f2 f3 f4
              obtain ⟨z0, z1, z2, z3, z4⟩ := XB.cells HX9.out
              refine bodyPost_ret (v := .tuple #[rtV x', .int .i64 200]) ?_ rfl ⟨by rw [HR2.out], HB9.out⟩
              rw [results_cell_tmp rfl]
              unfold rtV rtA
              go_simp
      · have HF5 : Hid (FB w m w5) := FB.on HF4.out b5
        have HR : Hid (F = (rt0, 405)) := Q3.out hRne (fun r hr => by
          rw [← HLF.out] at hr
          obtain ⟨y, hy, rfl⟩ := List.mem_map.1 hr
          exact hall y hy)
        clear b5 hall H3 H2 Q3 Q4 P5 hRne HF4
        obtain ⟨z0, z1, z2, z3, z4⟩ := XB.cells (FB.fin HF5.out rt0).1
        clear z0 z1 z2 z3 z4
        obtain ⟨z0, z1, z2, z3, z4⟩ := XB.cells HF5.out.2.1
        obtain ⟨f0, f1, f2, f3, f4⟩ := XB.free HF5.out.2.1
        obtain ⟨W9, hW9⟩ : ∃ W9, set5 w5 (w.heap.size + 1) (.int .i64 0) (.string ⟨#[]⟩) (.string ⟨#[]⟩) (.int .i64 0) (.bool false) = W9 := ⟨_, rfl⟩
        have HX9 : Hid (XB W9 (w.heap.size + 1) rt0) := by rw [Hid, ← hW9]; exact (FB.fin HF5.out rt0).1
        have HB9 : Hid (Below w.heap.size w W9) := by rw [Hid, ← hW9]; exact (FB.fin HF5.out rt0).2
        unfold set5 at hW9
        have HW9 : Hid _ := hW9
        clear hW9
        go_wp2_with fail
        rw [HW9.out]
        clear HW9 z0 z1 z2 z3 z4 f0 f1 f2 f3 f4
        obtain ⟨z0, z1, z2, z3, z4⟩ := XB.cells HX9.out
        refine bodyPost_ret (v := .tuple #[rtV rt0, .int .i64 405]) ?_ rfl ⟨by rw [HR.out], HB9.out⟩
        rw [results_cell_tmp rfl]
        unfold rtV rtA
        go_simp
end Go.Proofs.YtbpfggpljfpfcaaDoor
