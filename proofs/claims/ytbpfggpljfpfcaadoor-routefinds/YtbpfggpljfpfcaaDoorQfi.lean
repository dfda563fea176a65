/-
  The contract of the twin's Find.
-/
import Derived.Test.YtbpfggpljfpfcaaDoorQfp
namespace Go.Proofs.YtbpfggpljfpfcaaDoor
open Go.RowKit
set_option maxRecDepth 20000 in
set_option maxHeartbeats 64000000 in
theorem qfind_route (m : List UInt8) (s : ByteArray) (hs : s.size ≤ 140737488355328) (w : World) : Calls Tryd.prog 9 #[.string (bOf m), .string s] w fun e w' => e = .returned (.tuple #[rtV (findR m s.data.toList).1, .int .i64 (findR m s.data.toList).2]) ∧ Below w.heap.size w w' := by
  have hlen := size_list' s
  have H1 : Hid (∀ W : World, _) := fun W => qraw_any s hs W
  have HZ : Hid (splE s.data.toList = 0 → _) := spl_zero
  have P1 : Hid (splE s.data.toList ≠ 0 → findR m s.data.toList = (rt0, 400)) := find_bad
  have P2 : Hid (splE s.data.toList = 0 → rowsR (rawL s.data.toList) = [] → findR m s.data.toList = (rt0, 404)) := find_404
  have P3 : Hid (splE s.data.toList = 0 → rowsR (rawL s.data.toList) ≠ [] → (∀ r ∈ rowsR (rawL s.data.toList), r.1 ≠ m) → findR m s.data.toList = (rt0, 405)) := find_405
  have P4 : Hid (∀ (k : Nat) (r : Row), splE s.data.toList = 0 → (rowsR (rawL s.data.toList))[k]? = some r → r.1 = m → (∀ (j : Nat) y, j < k → (rowsR (rawL s.data.toList))[j]? = some y → y.1 ≠ m) → findR m s.data.toList = readR (fillR (rawL s.data.toList) r.2.1 r.2.2) (qryL s.data.toList) (hasQ s.data.toList)) := fun k r a b c d => find_row a b c d
  have P5 : Hid (∀ r ∈ rowsR (rawL s.data.toList), _) := fun r hr => row_kind hr
  have P6 := rows_len (rawL s.data.toList)
  have hql := bhd_len 63 s.data.toList.tail
  have htl : s.data.toList.tail.length ≤ s.data.toList.length := by rw [List.length_tail]; omega
  rw [show bhd 63 s.data.toList.tail = qryL s.data.toList from rfl] at hql
  have HRM : Hid (∀ p ∈ rawL s.data.toList, p.length ≤ s.data.toList.length) := fun p hp => raw_mem hp
  obtain ⟨t, ht⟩ : ∃ t, s.data.toList = t := ⟨_, rfl⟩
  rw [ht] at H1 HZ P1 P2 P3 P4 P5 P6 hlen hql htl HRM ⊢
  obtain ⟨L, hL⟩ : ∃ L, rawL t = L := ⟨_, rfl⟩
  rw [hL] at H1 HZ P2 P3 P4 P5 P6 HRM
  have H2 : Hid (∀ (a : Option Addr) (c : Nat) (W : World), TextsAt W a (L.map bOf) → _) := fun a c W h => qrows_any L a c W h
  obtain ⟨RR, hRR⟩ : ∃ RR, rowsR L = RR := ⟨_, rfl⟩
  rw [hRR] at H2 P2 P3 P4 P5 P6
  obtain ⟨er, her⟩ : ∃ er, splE t = er := ⟨_, rfl⟩
  rw [her] at H1 HZ P1 P2 P3 P4
  obtain ⟨q, hq⟩ : ∃ q, qryL t = q := ⟨_, rfl⟩
  obtain ⟨has, hh⟩ : ∃ has, hasQ t = has := ⟨_, rfl⟩
  rw [hq] at H1 P4 hql
  rw [hh] at H1 P4
  obtain ⟨F, hF⟩ : ∃ F, findR m t = F := ⟨_, rfl⟩
  rw [hF] at P1 P2 P3 P4 ⊢
  have hzl : er = 0 → q.length ≤ 1024 ∧ t.length ≤ 1024 := fun h => by have := (HZ.out h).1; omega
  have HQL : Hid (er = 0 → q.length ≤ 1024 ∧ t.length ≤ 1024) := hzl
  obtain ⟨ln, hln⟩ : ∃ ln, L.length = ln := ⟨_, rfl⟩
  unfold RawP at H1
  unfold RwP at H2
  rw [hln] at H1 H2
  have HLN : Hid (L.length = ln) := hln
  clear ht hL hRR her hq hh hF hlen hql htl hzl hln
  have HG0 : Hid _ := gb_start w
  obtain ⟨W1, hW1⟩ : ∃ W1, w.alloc (.cells #[.int .i64 0, .string ⟨#[]⟩, .string ⟨#[]⟩, .int .i64 0, .bool false] 23) = W1 := ⟨_, rfl⟩
  rw [hW1] at HG0
  have HW1 : Hid _ := hW1
  clear hW1
  go_enter Tryd.func9, Tryd.ntmps9
  go_wp2_with fail
  rw [HW1.out]
  clear HW1
  have HG1 : Hid (GB w W1) := HG0.out
  refine (H1.out W1).mono ?_
  rintro e w2 ⟨b2, (⟨hne, rfl⟩ | ⟨h0, a1, cp1, rfl, how1⟩)⟩
  · have hnz : (er != 0) = true := by simpa using hne
    have HG2 : Hid (GB w w2) := GB.on HG1.out b2
    have HR : Hid (F = (rt0, 400)) := P1.out hne
    clear b2 hne H1 H2 P1 P2 P3 P4 P5
    obtain ⟨z0, z1, z2, z3, z4⟩ := XB.cells HG2.out.1
    obtain ⟨f0, f1, f2, f3, f4⟩ := XB.free HG2.out.1
    obtain ⟨W9, hW9⟩ : ∃ W9, set5 w2 w.heap.size (.int .i64 0) (.string ⟨#[]⟩) (.string ⟨#[]⟩) (.int .i64 0) (.bool false) = W9 := ⟨_, rfl⟩
    have HX9 : Hid (XB W9 w.heap.size rt0) := by rw [Hid, ← hW9]; exact (GB.fin HG2.out rt0).1
    have HB9 : Hid (Below w.heap.size w W9) := by rw [Hid, ← hW9]; exact (GB.fin HG2.out rt0).2
    unfold set5 at hW9
    have HW9 : Hid _ := hW9
    clear hW9
    go_wp2_with fail
    rw [HW9.out]
    clear HW9 z0 z1 z2 z3 z4 f0 f1 f2 f3 f4
    obtain ⟨z0, z1, z2, z3, z4⟩ := XB.cells HX9.out
    refine bodyPost_ret (v := .tuple #[rtV rt0, .int .i64 400]) ?_ rfl ⟨by rw [HR.out], HB9.out⟩
    rw [results_cell_tmp rfl]
    unfold rtV rtA
    go_simp
  · subst h0
    have HG2 : Hid (GB w w2) := GB.on HG1.out b2
    have HTX2 : Hid (TextsAt w2 a1 (L.map bOf)) := row_texts how1
    have Q2 : Hid (RR = [] → F = (rt0, 404)) := P2.out rfl
    have Q3 : Hid (RR ≠ [] → (∀ r ∈ RR, r.1 ≠ m) → F = (rt0, 405)) := P3.out rfl
    have Q4 : Hid (∀ (k : Nat) (r : Row), RR[k]? = some r → r.1 = m → (∀ (j : Nat) y, j < k → RR[j]? = some y → y.1 ≠ m) → F = readR (fillR L r.2.1 r.2.2) q has) := fun k r => P4.out k r rfl
    have QU : Hid (∀ p ∈ L, (unesc p).isSome = true) := (HZ.out rfl).2.2
    obtain ⟨hqs, hts⟩ := HQL.out rfl
    clear b2 how1 H1 P1 P2 P3 P4 HZ HG0 HG1
    obtain ⟨rn, hrn⟩ : ∃ rn, RR.length = rn := ⟨_, rfl⟩
    rw [hrn] at P6 H2
    have HRN : Hid (RR.length = rn) := hrn
    clear hrn
    go_wp2_with fail
    refine (H2.out a1 cp1 w2 HTX2.out).mono ?_
    rintro e w3 ⟨a3, c3, rfl, hrw, b3⟩
    have HG3 : Hid (GB w w3) := GB.on HG2.out b3
    have HTX3 : Hid (TextsAt w3 a1 (L.map bOf)) := HTX2.out.below b3
    have HRW3 : Hid (RwA w3 a3 RR) := hrw
    clear b3 hrw H2 HG2 HTX2
    by_cases hr0 : rn = 0
    · have hrz : ((rn : Int) == 0) = true := by rw [beq_iff_eq]; omega
      have HR : Hid (F = (rt0, 404)) := Q2.out (List.eq_nil_of_length_eq_zero (HRN.out.trans hr0))
      clear hr0 Q2 Q3 Q4 P5
      obtain ⟨z0, z1, z2, z3, z4⟩ := XB.cells HG3.out.1
      obtain ⟨f0, f1, f2, f3, f4⟩ := XB.free HG3.out.1
      obtain ⟨W9, hW9⟩ : ∃ W9, set5 w3 w.heap.size (.int .i64 0) (.string ⟨#[]⟩) (.string ⟨#[]⟩) (.int .i64 0) (.bool false) = W9 := ⟨_, rfl⟩
      have HX9 : Hid (XB W9 w.heap.size rt0) := by rw [Hid, ← hW9]; exact (GB.fin HG3.out rt0).1
      have HB9 : Hid (Below w.heap.size w W9) := by rw [Hid, ← hW9]; exact (GB.fin HG3.out rt0).2
      unfold set5 at hW9
      have HW9 : Hid _ := hW9
      clear hW9
      go_wp2_with fail
      rw [HW9.out]
      clear HW9 z0 z1 z2 z3 z4 f0 f1 f2 f3 f4
      obtain ⟨z0, z1, z2, z3, z4⟩ := XB.cells HX9.out
      refine bodyPost_ret (v := .tuple #[rtV rt0, .int .i64 404]) ?_ rfl ⟨by rw [HR.out], HB9.out⟩
      rw [results_cell_tmp rfl]
      unfold rtV rtA
      go_simp
    have hrz : ((rn : Int) == 0) = false := by rw [beq_eq_false_iff_ne]; omega
    have HNE : Hid (RR ≠ []) := fun e => hr0 (by rw [← HRN.out, e]; rfl)
    clear hr0 Q2
    go_wp2_with fail
    go_loopw [38] (fun i wr => ∃ k : Nat, k ≤ rn ∧ i = .int .i64 (k : Nat) ∧ Hid (∀ (j : Nat) y, j < k → RR[j]? = some y → y.1 ≠ m) ∧ Hid (Below w3.heap.size w3 wr)) (fun i _ => rn - (intOf i).toNat)
    case atStart => exact ⟨0, by omega, rfl, fun j y h => (by omega), Below.refl _ _⟩
    case round =>
      obtain ⟨k, hk, rfl, HA, HB⟩ := hrel
      have HG : Hid (GB w wr) := GB.on HG3.out HB.out
      by_cases hlt : k < rn
      · have hlz : (k : Int) < (rn : Int) := by omega
        obtain ⟨r, hr⟩ : ∃ r, RR[k]? = some r := ⟨_, List.getElem?_eq_getElem (by rw [HRN.out]; exact hlt)⟩
        obtain ⟨b, off, rfl, hbl, c0, c1, c2⟩ := (HRW3.out.below HB.out) k r hr
        obtain ⟨rm, kd, me⟩ := r
        simp only at c0 c1 c2
        have hsz := HB.out.size
        by_cases hme : rm = m
        · have hmz : ((bOf rm).toList == (bOf m).toList) = true := toList_eq' (by rw [hme])
          have hR := Q4.out k (rm, kd, me) hr hme HA.out
          have hP5 := P5.out (rm, kd, me) (List.mem_of_getElem? hr)
          simp only at hR hP5
          obtain ⟨V1, hV1⟩ : ∃ V1, (wr.alloc (.cells #[.string (bOf rm), .int .i64 kd, .bool me] 57)).alloc (.cells #[.int .i64 kd, .string ⟨#[]⟩, .string ⟨#[]⟩, .int .i64 0, .bool me] 23) = V1 := ⟨_, rfl⟩
          have hbV : Below wr.heap.size wr V1 := by rw [← hV1]; exact ((Below.refl _ _).alloc (Nat.le_refl _) _).alloc (by simp) _
          have e1 : (wr.alloc (.cells #[.string (bOf rm), .int .i64 kd, .bool me] 57)).heap.size = wr.heap.size + 1 := by simp
          have HXV : Hid (XB V1 (wr.heap.size + 1) ⟨kd, [], [], 0, me⟩) := by rw [Hid, ← hV1, ← e1]; exact block_alloc_at _ _
          have HRV : Hid (V1.heap[wr.heap.size]? = some (.cells #[.string (bOf rm), .int .i64 kd, .bool me] 57 (0, 0))) := by rw [Hid, ← hV1]; exact alloc_old (block_alloc_at _ _)
          have HGV : Hid (GB w V1) := GB.on HG.out hbV
          have HTV : Hid (TextsAt V1 a1 (L.map bOf)) := (HTX3.out.below HB.out).below hbV
          have hgx : w.heap.size < wr.heap.size + 1 := by have := HG.out.2.size; omega
          have HVE : Hid _ := hV1
          have HR0 : Hid _ := hR
          clear hr hR hbV hV1 e1 hme
          go_upto_region 12 with fail
          rw [HVE.out]
          clear HVE c0 c1 c2
          rcases hP5 with ⟨la, hLa⟩ | ⟨la, lb, lr, hLa, hk8⟩
          · obtain rfl : ln = 1 := by rw [← HLN.out, hLa]; rfl
            have HFL : Hid (fillR L kd me = ⟨kd, [], [], 0, me⟩) := by rw [Hid, hLa]; rfl
            clear hLa
            have k1 : V1.cell? ⟨wr.heap.size, 1, none⟩ = some (.int .i64 kd) := cell_of_block HRV.out rfl
            by_cases hk8 : kd = 8
            · subst hk8
              have HR1 : Hid (F = readR ⟨8, [], [], 0, me⟩ q has) := by rw [Hid, HR0.out, HFL.out]
              obtain ⟨_, _, _, x3, _⟩ := XB.cells HXV.out
              obtain ⟨_, _, _, y3, _⟩ := XB.free HXV.out
              obtain ⟨V6, hV6⟩ : ∃ V6, V1.setCell ⟨wr.heap.size + 1, 3, none⟩ (.int .i64 1) = V6 := ⟨_, rfl⟩
              have HXV6 : Hid (XB V6 (wr.heap.size + 1) ⟨8, [], [], 1, me⟩) := by rw [Hid, ← hV6]; exact XB.frm HXV.out 1
              have HG6 : Hid (GB w V6) := by rw [Hid, ← hV6]; exact GB.set HGV.out hgx 3 _
              have k1' : V6.cell? ⟨wr.heap.size, 1, none⟩ = some (.int .i64 8) := by rw [← hV6]; exact cell_of_block ((Below.heap_setCell _ _ _ _ (show wr.heap.size ≠ wr.heap.size + 1 by omega)).trans HRV.out) rfl
              have HV6 : Hid _ := hV6
              clear hV6 HR0 HFL
              go_upto_region 19 with fail
              rw [show _ = V6 from HV6.out]
              clear HV6 x3 y3 k1
              cases has with
              | false =>
                have HR : Hid (F = (⟨8, [], [], 1, me⟩, 200)) := by rw [Hid, HR1.out]; exact read_1 rfl
                obtain ⟨x0, x1, x2, x3, x4⟩ := XB.cells HXV6.out
                obtain ⟨z0, z1, z2, z3, z4⟩ := XB.cells HG6.out.1
                obtain ⟨f0, f1, f2, f3, f4⟩ := XB.free HG6.out.1
                obtain ⟨W9, hW9⟩ : ∃ W9, setX V6 w.heap.size ⟨8, [], [], 1, me⟩ = W9 := ⟨_, rfl⟩
                have HX9 : Hid (XB W9 w.heap.size ⟨8, [], [], 1, me⟩) := by rw [Hid, ← hW9]; exact (GB.fin HG6.out ⟨8, [], [], 1, me⟩).1
                have HB9 : Hid (Below w.heap.size w W9) := by rw [Hid, ← hW9]; exact (GB.fin HG6.out ⟨8, [], [], 1, me⟩).2
                unfold setX set5 at hW9
                have HW9 : Hid _ := hW9
                clear hW9
                go_wp2_with fail
                rw [HW9.out]
                clear HW9 z0 z1 z2 z3 z4 f0 f1 f2 f3 f4
                obtain ⟨z0, z1, z2, z3, z4⟩ := XB.cells HX9.out
                refine bodyPost_ret (v := .tuple #[rtV ⟨8, [], [], 1, me⟩, .int .i64 200]) ?_ rfl ⟨by rw [HR.out], HB9.out⟩
                rw [results_cell_tmp rfl]
                unfold rtV rtA
                go_simp
              | true =>
                have HNO : Hid ((∀ k v, qryR q ≠ some [(k, v)]) → F = (rt0, 400)) := fun h => by rw [HR1.out]; exact read_no rfl h
                have HON : Hid (∀ k v, qryR q = some [(k, v)] → F = if k = wFrom ∧ (digR (bOf v) 999999999).2 = 0 then ((⟨8, [], [], (digR (bOf v) 999999999).1, me⟩ : Rt), (200 : Int)) else (rt0, 400)) := fun k v h => HR1.out.trans (read_one rfl h)
                have HQS : Hid (∀ l, qryR q = some l → ∀ x ∈ l, x.1.length ≤ q.length ∧ x.2.length ≤ q.length) := fun l h => qry_size h
                have H7 : Hid (∀ W : World, _) := fun W => qquery_any (bOf q) (by rw [bOf_size]; omega) W
                rw [show (bOf q).data.toList = q from rfl] at H7
                obtain ⟨R, hRq⟩ : ∃ R, qryR q = R := ⟨_, rfl⟩
                rw [hRq] at H7 HNO HON HQS
                unfold QryP at H7
                clear hRq HR1
                have HK1 : Hid (∀ W, Below V6.heap.size V6 W → W.cell? ⟨wr.heap.size, 1, none⟩ = some (.int .i64 8)) := fun W bw => cell_later bw k1'
                go_wp2_with fail
                refine (H7.out V6).mono ?_
                rintro e w7 ⟨b7, (⟨rfl, rfl⟩ | ⟨l, a7, c7, rfl, rfl, how⟩)⟩
                · have HR : Hid (F = (rt0, 400)) := HNO.out (fun _ _ h => by cases h)
                  have k7 := HK1.out w7 b7
                  have HG7 : Hid (GB w w7) := GB.on HG6.out b7
                  clear b7 k1'
                  obtain ⟨z0, z1, z2, z3, z4⟩ := XB.cells HG7.out.1
                  obtain ⟨f0, f1, f2, f3, f4⟩ := XB.free HG7.out.1
                  obtain ⟨W9, hW9⟩ : ∃ W9, set5 w7 w.heap.size (.int .i64 0) (.string ⟨#[]⟩) (.string ⟨#[]⟩) (.int .i64 0) (.bool false) = W9 := ⟨_, rfl⟩
                  have HX9 : Hid (XB W9 w.heap.size rt0) := by rw [Hid, ← hW9]; exact (GB.fin HG7.out rt0).1
                  have HB9 : Hid (Below w.heap.size w W9) := by rw [Hid, ← hW9]; exact (GB.fin HG7.out rt0).2
                  unfold set5 at hW9
                  have HW9 : Hid _ := hW9
                  clear hW9
                  go_wp2_with fail
                  rw [HW9.out]
                  clear HW9 z0 z1 z2 z3 z4 f0 f1 f2 f3 f4
                  obtain ⟨z0, z1, z2, z3, z4⟩ := XB.cells HX9.out
                  refine bodyPost_ret (v := .tuple #[rtV rt0, .int .i64 400]) ?_ rfl ⟨by rw [HR.out], HB9.out⟩
                  rw [results_cell_tmp rfl]
                  unfold rtV rtA
                  go_simp
                · have k7 := HK1.out w7 b7
                  have HG7 : Hid (GB w w7) := GB.on HG6.out b7
                  have HX7 : Hid (XB w7 (wr.heap.size + 1) ⟨8, [], [], 1, me⟩) := XB.below HXV6.out b7
                  clear b7 k1'
                  match l, how with
                  | [], how =>
                    have HR : Hid (F = (rt0, 400)) := HNO.out (fun _ _ h => by cases h)
                    simp only [List.length_nil]
                    clear how
                    obtain ⟨z0, z1, z2, z3, z4⟩ := XB.cells HG7.out.1
                    obtain ⟨f0, f1, f2, f3, f4⟩ := XB.free HG7.out.1
                    obtain ⟨W9, hW9⟩ : ∃ W9, set5 w7 w.heap.size (.int .i64 0) (.string ⟨#[]⟩) (.string ⟨#[]⟩) (.int .i64 0) (.bool false) = W9 := ⟨_, rfl⟩
                    have HX9 : Hid (XB W9 w.heap.size rt0) := by rw [Hid, ← hW9]; exact (GB.fin HG7.out rt0).1
                    have HB9 : Hid (Below w.heap.size w W9) := by rw [Hid, ← hW9]; exact (GB.fin HG7.out rt0).2
                    unfold set5 at hW9
                    have HW9 : Hid _ := hW9
                    clear hW9
                    go_wp2_with fail
                    rw [HW9.out]
                    clear HW9 z0 z1 z2 z3 z4 f0 f1 f2 f3 f4
                    obtain ⟨z0, z1, z2, z3, z4⟩ := XB.cells HX9.out
                    refine bodyPost_ret (v := .tuple #[rtV rt0, .int .i64 400]) ?_ rfl ⟨by rw [HR.out], HB9.out⟩
                    rw [results_cell_tmp rfl]
                    unfold rtV rtA
                    go_simp
                  | y :: z :: l, how =>
                    have HR : Hid (F = (rt0, 400)) := HNO.out (fun _ _ h => by cases h)
                    obtain ⟨n, hn⟩ : ∃ n, (y :: z :: l).length = n := ⟨_, rfl⟩
                    have hn2 : ((n : Int) != 1) = true := by rw [← hn]; simp; omega
                    rw [hn]
                    clear how hn
                    obtain ⟨z0, z1, z2, z3, z4⟩ := XB.cells HG7.out.1
                    obtain ⟨f0, f1, f2, f3, f4⟩ := XB.free HG7.out.1
                    obtain ⟨W9, hW9⟩ : ∃ W9, set5 w7 w.heap.size (.int .i64 0) (.string ⟨#[]⟩) (.string ⟨#[]⟩) (.int .i64 0) (.bool false) = W9 := ⟨_, rfl⟩
                    have HX9 : Hid (XB W9 w.heap.size rt0) := by rw [Hid, ← hW9]; exact (GB.fin HG7.out rt0).1
                    have HB9 : Hid (Below w.heap.size w W9) := by rw [Hid, ← hW9]; exact (GB.fin HG7.out rt0).2
                    unfold set5 at hW9
                    have HW9 : Hid _ := hW9
                    clear hW9
                    go_wp2_with fail
                    rw [HW9.out]
                    clear HW9 z0 z1 z2 z3 z4 f0 f1 f2 f3 f4
                    obtain ⟨z0, z1, z2, z3, z4⟩ := XB.cells HX9.out
                    refine bodyPost_ret (v := .tuple #[rtV rt0, .int .i64 400]) ?_ rfl ⟨by rw [HR.out], HB9.out⟩
                    rw [results_cell_tmp rfl]
                    unfold rtV rtA
                    go_simp
                  | [(kk, v)], how =>
                    have HFA : FA w7.heap.size w7 a7 ([(kk, v)].map fdOf) := fa_row (l := [(kk, v)].map fdOf) how
                    obtain ⟨bf, of7, rfl, _, d0, d1⟩ := HFA 0 ⟨bOf kk, bOf v⟩ rfl
                    have hvs : (bOf v).size ≤ 140737488355328 := by
                      have h1 : v.length ≤ q.length := (HQS.out _ rfl (kk, v) (List.mem_cons_self ..)).2
                      rw [bOf_size]
                      omega
                    have H8 : Hid (∀ W : World, _) := fun W => rdigits_any (bOf v) 999999999 hvs W
                    have HR9 : Hid (F = _) := HON.out kk v rfl
                    simp only [Nat.zero_mul, Nat.add_zero, List.length_cons, List.length_nil] at d0 d1 ⊢
                    clear how HFA hvs
                    by_cases hkf : kk = wFrom
                    · have hkz := from_eq hkf
                      obtain ⟨dn, de⟩ : ∃ p, digR (bOf v) 999999999 = p := ⟨_, rfl⟩
                      rw [de] at H8 HR9
                      obtain ⟨g1, g2⟩ := dn
                      simp only at H8 HR9
                      clear de
                      by_cases hz : g2 = 0
                      · subst hz
                        have HR : Hid (F = (⟨8, [], [], g1, me⟩, 200)) := by rw [Hid, HR9.out, if_pos ⟨hkf, rfl⟩]
                        clear HR9 hkf
                        obtain ⟨_, _, _, x3, _⟩ := XB.cells HX7.out
                        obtain ⟨_, _, _, y3, _⟩ := XB.free HX7.out
                        obtain ⟨V8, hV8⟩ : ∃ V8, w7.setCell ⟨wr.heap.size + 1, 3, none⟩ (.int .i64 g1) = V8 := ⟨_, rfl⟩
                        have HX8 : Hid (XB V8 (wr.heap.size + 1) ⟨8, [], [], g1, me⟩) := by rw [Hid, ← hV8]; exact XB.frm HX7.out g1
                        have HG8 : Hid (GB w V8) := by rw [Hid, ← hV8]; exact GB.set HG7.out hgx 3 _
                        have HV8 : Hid _ := hV8
                        clear hV8
                        go_wp2_with fail
                        refine (H8.out _).mono ?_
                        rintro e w8 ⟨rfl, hw8⟩
                        rw [hw8]
                        clear hw8 w8
                        go_upto_region 28 with fail
                        rw [show _ = V8 from HV8.out]
                        clear HV8 x3 y3 k7 d0 d1
                        obtain ⟨x0, x1, x2, x3, x4⟩ := XB.cells HX8.out
                        obtain ⟨z0, z1, z2, z3, z4⟩ := XB.cells HG8.out.1
                        obtain ⟨f0, f1, f2, f3, f4⟩ := XB.free HG8.out.1
                        obtain ⟨W9, hW9⟩ : ∃ W9, setX V8 w.heap.size ⟨8, [], [], g1, me⟩ = W9 := ⟨_, rfl⟩
                        have HX9 : Hid (XB W9 w.heap.size ⟨8, [], [], g1, me⟩) := by rw [Hid, ← hW9]; exact (GB.fin HG8.out ⟨8, [], [], g1, me⟩).1
                        have HB9 : Hid (Below w.heap.size w W9) := by rw [Hid, ← hW9]; exact (GB.fin HG8.out ⟨8, [], [], g1, me⟩).2
                        unfold setX set5 at hW9
                        have HW9 : Hid _ := hW9
                        clear hW9
                        go_wp2_with fail
                        rw [HW9.out]
                        clear HW9 z0 z1 z2 z3 z4 f0 f1 f2 f3 f4
                        obtain ⟨z0, z1, z2, z3, z4⟩ := XB.cells HX9.out
                        refine bodyPost_ret (v := .tuple #[rtV ⟨8, [], [], g1, me⟩, .int .i64 200]) ?_ rfl ⟨by rw [HR.out], HB9.out⟩
                        rw [results_cell_tmp rfl]
                        unfold rtV rtA
                        go_simp
                      · have hzz : (g2 != 0) = true := by simp [hz]
                        have HR : Hid (F = (rt0, 400)) := by rw [Hid, HR9.out, if_neg (fun h => hz h.2)]
                        clear HR9 hkf hz
                        go_wp2_with fail
                        refine (H8.out _).mono ?_
                        rintro e w8 ⟨rfl, hw8⟩
                        rw [hw8]
                        clear hw8 w8
                        obtain ⟨z0, z1, z2, z3, z4⟩ := XB.cells HG7.out.1
                        obtain ⟨f0, f1, f2, f3, f4⟩ := XB.free HG7.out.1
                        obtain ⟨W9, hW9⟩ : ∃ W9, set5 w7 w.heap.size (.int .i64 0) (.string ⟨#[]⟩) (.string ⟨#[]⟩) (.int .i64 0) (.bool false) = W9 := ⟨_, rfl⟩
                        have HX9 : Hid (XB W9 w.heap.size rt0) := by rw [Hid, ← hW9]; exact (GB.fin HG7.out rt0).1
                        have HB9 : Hid (Below w.heap.size w W9) := by rw [Hid, ← hW9]; exact (GB.fin HG7.out rt0).2
                        unfold set5 at hW9
                        have HW9 : Hid _ := hW9
                        clear hW9
                        go_wp2_with fail
                        rw [HW9.out]
                        clear HW9 z0 z1 z2 z3 z4 f0 f1 f2 f3 f4
                        obtain ⟨z0, z1, z2, z3, z4⟩ := XB.cells HX9.out
                        refine bodyPost_ret (v := .tuple #[rtV rt0, .int .i64 400]) ?_ rfl ⟨by rw [HR.out], HB9.out⟩
                        rw [results_cell_tmp rfl]
                        unfold rtV rtA
                        go_simp
                    · have hkz := from_ne hkf
                      have HR : Hid (F = (rt0, 400)) := by rw [Hid, HR9.out, if_neg (fun h => hkf h.1)]
                      clear HR9 hkf
                      obtain ⟨z0, z1, z2, z3, z4⟩ := XB.cells HG7.out.1
                      obtain ⟨f0, f1, f2, f3, f4⟩ := XB.free HG7.out.1
                      obtain ⟨W9, hW9⟩ : ∃ W9, set5 w7 w.heap.size (.int .i64 0) (.string ⟨#[]⟩) (.string ⟨#[]⟩) (.int .i64 0) (.bool false) = W9 := ⟨_, rfl⟩
                      have HX9 : Hid (XB W9 w.heap.size rt0) := by rw [Hid, ← hW9]; exact (GB.fin HG7.out rt0).1
                      have HB9 : Hid (Below w.heap.size w W9) := by rw [Hid, ← hW9]; exact (GB.fin HG7.out rt0).2
                      unfold set5 at hW9
                      have HW9 : Hid _ := hW9
                      clear hW9
                      go_wp2_with fail
                      rw [HW9.out]
                      clear HW9 z0 z1 z2 z3 z4 f0 f1 f2 f3 f4
                      obtain ⟨z0, z1, z2, z3, z4⟩ := XB.cells HX9.out
                      refine bodyPost_ret (v := .tuple #[rtV rt0, .int .i64 400]) ?_ rfl ⟨by rw [HR.out], HB9.out⟩
                      rw [results_cell_tmp rfl]
                      unfold rtV rtA
                      go_simp
            · have hkz : (kd == 8) = false := by simp [hk8]
              have hkz2 : (kd != 8) = true := by simp [hk8]
              cases has with
              | false =>
                have HR : Hid (F = (⟨kd, [], [], 0, me⟩, 200)) := by rw [Hid, HR0.out, HFL.out]; exact read_200 (by simpa using hkz)
                obtain ⟨x0, x1, x2, x3, x4⟩ := XB.cells HXV.out
                clear HR0
                obtain ⟨z0, z1, z2, z3, z4⟩ := XB.cells HGV.out.1
                obtain ⟨f0, f1, f2, f3, f4⟩ := XB.free HGV.out.1
                obtain ⟨W9, hW9⟩ : ∃ W9, setX V1 w.heap.size ⟨kd, [], [], 0, me⟩ = W9 := ⟨_, rfl⟩
                have HX9 : Hid (XB W9 w.heap.size ⟨kd, [], [], 0, me⟩) := by rw [Hid, ← hW9]; exact (GB.fin HGV.out ⟨kd, [], [], 0, me⟩).1
                have HB9 : Hid (Below w.heap.size w W9) := by rw [Hid, ← hW9]; exact (GB.fin HGV.out ⟨kd, [], [], 0, me⟩).2
                unfold setX set5 at hW9
                have HW9 : Hid _ := hW9
                clear hW9
                go_wp2_with fail
                rw [HW9.out]
                clear HW9 z0 z1 z2 z3 z4 f0 f1 f2 f3 f4
                obtain ⟨z0, z1, z2, z3, z4⟩ := XB.cells HX9.out
                refine bodyPost_ret (v := .tuple #[rtV ⟨kd, [], [], 0, me⟩, .int .i64 200]) ?_ rfl ⟨by rw [HR.out], HB9.out⟩
                rw [results_cell_tmp rfl]
                unfold rtV rtA
                go_simp
              | true =>
                have HR : Hid (F = (rt0, 400)) := by rw [Hid, HR0.out, HFL.out]; exact read_400 (by simpa using hkz)
                have H7 : Hid (∀ W : World, _) := fun W => qquery_any (bOf q) (by rw [bOf_size]; omega) W
                have HK1 : Hid (∀ W, Below V1.heap.size V1 W → W.cell? ⟨wr.heap.size, 1, none⟩ = some (.int .i64 kd)) := fun W bw => cell_later bw k1
                clear HR0
                go_wp2_with fail
                refine (H7.out V1).mono ?_
                intro e w7 hp7
                obtain ⟨a7, n7, c7, rfl, _, _, b7⟩ := hp7.pairs
                clear hp7
                have k1' := HK1.out w7 b7
                have HG7 : Hid (GB w w7) := GB.on HGV.out b7
                clear b7 k1
                obtain ⟨e7, he7⟩ : ∃ e7 : Int, (if qryR (bOf q).data.toList = none then 150 else 0) = e7 := ⟨_, rfl⟩
                rw [he7]
                clear he7
                obtain ⟨z0, z1, z2, z3, z4⟩ := XB.cells HG7.out.1
                obtain ⟨f0, f1, f2, f3, f4⟩ := XB.free HG7.out.1
                obtain ⟨W9, hW9⟩ : ∃ W9, set5 w7 w.heap.size (.int .i64 0) (.string ⟨#[]⟩) (.string ⟨#[]⟩) (.int .i64 0) (.bool false) = W9 := ⟨_, rfl⟩
                have HX9 : Hid (XB W9 w.heap.size rt0) := by rw [Hid, ← hW9]; exact (GB.fin HG7.out rt0).1
                have HB9 : Hid (Below w.heap.size w W9) := by rw [Hid, ← hW9]; exact (GB.fin HG7.out rt0).2
                unfold set5 at hW9
                have HW9 : Hid _ := hW9
                clear hW9
                go_wp2_with fail
                rw [HW9.out]
                clear HW9 z0 z1 z2 z3 z4 f0 f1 f2 f3 f4
                obtain ⟨z0, z1, z2, z3, z4⟩ := XB.cells HX9.out
                refine bodyPost_ret (v := .tuple #[rtV rt0, .int .i64 400]) ?_ rfl ⟨by rw [HR.out], HB9.out⟩
                rw [results_cell_tmp rfl]
                unfold rtV rtA
                go_simp
          · have hkz : (kd == 8) = false := by simpa using hk8
            have hkz2 : (kd != 8) = true := by simpa using hk8
            have h1l : (1 : Int) < (ln : Int) := by rw [← HLN.out, hLa]; simp; omega
            obtain ⟨u, hu⟩ : ∃ u, unesc lb = some u := Option.isSome_iff_exists.1 (QU.out lb (by rw [hLa]; simp))
            have hlb := HRM.out lb (by rw [hLa]; simp)
            have H3 : Hid (∀ W : World, _) := fun W => runescape_any (bOf lb) W (by rw [bOf_size]; omega)
            rw [show (bOf lb).data.toList = lb from rfl] at H3
            unfold unescV at H3
            rw [hu] at H3
            dsimp only at H3
            rw [show (⟨u.toArray⟩ : ByteArray) = bOf u from rfl] at H3
            obtain ⟨ga, oa, rfl, _, t0⟩ := HTV.out 0 (bOf la) (by rw [hLa]; rfl)
            obtain ⟨gb', ob', hbo, _, t1⟩ := HTV.out 1 (bOf lb) (by rw [hLa]; rfl)
            obtain ⟨rfl, rfl⟩ : ga = gb' ∧ oa = ob' := by cases hbo; exact ⟨rfl, rfl⟩
            have HT0 : Hid (∀ W, Below V1.heap.size V1 W → W.cell? ⟨ga, oa, none⟩ = some (.string (bOf la))) := fun W bw => by
              obtain ⟨g2, o2, hb2, _, t2⟩ := (HTV.out.below bw) 0 (bOf la) (by rw [hLa]; rfl)
              obtain ⟨rfl, rfl⟩ : ga = g2 ∧ oa = o2 := by cases hb2; exact ⟨rfl, rfl⟩
              exact t2
            rw [Nat.add_zero] at t0
            have HFU : Hid (la = wUsers → fillR L kd me = ⟨kd, [], u, 0, me⟩) := fun e => by rw [hLa]; unfold fillR; dsimp only; rw [if_pos e, hu]; rfl
            have HFT : Hid (la ≠ wUsers → fillR L kd me = ⟨kd, u, [], 0, me⟩) := fun e => by rw [hLa]; unfold fillR; dsimp only; rw [if_neg e, hu]; rfl
            clear hLa hbo hu hlb t0
            go_wp2_with fail
            refine (H3.out V1).mono ?_
            rintro e w5 ⟨rfl, b5⟩
            have t0 := HT0.out w5 b5
            have HX5 : Hid (XB w5 (wr.heap.size + 1) ⟨kd, [], [], 0, me⟩) := XB.below HXV.out b5
            have HR5 : Hid (w5.heap[wr.heap.size]? = some (.cells #[.string (bOf rm), .int .i64 kd, .bool me] 57 (0, 0))) := (b5.block _ (Array.getElem?_eq_some_iff.1 HRV.out).1).trans HRV.out
            have HG5 : Hid (GB w w5) := GB.on HGV.out b5
            obtain ⟨_, x1, x2, _, _⟩ := XB.cells HX5.out
            obtain ⟨_, y1, y2, _, _⟩ := XB.free HX5.out
            clear b5 H3 t1 HT0
            by_cases hus : la = wUsers
            · have huz : ((bOf la).toList == [117, 115, 101, 114, 115]) = true := by rw [cmp_const]; exact decide_eq_true hus
              have HFL : Hid (fillR L kd me = ⟨kd, [], u, 0, me⟩) := HFU.out hus
              obtain ⟨V6, hV6⟩ : ∃ V6, w5.setCell ⟨wr.heap.size + 1, 2, none⟩ (.string (bOf u)) = V6 := ⟨_, rfl⟩
              have HXV6 : Hid (XB V6 (wr.heap.size + 1) ⟨kd, [], u, 0, me⟩) := by rw [Hid, ← hV6]; exact XB.usr HX5.out u
              have HG6 : Hid (GB w V6) := by rw [Hid, ← hV6]; exact GB.set HG5.out hgx 2 _
              have k1 : V6.cell? ⟨wr.heap.size, 1, none⟩ = some (.int .i64 kd) := by rw [← hV6]; exact cell_of_block ((Below.heap_setCell _ _ _ _ (show wr.heap.size ≠ wr.heap.size + 1 by omega)).trans HR5.out) rfl
              have HV6 : Hid _ := hV6
              clear hV6 hus
              go_upto_region 17 with fail
              rw [show _ = V6 from HV6.out]
              clear HV6 x1 x2 y1 y2 t0
              cases has with
              | false =>
                have HR : Hid (F = (⟨kd, [], u, 0, me⟩, 200)) := by rw [Hid, HR0.out, HFL.out]; exact read_200 (by simpa using hkz)
                obtain ⟨x0, x1, x2, x3, x4⟩ := XB.cells HXV6.out
                clear HR0
                obtain ⟨z0, z1, z2, z3, z4⟩ := XB.cells HG6.out.1
                obtain ⟨f0, f1, f2, f3, f4⟩ := XB.free HG6.out.1
                obtain ⟨W9, hW9⟩ : ∃ W9, setX V6 w.heap.size ⟨kd, [], u, 0, me⟩ = W9 := ⟨_, rfl⟩
                have HX9 : Hid (XB W9 w.heap.size ⟨kd, [], u, 0, me⟩) := by rw [Hid, ← hW9]; exact (GB.fin HG6.out ⟨kd, [], u, 0, me⟩).1
                have HB9 : Hid (Below w.heap.size w W9) := by rw [Hid, ← hW9]; exact (GB.fin HG6.out ⟨kd, [], u, 0, me⟩).2
                unfold setX set5 at hW9
                have HW9 : Hid _ := hW9
                clear hW9
                go_wp2_with fail
                rw [HW9.out]
                clear HW9 z0 z1 z2 z3 z4 f0 f1 f2 f3 f4
                obtain ⟨z0, z1, z2, z3, z4⟩ := XB.cells HX9.out
                refine bodyPost_ret (v := .tuple #[rtV ⟨kd, [], u, 0, me⟩, .int .i64 200]) ?_ rfl ⟨by rw [HR.out], HB9.out⟩
                rw [results_cell_tmp rfl]
                unfold rtV rtA
                go_simp
              | true =>
                have HR : Hid (F = (rt0, 400)) := by rw [Hid, HR0.out, HFL.out]; exact read_400 (by simpa using hkz)
                have H7 : Hid (∀ W : World, _) := fun W => qquery_any (bOf q) (by rw [bOf_size]; omega) W
                have HK1 : Hid (∀ W, Below V6.heap.size V6 W → W.cell? ⟨wr.heap.size, 1, none⟩ = some (.int .i64 kd)) := fun W bw => cell_later bw k1
                clear HR0
                go_wp2_with fail
                refine (H7.out V6).mono ?_
                intro e w7 hp7
                obtain ⟨a7, n7, c7, rfl, _, _, b7⟩ := hp7.pairs
                clear hp7
                have k1' := HK1.out w7 b7
                have HG7 : Hid (GB w w7) := GB.on HG6.out b7
                clear b7 k1
                obtain ⟨e7, he7⟩ : ∃ e7 : Int, (if qryR (bOf q).data.toList = none then 150 else 0) = e7 := ⟨_, rfl⟩
                rw [he7]
                clear he7
                obtain ⟨z0, z1, z2, z3, z4⟩ := XB.cells HG7.out.1
                obtain ⟨f0, f1, f2, f3, f4⟩ := XB.free HG7.out.1
                obtain ⟨W9, hW9⟩ : ∃ W9, set5 w7 w.heap.size (.int .i64 0) (.string ⟨#[]⟩) (.string ⟨#[]⟩) (.int .i64 0) (.bool false) = W9 := ⟨_, rfl⟩
                have HX9 : Hid (XB W9 w.heap.size rt0) := by rw [Hid, ← hW9]; exact (GB.fin HG7.out rt0).1
                have HB9 : Hid (Below w.heap.size w W9) := by rw [Hid, ← hW9]; exact (GB.fin HG7.out rt0).2
                unfold set5 at hW9
                have HW9 : Hid _ := hW9
                clear hW9
                go_wp2_with fail
                rw [HW9.out]
                clear HW9 z0 z1 z2 z3 z4 f0 f1 f2 f3 f4
                obtain ⟨z0, z1, z2, z3, z4⟩ := XB.cells HX9.out
                refine bodyPost_ret (v := .tuple #[rtV rt0, .int .i64 400]) ?_ rfl ⟨by rw [HR.out], HB9.out⟩
                rw [results_cell_tmp rfl]
                unfold rtV rtA
                go_simp
            · have huz : ((bOf la).toList == [117, 115, 101, 114, 115]) = false := by rw [cmp_const]; exact decide_eq_false hus
              have HFL : Hid (fillR L kd me = ⟨kd, u, [], 0, me⟩) := HFT.out hus
              obtain ⟨V6, hV6⟩ : ∃ V6, w5.setCell ⟨wr.heap.size + 1, 1, none⟩ (.string (bOf u)) = V6 := ⟨_, rfl⟩
              have HXV6 : Hid (XB V6 (wr.heap.size + 1) ⟨kd, u, [], 0, me⟩) := by rw [Hid, ← hV6]; exact XB.tok HX5.out u
              have HG6 : Hid (GB w V6) := by rw [Hid, ← hV6]; exact GB.set HG5.out hgx 1 _
              have k1 : V6.cell? ⟨wr.heap.size, 1, none⟩ = some (.int .i64 kd) := by rw [← hV6]; exact cell_of_block ((Below.heap_setCell _ _ _ _ (show wr.heap.size ≠ wr.heap.size + 1 by omega)).trans HR5.out) rfl
              have HV6 : Hid _ := hV6
              clear hV6 hus
              go_upto_region 17 with fail
              rw [show _ = V6 from HV6.out]
              clear HV6 x1 x2 y1 y2 t0
              cases has with
              | false =>
                have HR : Hid (F = (⟨kd, u, [], 0, me⟩, 200)) := by rw [Hid, HR0.out, HFL.out]; exact read_200 (by simpa using hkz)
                obtain ⟨x0, x1, x2, x3, x4⟩ := XB.cells HXV6.out
                clear HR0
                obtain ⟨z0, z1, z2, z3, z4⟩ := XB.cells HG6.out.1
                obtain ⟨f0, f1, f2, f3, f4⟩ := XB.free HG6.out.1
                obtain ⟨W9, hW9⟩ : ∃ W9, setX V6 w.heap.size ⟨kd, u, [], 0, me⟩ = W9 := ⟨_, rfl⟩
                have HX9 : Hid (XB W9 w.heap.size ⟨kd, u, [], 0, me⟩) := by rw [Hid, ← hW9]; exact (GB.fin HG6.out ⟨kd, u, [], 0, me⟩).1
                have HB9 : Hid (Below w.heap.size w W9) := by rw [Hid, ← hW9]; exact (GB.fin HG6.out ⟨kd, u, [], 0, me⟩).2
                unfold setX set5 at hW9
                have HW9 : Hid _ := hW9
                clear hW9
                go_wp2_with fail
                rw [HW9.out]
                clear HW9 z0 z1 z2 z3 z4 f0 f1 f2 f3 f4
                obtain ⟨z0, z1, z2, z3, z4⟩ := XB.cells HX9.out
                refine bodyPost_ret (v := .tuple #[rtV ⟨kd, u, [], 0, me⟩, .int .i64 200]) ?_ rfl ⟨by rw [HR.out], HB9.out⟩
                rw [results_cell_tmp rfl]
                unfold rtV rtA
                go_simp
              | true =>
                have HR : Hid (F = (rt0, 400)) := by rw [Hid, HR0.out, HFL.out]; exact read_400 (by simpa using hkz)
                have H7 : Hid (∀ W : World, _) := fun W => qquery_any (bOf q) (by rw [bOf_size]; omega) W
                have HK1 : Hid (∀ W, Below V6.heap.size V6 W → W.cell? ⟨wr.heap.size, 1, none⟩ = some (.int .i64 kd)) := fun W bw => cell_later bw k1
                clear HR0
                go_wp2_with fail
                refine (H7.out V6).mono ?_
                intro e w7 hp7
                obtain ⟨a7, n7, c7, rfl, _, _, b7⟩ := hp7.pairs
                clear hp7
                have k1' := HK1.out w7 b7
                have HG7 : Hid (GB w w7) := GB.on HG6.out b7
                clear b7 k1
                obtain ⟨e7, he7⟩ : ∃ e7 : Int, (if qryR (bOf q).data.toList = none then 150 else 0) = e7 := ⟨_, rfl⟩
                rw [he7]
                clear he7
                obtain ⟨z0, z1, z2, z3, z4⟩ := XB.cells HG7.out.1
                obtain ⟨f0, f1, f2, f3, f4⟩ := XB.free HG7.out.1
                obtain ⟨W9, hW9⟩ : ∃ W9, set5 w7 w.heap.size (.int .i64 0) (.string ⟨#[]⟩) (.string ⟨#[]⟩) (.int .i64 0) (.bool false) = W9 := ⟨_, rfl⟩
                have HX9 : Hid (XB W9 w.heap.size rt0) := by rw [Hid, ← hW9]; exact (GB.fin HG7.out rt0).1
                have HB9 : Hid (Below w.heap.size w W9) := by rw [Hid, ← hW9]; exact (GB.fin HG7.out rt0).2
                unfold set5 at hW9
                have HW9 : Hid _ := hW9
                clear hW9
                go_wp2_with fail
                rw [HW9.out]
                clear HW9 z0 z1 z2 z3 z4 f0 f1 f2 f3 f4
                obtain ⟨z0, z1, z2, z3, z4⟩ := XB.cells HX9.out
                refine bodyPost_ret (v := .tuple #[rtV rt0, .int .i64 400]) ?_ rfl ⟨by rw [HR.out], HB9.out⟩
                rw [results_cell_tmp rfl]
                unfold rtV rtA
                go_simp
        · have hmz : ((bOf rm).toList == (bOf m).toList) = false := toList_ne (fun e => hme (bOf_inj e))
          have HA2 : Hid (∀ (j : Nat) y, j < k + 1 → RR[j]? = some y → y.1 ≠ m) := fun j y hj hy => by
            rcases Nat.lt_succ_iff_lt_or_eq.1 hj with h1 | rfl
            · exact HA.out j y h1 hy
            · rw [hr] at hy; cases hy; exact hme
          have HBA : Hid (∀ o, Below w3.heap.size w3 (wr.alloc o)) := fun o => HB.out.alloc hsz _
          clear hr hme
          go_wp2_with fail
          go_roundw
          case rel => exact ⟨k + 1, by omega, by go_num, HA2.out, HBA.out _⟩
          case measure => simp [intOf]; omega
      · obtain rfl : k = rn := by omega
        have hlz : ¬ (k : Int) < (k : Int) := by omega
        have HR : Hid (F = (rt0, 405)) := Q3.out HNE.out (fun r hr => by
          obtain ⟨j, hj, e⟩ := List.getElem_of_mem hr
          exact HA.out j r (by have := HRN.out; omega) (by rw [List.getElem?_eq_getElem hj, e]))
        clear Q3 Q4 P5
        obtain ⟨z0, z1, z2, z3, z4⟩ := XB.cells HG.out.1
        obtain ⟨f0, f1, f2, f3, f4⟩ := XB.free HG.out.1
        obtain ⟨W9, hW9⟩ : ∃ W9, set5 wr w.heap.size (.int .i64 0) (.string ⟨#[]⟩) (.string ⟨#[]⟩) (.int .i64 0) (.bool false) = W9 := ⟨_, rfl⟩
        have HX9 : Hid (XB W9 w.heap.size rt0) := by rw [Hid, ← hW9]; exact (GB.fin HG.out rt0).1
        have HB9 : Hid (Below w.heap.size w W9) := by rw [Hid, ← hW9]; exact (GB.fin HG.out rt0).2
        unfold set5 at hW9
        have HW9 : Hid _ := hW9
        clear hW9
        go_wp2_with fail
        rw [HW9.out]
        clear HW9 z0 z1 z2 z3 z4 f0 f1 f2 f3 f4
        obtain ⟨z0, z1, z2, z3, z4⟩ := XB.cells HX9.out
        refine bodyPost_ret (v := .tuple #[rtV rt0, .int .i64 405]) ?_ rfl ⟨by rw [HR.out], HB9.out⟩
        rw [results_cell_tmp rfl]
        unfold rtV rtA
        go_simp
end Go.Proofs.YtbpfggpljfpfcaaDoor
