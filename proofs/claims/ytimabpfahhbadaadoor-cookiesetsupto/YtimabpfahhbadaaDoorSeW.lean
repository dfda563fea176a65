/-
  The walks of CookieSets and CookieReads.
-/
import Derived.Test.YtimabpfahhbadaaDoorLiv
import Derived.Test.YtimabpfahhbadaaDoorQps
namespace Go.Proofs.YtimabpfahhbadaaDoor
open Go.RowKit
theorem psR_cut (v : ByteArray) : (psR v).2 = 0 ∨ psR v = (ckN, 190) := by
  unfold psR
  split
  · exact Or.inl rfl
  · exact Or.inr rfl
theorem psR_z {v : ByteArray} (h : v.size ≤ 1000000000) : ckZ 1000000000 (psR v).1 := by
  unfold psR
  split
  · exact rsR_z (split_sizes smb _ v _ h)
  · exact ck0_z (Nat.zero_le _) (Nat.zero_le _)
theorem set_small {c : Ck} {N : Nat} (hz : ckZ N c) : (setR c).1.size ≤ 6 * (2 * N + 30) := by
  rcases setR_cut c with h | h
  · have hm : mayR c = true ∧ (setR c).1 = jn (txK c 5) := by
      have e : setR c = ((setR c).1, 0) := Prod.ext rfl h
      exact ⟨(setR_ok e).1, (setR_ok e).2⟩
    rw [hm.2]
    have ha := (may_parts hm.1).2.2.2.1
    obtain ⟨z0, z1, z2, z3⟩ := hz
    have hi := itB_ten ha.1 ha.2
    have hx : ∀ j, ∀ x ∈ txs c j, x.size ≤ 2 * N + 28 := fun j x hx => by
      cases hh : hasK c j with
      | false => rw [txs_not hh] at hx; cases hx
      | true =>
        rw [txs_has hh, List.mem_singleton] at hx
        subst hx
        rw [ByteArray.size_append]
        match j with
        | 0 => show 5 + c.path.size ≤ _; omega
        | 1 => show 8 + (itB c.age).size ≤ _; omega
        | 2 => show 8 + 0 ≤ _; omega
        | 3 => show 6 + 0 ≤ _; omega
        | n + 4 => show 9 + c.same.size ≤ _; omega
    have hk : ∀ k, ∀ x ∈ txK c k, x.size ≤ 2 * N + 28 := fun k => by
      induction k with
      | zero =>
        intro x hq
        rw [txK, List.mem_singleton] at hq
        subst hq
        rw [prt_size]
        show c.name.size + c.value.size + 1 ≤ _
        omega
      | succ k ih =>
        intro x hq
        rw [txK, List.mem_append] at hq
        rcases hq with hq | hq
        · exact ih x hq
        · exact hx k x hq
    have hs := hk 5
    have hl := (txK_len c 5 (by omega)).2
    cases hq : txK c 5 with
    | nil => simp [jn, Lib.join_nil, ByteArray.size]
    | cons t ts =>
      rw [hq] at hs hl
      have h1 := jn_le t ts _ hs
      rw [List.length_cons] at hl
      have h2 : (ts.length + 1) * (2 * N + 28 + 2) ≤ 6 * (2 * N + 28 + 2) := Nat.mul_le_mul_right _ (by omega)
      exact Nat.le_trans h1 h2
  · rw [h]; exact Nat.zero_le _
theorem tabB {w W : World} (h : TabP w) (b : Below w.heap.size w W) : TabP W := tab_below h b
set_option maxRecDepth 20000 in
set_option maxHeartbeats 8000000 in
theorem sets_walk (c : Ck) (hz : ckZ 2000000 c) (m : Int) (w : World) (hm : w.cell? ⟨0, 0, none⟩ = some (.int .i64 m)) (ht : TabP w) :
    Calls Tryd.prog 6 #[ckV c] w fun e w' => e = .returned (.bool true) ∧ Below w.heap.size w w' := by
  have HM : Hid (∀ W, Below w.heap.size w W → W.cell? ⟨0, 0, none⟩ = some (.int .i64 m)) := fun W b => mx_below hm b
  have HTB : Hid (∀ W, Below w.heap.size w W → TabP W) := fun W b => tab_below ht b
  have hzz : ckZ 1000000000 c := ⟨by have := hz.1; omega, by have := hz.2.1; omega, by have := hz.2.2.1; omega, by have := hz.2.2.2; omega⟩
  have H1 : Hid (∀ W, Below w.heap.size w W → _) := fun W b => set_any c hzz W (fun _ => HTB.out W b)
  have H2 : Hid (∀ W : World, _) := fun W => qset_any c hzz W
  have H3 : Hid (∀ W, Below w.heap.size w W → _) := fun W b => lives_any m W (HM.out W b)
  have hsz : (setR c).1.size ≤ 1000000000 := by have := set_small hz; omega
  have H4 : Hid (∀ W, Below w.heap.size w W → _) := fun W b => parseSet_any (setR c).1 hsz m W (HM.out W b) (HTB.out W b)
  have HP : Hid ((setR c).2 = 0 → psR (setR c).1 = (c, 0)) := set_ps
  have hcut := setR_cut c
  obtain ⟨R, hR⟩ : ∃ R, setR c = R := ⟨_, rfl⟩
  rw [hR] at H1 H2 H4 HP hcut
  clear hR hm ht hz hzz hsz
  obtain ⟨rs, re⟩ := R
  simp only at H1 H2 H4 HP hcut
  have e1 : (rs.toList == rs.toList) = true := by simp
  have e2 : (re != re) = false := by simp
  obtain ⟨W0, hW0⟩ : ∃ W0, w.alloc (.cells (ckA c) 37) = W0 := ⟨_, rfl⟩
  have HB0 : Hid (Below w.heap.size w W0) := by rw [Hid, ← hW0]; exact (Below.refl _ _).alloc (Nat.le_refl _) _
  have HX0 : Hid (CkB W0 w.heap.size c) := by rw [Hid, ← hW0]; exact block_alloc_at _ _
  obtain ⟨c0, c1, c2, c3, c4, c5, c6, c7⟩ := ck_cells HX0.out
  unfold ckA at hW0
  unfold ckV at H1 H2 ⊢
  go_enter Tryd.func6, Tryd.ntmps6
  go_wp2_with fail
  try rw [hW0]
  refine (H1.out _ HB0.out).mono ?_
  rintro e w1 ⟨rfl, b1⟩
  have HB1 : Hid (Below w.heap.size w w1) := HB0.out.trans (b1.mono HB0.out.size)
  have HX1 : Hid (CkB w1 w.heap.size c) := HX0.out.below b1
  clear b1 c0 c1 c2 c3 c4 c5 c6 c7 hW0
  obtain ⟨c0, c1, c2, c3, c4, c5, c6, c7⟩ := ck_cells HX1.out
  go_wp2_with fail
  refine (H2.out _).mono ?_
  rintro e w2 ⟨rfl, b2⟩
  have HB2 : Hid (Below w.heap.size w w2) := HB1.out.trans (b2.mono HB1.out.size)
  have HX2 : Hid (CkB w2 w.heap.size c) := HX1.out.below b2
  clear b2 c0 c1 c2 c3 c4 c5 c6 c7
  go_wp2_with fail
  refine (H3.out _ HB2.out).mono ?_
  rintro e w3 ⟨rfl, b3⟩
  have HB3 : Hid (Below w.heap.size w w3) := HB2.out.trans (b3.mono HB2.out.size)
  have HX3 : Hid (CkB w3 w.heap.size c) := HX2.out.below b3
  clear b3
  rcases hcut with h0 | h0
  · subst h0
    have hpr := HP.out rfl
    rw [hpr] at H4
    simp only [ckV] at H4
    go_wp2_with fail
    refine (H4.out _ HB3.out).mono ?_
    rintro e w4 ⟨rfl, b4⟩
    have HB4 : Hid (Below w.heap.size w w4) := HB3.out.trans (b4.mono HB3.out.size)
    have HX4 : Hid (CkB w4 w.heap.size c) := HX3.out.below b4
    clear b4
    obtain ⟨W5, hW5⟩ : ∃ W5, w4.alloc (.cells (ckA c) 37) = W5 := ⟨_, rfl⟩
    have HB5 : Hid (Below w.heap.size w W5) := by rw [Hid, ← hW5]; exact HB4.out.alloc HB4.out.size _
    have HX5 : Hid (CkB W5 w.heap.size c) := by rw [Hid, ← hW5]; exact HX4.out.alloc _
    have HC5 : Hid (CkB W5 w4.heap.size c) := by rw [Hid, ← hW5]; exact block_alloc_at _ _
    unfold ckA at hW5
    have HW5 : Hid _ := hW5
    clear hW5
    obtain ⟨c0, c1, c2, c3, c4, c5, c6, c7⟩ := ck_cells HX5.out
    obtain ⟨d0, d1, d2, d3, d4, d5, d6, d7⟩ := ck_cells HC5.out
    obtain ⟨nm, vl, pa, ag, hs, hh, sc, sm⟩ := c
    simp only at c0 c1 c2 c3 c4 c5 c6 c7 d0 d1 d2 d3 d4 d5 d6 d7 HW5
    have n0 : (nm.toList == nm.toList) = true := by simp
    have n1 : (vl.toList == vl.toList) = true := by simp
    have n2 : (pa.toList == pa.toList) = true := by simp
    have n3 : (ag == ag) = true := by simp
    have n4 : (hs == hs) = true := by simp
    have n5 : (hh == hh) = true := by simp
    have n6 : (sc == sc) = true := by simp
    have n7 : (sm.toList == sm.toList) = true := by simp
    go_upto_region 8 with fail
    rw [HW5.out]
    go_wp2_with fail
    go_ret
    exact ⟨rfl, HB5.out⟩
  · obtain ⟨rfl, rfl⟩ : rs = ⟨#[]⟩ ∧ re = 190 := by cases h0; exact ⟨rfl, rfl⟩
    go_wp2_with fail
    go_ret
    exact ⟨rfl, HB3.out⟩
set_option maxRecDepth 20000 in
set_option maxHeartbeats 8000000 in
theorem reads_walk (v : ByteArray) (hs : v.size ≤ 1000000000) (m : Int) (w : World) (hm : w.cell? ⟨0, 0, none⟩ = some (.int .i64 m)) (ht : TabP w) :
    Calls Tryd.prog 7 #[.string v] w fun e w' => e = .returned (.bool true) ∧ Below w.heap.size w w' := by
  have HM : Hid (∀ W, Below w.heap.size w W → W.cell? ⟨0, 0, none⟩ = some (.int .i64 m)) := fun W b => mx_below hm b
  have HTB : Hid (∀ W, Below w.heap.size w W → TabP W) := fun W b => tab_below ht b
  have H1 : Hid (∀ W, Below w.heap.size w W → _) := fun W b => parseSet_any v hs m W (HM.out W b) (HTB.out W b)
  have H2 : Hid (∀ W : World, _) := fun W => qparseSet_any v hs W
  have H3 : Hid (∀ W, Below w.heap.size w W → _) := fun W b => lives_any m W (HM.out W b)
  have HZ := psR_z hs
  have H4 : Hid (∀ W, Below w.heap.size w W → _) := fun W b => set_any (psR v).1 HZ W (fun _ => HTB.out W b)
  have HP : Hid ((psR v).2 = 0 → setR (psR v).1 = (v, 0)) := ps_set
  have hcut := psR_cut v
  obtain ⟨R, hR⟩ : ∃ R, psR v = R := ⟨_, rfl⟩
  rw [hR] at H1 H2 H4 HP hcut
  clear hR hm ht HZ
  obtain ⟨C, re⟩ := R
  simp only at H1 H2 H4 HP hcut
  have e1 : (v.toList == v.toList) = true := by simp
  have e2 : (re != re) = false := by simp
  simp only [ckV] at H1 H2 H4
  have n0 : (C.name.toList == C.name.toList) = true := by simp
  have n1 : (C.value.toList == C.value.toList) = true := by simp
  have n2 : (C.path.toList == C.path.toList) = true := by simp
  have n3 : (C.age == C.age) = true := by simp
  have n4 : (C.has == C.has) = true := by simp
  have n5 : (C.http == C.http) = true := by simp
  have n6 : (C.sec == C.sec) = true := by simp
  have n7 : (C.same.toList == C.same.toList) = true := by simp
  go_enter Tryd.func7, Tryd.ntmps7
  go_wp2_with fail
  refine (H1.out _ (Below.refl _ _)).mono ?_
  rintro e w1 ⟨rfl, b1⟩
  have HB1 : Hid (Below w.heap.size w w1) := b1
  clear b1
  obtain ⟨V1, hV1⟩ : ∃ V1, w1.alloc (.cells (ckA C) 37) = V1 := ⟨_, rfl⟩
  have HBV1 : Hid (Below w.heap.size w V1) := by rw [Hid, ← hV1]; exact HB1.out.alloc HB1.out.size _
  have HCV1 : Hid (CkB V1 w1.heap.size C) := by rw [Hid, ← hV1]; exact block_alloc_at _ _
  unfold ckA at hV1
  have HV1 : Hid _ := hV1
  clear hV1
  go_upto_region 2 with fail
  rw [HV1.out]
  go_wp2_with fail
  refine (H2.out _).mono ?_
  rintro e w2 ⟨rfl, b2⟩
  have HB2 : Hid (Below w.heap.size w w2) := HBV1.out.trans (b2.mono HBV1.out.size)
  have HC2 : Hid (CkB w2 w1.heap.size C) := HCV1.out.below b2
  clear b2
  obtain ⟨V2, hV2⟩ : ∃ V2, w2.alloc (.cells (ckA C) 37) = V2 := ⟨_, rfl⟩
  have HBV2 : Hid (Below w.heap.size w V2) := by rw [Hid, ← hV2]; exact HB2.out.alloc HB2.out.size _
  have HCV2 : Hid (CkB V2 w1.heap.size C) := by rw [Hid, ← hV2]; exact HC2.out.alloc _
  have HDV2 : Hid (CkB V2 w2.heap.size C) := by rw [Hid, ← hV2]; exact block_alloc_at _ _
  unfold ckA at hV2
  have HV2 : Hid _ := hV2
  clear hV2
  go_upto_region 3 with fail
  rw [HV2.out]
  go_wp2_with fail
  refine (H3.out _ HBV2.out).mono ?_
  rintro e w3 ⟨rfl, b3⟩
  have HB3 : Hid (Below w.heap.size w w3) := HBV2.out.trans (b3.mono HBV2.out.size)
  obtain ⟨c0, c1, c2, c3, c4, c5, c6, c7⟩ := ck_cells (CkB.below HCV2.out b3)
  obtain ⟨d0, d1, d2, d3, d4, d5, d6, d7⟩ := ck_cells (CkB.below HDV2.out b3)
  clear b3
  rcases hcut with h0 | h0
  · subst h0
    have hpr := HP.out rfl
    rw [hpr] at H4
    go_wp2_with fail
    refine (H4.out _ HB3.out).mono ?_
    rintro e w4 ⟨rfl, b4⟩
    go_wp2_with fail
    go_ret
    exact ⟨rfl, HB3.out.trans (b4.mono HB3.out.size)⟩
  · obtain rfl : re = 190 := by cases h0; rfl
    go_wp2_with fail
    go_ret
    exact ⟨rfl, HB3.out⟩
end Go.Proofs.YtimabpfahhbadaaDoor
