/-
  The walk of RouteSplits.
-/
import Derived.Test.YtbpfggpljfpfcaaDoorAwk
namespace Go.Proofs.YtbpfggpljfpfcaaDoor
open Go.RowKit
/-- Behind RawP: a slice and its texts, or none. -/
theorem RawP.texts {w w' : World} {l : List (List UInt8)} {q : List UInt8} {has : Bool} {er : Int} {e : Ending} (h : RawP w l q has er e w') : ∃ a n c q' h', e = .returned (.tuple #[.slice a n c, .string q', .bool h', .int .i64 er]) ∧ n = (if er = 0 then l else []).length ∧ q' = bOf (if er = 0 then q else []) ∧ h' = (if er = 0 then has else false) ∧ TextsAt w' a ((if er = 0 then l else []).map bOf) ∧ Below w.heap.size w w' := by
  obtain ⟨b, (⟨h0, rfl⟩ | ⟨h0, a, c, rfl, how⟩)⟩ := h
  · refine ⟨none, 0, 0, _, _, rfl, by rw [if_neg h0]; rfl, by rw [if_neg h0]; rfl, by rw [if_neg h0], by rw [if_neg h0]; exact fun j z hj => (by simp at hj), b⟩
  · subst h0
    exact ⟨a, _, c, _, _, rfl, by rw [if_pos rfl], by rw [if_pos rfl], by rw [if_pos rfl], by rw [if_pos rfl]; exact row_texts how, b⟩
theorem QryP.pairs {w w' : World} {r : Option (List (List UInt8 × List UInt8))} {e : Ending} (h : QryP w r e w') : ∃ a n c, e = .returned (.tuple #[.slice a n c, .int .i64 (if r = none then 150 else 0)]) ∧ n = (r.getD []).length ∧ FA w'.heap.size w' a ((r.getD []).map fdOf) ∧ Below w.heap.size w w' := by
  obtain ⟨b, (⟨rfl, rfl⟩ | ⟨l, a, c, rfl, rfl, how⟩)⟩ := h
  · exact ⟨none, 0, 0, rfl, rfl, FA.nil _ _ _, b⟩
  · exact ⟨a, _, c, rfl, rfl, fa_row (l := l.map fdOf) (by rw [List.length_map]; exact how), b⟩
set_option maxRecDepth 20000 in
set_option maxHeartbeats 32000000 in
theorem splits_walk (s u : ByteArray) (hs : s.size ≤ 140737488355328) (hu : u.size ≤ 1000000000) (mx : Int) (w : World) (hm : w.cell? ⟨0, 0, none⟩ = some (.int .i64 mx)) : Calls Tryd.prog 4 #[.string s, .string u] w fun e w' => e = .returned (.bool true) ∧ Below w.heap.size w w' := by
  have HMX : Hid (∀ W, Below w.heap.size w W → W.cell? ⟨0, 0, none⟩ = some (.int .i64 mx)) := fun W b => mx_below hm b
  have H1 : Hid (∀ W, Below w.heap.size w W → _) := fun W b => split_route s hs mx W (HMX.out W b)
  have H2 : Hid (∀ W : World, _) := fun W => qsplit_any s hs W
  have H3 : Hid (∀ W, Below w.heap.size w W → _) := fun W b => awake_any mx W (HMX.out W b)
  have H4 : Hid (∀ W, Below w.heap.size w W → _) := fun W b => query_any u hu mx W (HMX.out W b)
  have H5 : Hid (∀ W : World, _) := fun W => qquery_any u hu W
  have hpl : (if splE s.data.toList = 0 then pcsL s.data.toList else []).length ≤ 1025 := by
    by_cases h : splE s.data.toList = 0
    · rw [if_pos h, pcs_map, List.length_map]
      have := raw_len s.data.toList
      have := (spl_zero h).1
      omega
    · rw [if_neg h]; decide
  have hrl : ((qryR u.data.toList).getD []).length ≤ 1000000001 := by
    cases h : qryR u.data.toList with
    | none => exact Nat.zero_le _
    | some l =>
      show l.length ≤ _
      unfold qryR at h
      by_cases hq : u.data.toList = []
      · rw [if_pos hq] at h; cases h; exact Nat.zero_le _
      · rw [if_neg hq] at h
        have h1 := pairs_len h
        have h2 := cutL_len 38 u.data.toList
        have h3 := size_list' u
        omega
  obtain ⟨t, ht⟩ : ∃ t, s.data.toList = t := ⟨_, rfl⟩
  rw [ht] at H1 H2 hpl
  obtain ⟨R, hR⟩ : ∃ R, qryR u.data.toList = R := ⟨_, rfl⟩
  rw [hR] at H4 H5 hrl
  clear hm ht hR
  obtain ⟨L, hL⟩ : ∃ L, (if splE t = 0 then pcsL t else []) = L := ⟨_, rfl⟩
  rw [hL] at hpl
  have HL : Hid _ := hL
  clear hL
  go_enter Tryd.func4, Tryd.ntmps4
  go_wp2_with fail
  refine (H1.out w (Below.refl _ _)).mono ?_
  intro e w1 hp1
  obtain ⟨a1, n1, c1, q1, h1, rfl, hn1, hq1, hh1, ht1, b1⟩ := hp1.texts
  clear hp1
  have HB1 : Hid (Below w.heap.size w w1) := b1
  have E1 : Hid (n1 = _) := hn1
  have E2 : Hid (q1 = _) := hq1
  have E3 : Hid (h1 = _) := hh1
  have E4 : Hid (TextsAt w1 a1 _) := ht1
  obtain ⟨er, her⟩ : ∃ er, splE t = er := ⟨_, rfl⟩
  rw [her] at E1 E2 E3 E4 H2 HL ⊢
  clear hn1 hq1 hh1 ht1 b1 her
  go_wp2_with fail
  refine (H2.out w1).mono ?_
  intro e w2 hp2
  obtain ⟨a2, n2, c2, q2, h2, rfl, hn2, hq2, hh2, ht2, b2⟩ := hp2.texts
  clear hp2
  have hn1 := E1.out
  have hq1 := E2.out
  have hh1 := E3.out
  have ht1 := E4.out
  rw [HL.out] at hn1 ht1 hn2 ht2
  obtain rfl : n1 = n2 := hn1.trans hn2.symm
  obtain rfl : q1 = q2 := hq1.trans hq2.symm
  obtain rfl : h1 = h2 := hh1.trans hh2.symm
  have HB2 : Hid (Below w.heap.size w w2) := HB1.out.trans (b2.mono HB1.out.size)
  have HT1 : Hid (TextsAt w2 a1 (L.map bOf)) := ht1.below b2
  have HT2 : Hid (TextsAt w2 a2 (L.map bOf)) := ht2
  have HN1 : Hid (n1 = L.length) := hn1
  have z1 : (q1.toList == q1.toList) = true := by simp
  have z2 : (h1 != h1) = false := by simp
  have z3 : (er != er) = false := by simp
  clear b2 ht1 ht2 hn1 hn2 hq1 hq2 hh1 hh2 H1 H2 HL E1 E2 E3 E4
  go_wp2_with fail
  refine (H3.out w2 HB2.out).mono ?_
  rintro e w3 ⟨rfl, b3⟩
  have HB3 : Hid (Below w.heap.size w w3) := HB2.out.trans (b3.mono HB2.out.size)
  have H6 : Hid (∀ _ : Unit, _) := fun _ => same_eq a1 a2 c1 c2 (L.map bOf) w3 (HT1.out.below b3) (HT2.out.below b3) (by rw [List.length_map]; omega)
  rw [List.length_map, ← HN1.out] at H6
  clear b3 H3
  go_wp2_with fail
  refine (H6.out ()).mono ?_
  rintro e w4 ⟨rfl, b4⟩
  have HB4 : Hid (Below w.heap.size w w4) := HB3.out.trans (b4.mono HB3.out.size)
  clear b4 H6
  go_wp2_with fail
  refine (H4.out w4 HB4.out).mono ?_
  intro e w5 hp5
  obtain ⟨a5, n5, c5, rfl, hn5, hf5, b5⟩ := hp5.pairs
  clear hp5
  have HB5 : Hid (Below w.heap.size w w5) := HB4.out.trans (b5.mono HB4.out.size)
  have HF5 : Hid (FA w5.heap.size w5 a5 ((R.getD []).map fdOf)) := hf5
  have E5 : Hid (n5 = _) := hn5
  obtain ⟨eq, heq⟩ : ∃ eq : Int, (if R = none then 150 else 0) = eq := ⟨_, rfl⟩
  have E6 : Hid _ := heq
  rw [heq]
  clear b5 hf5 H4 hn5 heq
  go_wp2_with fail
  refine (H5.out w5).mono ?_
  intro e w6 hp6
  obtain ⟨a6, n6, c6, rfl, hn6, hf6, b6⟩ := hp6.pairs
  clear hp6
  have hn5 := E5.out
  obtain rfl : n5 = n6 := hn5.trans hn6.symm
  have HB6 : Hid (Below w.heap.size w w6) := HB5.out.trans (b6.mono HB5.out.size)
  have HF6 : Hid (FA w6.heap.size w6 a6 ((R.getD []).map fdOf)) := hf6
  have HF5' : Hid (FA w6.heap.size w6 a5 ((R.getD []).map fdOf)) := FA.up (FA.below HF5.out (fun b hb => b6.block b hb)) b6.size
  have HN5 : Hid (n5 = (R.getD []).length) := hn5
  obtain ⟨l, hl⟩ : ∃ l, R.getD [] = l := ⟨_, rfl⟩
  rw [hl] at hrl HF6 HF5' HN5
  have hn5' : n5 ≤ 1000000001 := by have := HN5.out; omega
  rw [E6.out]
  have z4 : ((n5 : Int) != (n5 : Int)) = false := by simp
  have z5 : (eq != eq) = false := by simp
  clear b6 hf6 H5 hn5 hn6 HF5 hl E5 E6
  go_wp2_with fail
  go_loopw [77] (fun i wr => ∃ k nd : Nat, k ≤ n5 ∧ i = .int .i64 (k : Nat) ∧ wr = w6.drewN nd) (fun i _ => n5 - (intOf i).toNat)
  case atStart => exact ⟨0, 0, by omega, rfl, rfl⟩
  case round =>
    obtain ⟨k, nd, hk, rfl, rfl⟩ := hrel
    by_cases hlt : k < n5
    · have hlz : (k : Int) < (n5 : Int) := by omega
      obtain ⟨x, hx⟩ : ∃ x, (l.map fdOf)[k]? = some x := ⟨_, List.getElem?_eq_getElem (by rw [List.length_map, ← HN5.out]; exact hlt)⟩
      obtain ⟨b, off, rfl, _, k0, k1⟩ := HF5'.out k x hx
      obtain ⟨b', off', rfl, _, j0, j1⟩ := HF6.out k x hx
      obtain ⟨xn, xv⟩ := x
      simp only at k0 k1 j0 j1
      have k0' : (w6.drewN nd).cell? ⟨b, off + k * 2, none⟩ = some (.string xn) := k0
      have k1' : (w6.drewN nd).cell? ⟨b, off + k * 2 + 1, none⟩ = some (.string xv) := k1
      have j0' : (w6.drewN nd).cell? ⟨b', off' + k * 2, none⟩ = some (.string xn) := j0
      have j1' : (w6.drewN nd).cell? ⟨b', off' + k * 2 + 1, none⟩ = some (.string xv) := j1
      have y0 : (xn.toList == xn.toList) = true := by simp
      have y1 : (xv.toList == xv.toList) = true := by simp
      obtain ⟨W, hW⟩ : ∃ W, w6.drewN nd = W := ⟨_, rfl⟩
      have HW : Hid _ := hW
      rw [hW] at k0' k1' j0' j1' ⊢
      clear hx hW k0 k1 j0 j1
      go_wp2_with fail
      go_quiet (fail)
      go_wp2_with fail
      go_roundw
      case rel => exact ⟨k + 1, nd + nq, by omega, by go_num, by rw [← HW.out]; first | rfl | (simp [World.drewN, Nat.add_assoc])⟩
      case measure => simp [intOf]; omega
    · obtain rfl : k = n5 := by omega
      have hlz : ¬ (k : Int) < (k : Int) := by omega
      go_wp2_with fail
      go_ret
      exact ⟨rfl, below_drewN' HB6.out nd⟩
end Go.Proofs.YtbpfggpljfpfcaaDoor
