/-
  The contract of the twin's Methods.
-/
import Derived.Test.YtbpfggpljfpfcaaDoorQro
namespace Go.Proofs.YtbpfggpljfpfcaaDoor
open Go.RowKit
theorem mrow_snoc {RR : List Row} {k : Nat} {r : Row} (h : RR[k]? = some r) : strV (((RR.take (k + 1)).map (fun r => r.1)).map bOf) = strV (((RR.take k).map (fun r => r.1)).map bOf) ++ [.string (bOf r.1)] := by
  rw [List.take_add_one, h]
  simp [strV]
set_option maxRecDepth 20000 in
set_option maxHeartbeats 32000000 in
theorem qmethods_any (s : ByteArray) (hs : s.size ≤ 140737488355328) (w : World) : Calls Tryd.prog 13 #[.string s] w (MthP w (methR s.data.toList)) := by
  obtain ⟨i0, hi, hz⟩ := Option.map_eq_some_iff.1 info9
  simp only [Prod.mk.injEq] at hz
  obtain ⟨hz0, hz1, hz2⟩ := hz
  have H1 : Hid (∀ W : World, _) := fun W => qraw_any s hs W
  have P1 : Hid (splE s.data.toList ≠ 0 → methR s.data.toList = []) := fun h => by unfold methR; rw [if_neg h]
  have P2 : Hid (splE s.data.toList = 0 → methR s.data.toList = (rowsR (rawL s.data.toList)).map (fun r => r.1)) := fun h => by unfold methR; rw [if_pos h]
  obtain ⟨t, ht⟩ : ∃ t, s.data.toList = t := ⟨_, rfl⟩
  rw [ht] at H1 P1 P2 ⊢
  have HLEN : (rowsR (rawL t)).length ≤ 1000 := by
    rcases rules_rows (rawL t) with h | ⟨a, b, _, h, _⟩
    · rw [← h, List.length_map, ← rules_eq]; have := rulesR_len (rawL t); omega
    · rw [h]; simp
  have H2 : Hid (∀ (a : Option Addr) (c : Nat) (W : World), TextsAt W a ((rawL t).map bOf) → _) := fun a c W h => qrows_any (rawL t) a c W h
  obtain ⟨L, hL⟩ : ∃ L, rawL t = L := ⟨_, rfl⟩
  rw [hL] at H1 H2 P2 HLEN
  obtain ⟨RR, hRR⟩ : ∃ RR, rowsR L = RR := ⟨_, rfl⟩
  rw [hRR] at H2 P2 HLEN
  obtain ⟨MR, hMR⟩ : ∃ MR, methR t = MR := ⟨_, rfl⟩
  rw [hMR] at P1 P2 ⊢
  obtain ⟨er, her⟩ : ∃ er, splE t = er := ⟨_, rfl⟩
  rw [her] at H1 P1 P2
  obtain ⟨q, hq⟩ : ∃ q, qryL t = q := ⟨_, rfl⟩
  obtain ⟨has, hh⟩ : ∃ has, hasQ t = has := ⟨_, rfl⟩
  rw [hq, hh] at H1
  obtain ⟨ln, hln⟩ : ∃ ln, L.length = ln := ⟨_, rfl⟩
  obtain ⟨n, hn⟩ : ∃ n, RR.length = n := ⟨_, rfl⟩
  unfold RawP at H1
  unfold RwP at H2
  rw [hln] at H1 H2
  rw [hn] at H2 HLEN
  have hnl : n ≤ 1000 := HLEN
  have HN : Hid (RR.length = n) := hn
  clear ht hL hRR hMR her hq hh hln hn HLEN
  go_enter Tryd.func13, Tryd.ntmps13
  go_wp2_with fail
  refine (H1.out w).mono ?_
  rintro e w1 ⟨b1, (⟨hne, rfl⟩ | ⟨h0, a1, cp1, rfl, how1⟩)⟩
  · have hnz : (er != 0) = true := by simpa using hne
    have HB1 : Hid (Below w.heap.size w w1) := b1
    have HR : Hid (MR = []) := P1.out hne
    clear b1 hne
    go_wp2_with fail
    go_ret
    exact ⟨none, 0, by rw [HR.out]; rfl, by rw [HR.out]; exact fun j z hj => (by simp at hj), HB1.out⟩
  · subst h0
    have HB1 : Hid (Below w.heap.size w w1) := b1
    have HTX1 : Hid (TextsAt w1 a1 (L.map bOf)) := row_texts how1
    have HM : Hid (MR = RR.map (fun r => r.1)) := P2.out rfl
    clear b1 how1 P1 P2 H1
    go_wp2_with fail
    refine (H2.out a1 cp1 w1 HTX1.out).mono ?_
    rintro e w2 ⟨a3, c3, rfl, hrw, b2⟩
    have HRW : Hid (RwA w2 a3 RR) := hrw
    have HB2 : Hid (Below w.heap.size w w2) := HB1.out.trans (b2.mono HB1.out.size)
    clear b2 hrw H2 HTX1
    go_wp2_with fail
    go_loopw [7, 22] (fun v i wr => ∃ k : Nat, k ≤ n ∧ i = .int .i64 (k : Nat) ∧ wr.ownsRow w2.heap.size 9 1 v k (strV (((RR.take k).map (fun r => r.1)).map bOf)) ∧ Hid (Below w2.heap.size w2 wr)) (fun _ i _ => n - (intOf i).toNat)
    case atStart => exact ⟨0, by omega, rfl, by rw [List.take_zero]; exact World.ownsRow_nil _ _ _ _, Below.refl _ _⟩
    case round =>
      obtain ⟨k, hk, rfl, how, HB⟩ := hrel
      obtain ⟨va, vc, rfl⟩ := row_form how
      obtain ⟨R, hR⟩ : ∃ R, strV (((RR.take k).map (fun r => r.1)).map bOf) = R := ⟨_, rfl⟩
      rw [hR] at how
      have HOW : Hid (wr.ownsRow w2.heap.size 9 1 (.slice va k vc) k R) := how
      clear how
      by_cases hlt : k < n
      · have hlz : (k : Int) < (n : Int) := by omega
        obtain ⟨r, hr⟩ : ∃ r, RR[k]? = some r := ⟨_, List.getElem?_eq_getElem (by rw [HN.out]; exact hlt)⟩
        obtain ⟨b, off, rfl, _, c0, c1, c2⟩ := (HRW.out.below HB.out) k r hr
        have HSN : Hid _ := mrow_snoc hr
        rw [hR] at HSN
        obtain ⟨rm, kd, me⟩ := r
        simp only at c0 c1 c2 HSN
        have hra : Hid (∀ o o', ((wr.alloc o).alloc o').ownsRow w2.heap.size 9 1 (.slice va k vc) k R) := fun o o' => World.ownsRow.alloc (World.ownsRow.alloc HOW.out o) o'
        have hsz := HB.out.size
        clear hr hR
        go_wp2_with (at_builtin; go_loud (refine wpList_append_own _ rfl (.tmp 26) (.tmp 29) 28 rfl w2.heap.size 9 i0 (.string ⟨#[]⟩) 1 16 Tryd.underlying28 hi hz0 hz1 hz2 rfl (by decide) _ _ _ rfl (hra.out _ _) ⟨_, 0, none⟩ 1 1 [.string (bOf rm)] rfl rfl (new_cells1 _ _ [.string (bOf rm)] _) (strV_one [bOf rm]) (by unfold maxLen; omega) (by omega) (by simp; omega) ?_))
        intro v1 w5 hown1 hgrow _
        obtain ⟨a1, cap1, rfl⟩ := row_form hown1
        have HR5 : Hid (w5.ownsRow w2.heap.size 9 1 (.slice a1 (k + 1) cap1) (k + 1) (strV (((RR.take (k + 1)).map (fun r => r.1)).map bOf))) := by rw [Hid, HSN.out]; exact hown1
        have HB5 : Hid (Below w2.heap.size w2 w5) := ((HB.out.alloc hsz _).alloc (by simp; omega) _).grown hgrow (by simp; omega) (fun i hi => (World.ownsRow.lt HOW.out i hi).1)
        clear hown1 hgrow
        go_wp2_with fail
        go_roundw
        case rel => exact ⟨k + 1, by omega, by go_num, HR5.out, HB5.out⟩
        case measure => simp [intOf]; omega
      · obtain rfl : k = n := by omega
        have hlz : ¬ (k : Int) < (k : Int) := by omega
        have hq := HOW.out
        rw [← hR, List.take_of_length_le (by rw [HN.out]; omega), ← HM.out] at hq
        have HSL : Hid (MR.length = k) := by rw [Hid, HM.out, List.length_map, HN.out]
        have HT : Hid (TextsAt wr va (MR.map bOf)) := row_texts hq
        have HBW : Hid (Below w.heap.size w wr) := HB2.out.trans (HB.out.mono HB2.out.size)
        clear hq hR
        go_wp2_with fail
        go_ret
        exact ⟨va, vc, by rw [HSL.out]; rfl, HT.out, HBW.out⟩
end Go.Proofs.YtbpfggpljfpfcaaDoor
