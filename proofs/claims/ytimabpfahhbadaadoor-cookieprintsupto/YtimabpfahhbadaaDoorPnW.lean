/-
  The walk of CookiePrints.
-/
import Derived.Test.YtimabpfahhbadaaDoorPaW
import Derived.Laws.OwnMore
namespace Go.Proofs.YtimabpfahhbadaaDoor
open Go.RowKit
set_option maxRecDepth 20000 in
set_option maxHeartbeats 8000000 in
theorem prints_walk (a : Option Addr) (c : Nat) (l : List Fd) (m : Int) (w : World) (h : FA w.heap.size w a l) (hl : l.length ≤ 2000000) (hf : ∀ f ∈ l, f.name.size ≤ 2000000 ∧ f.val.size ≤ 2000000) (hnil : a = none → c = 0) (hm : w.cell? ⟨0, 0, none⟩ = some (.int .i64 m)) :
    Calls Tryd.prog 4 #[.slice a l.length c] w fun e w' => e = .returned (.bool true) ∧ Below w.heap.size w w' := by
  have HM : Hid (∀ W, Below w.heap.size w W → W.cell? ⟨0, 0, none⟩ = some (.int .i64 m)) := fun W b => mx_below hm b
  have hsm : smF 1000000000 l := fun f hq => by have := hf f hq; omega
  have H1 : Hid (∀ a c B W, FA B W a l → B ≤ W.heap.size → _) := fun a c B W h1 h2 => print_any a c B l W h1 h2 (by omega) hsm
  have H2 : Hid (∀ a c B W, FA B W a l → B ≤ W.heap.size → _) := fun a c B W h1 h2 => qprint_any a c B l W h1 h2 (by omega) hsm
  have H3 : Hid (∀ W, Below w.heap.size w W → _) := fun W b => lives_any m W (HM.out W b)
  have H4 : Hid (∀ a b ca cb Ba Bb W, FA Ba W a l → FA Bb W b l → _) := fun a b ca cb Ba Bb W h1 h2 => samePairs_eq a b ca cb Ba Bb l W h1 h2 (by omega)
  have hpz : (printR l).1.size ≤ 1000000000 := by
    rcases printR_cut l with q | q
    · obtain ⟨_, p2, _, p4⟩ := printR_ok q
      have h1 := jn_small l 2000000 hf
      rw [p4]
      have h2 : l.length * (2 * 2000000 + 3) ≤ 16 * (2 * 2000000 + 3) := Nat.mul_le_mul_right _ p2
      omega
    · rw [q]; decide
  have H5 : Hid (∀ W, Below w.heap.size w W → _) := fun W b => parse_any (printR l).1 hpz m W (HM.out W b)
  have HP : Hid ((printR l).2 = 0 → parseR (printR l).1 = (l, 0)) := print_parse
  have hcut := printR_cut l
  have HLF : Hid ((flF l).length = l.length * 2) := flF_len l
  obtain ⟨R, hR⟩ : ∃ R, printR l = R := ⟨_, rfl⟩
  rw [hR] at H1 H2 H5 HP hcut
  obtain ⟨n, hn⟩ : ∃ n, l.length = n := ⟨_, rfl⟩
  rw [hn] at H1 H2 H4 HLF hl ⊢
  have HN : Hid _ := hn
  have HFA : Hid _ := h
  clear hR hn hsm hm hpz h hf
  obtain ⟨P, re⟩ := R
  simp only at H1 H2 H5 HP
  have e1 : (P.toList == P.toList) = true := by simp
  have e2 : (re != re) = false := by simp
  obtain ⟨i0, hi, hzz⟩ := Option.map_eq_some_iff.1 info53
  simp only [Prod.mk.injEq] at hzz
  obtain ⟨hz0, hz1, hz2⟩ := hzz
  obtain ⟨W1, hW1⟩ : ∃ W1, w.alloc (.cells #[] 44) = W1 := ⟨_, rfl⟩
  have HB1 : Hid (Below w.heap.size w W1) := by rw [Hid, ← hW1]; exact (Below.refl _ _).alloc (Nat.le_refl _) _
  have HZ1 : Hid (W1.heap.size = w.heap.size + 1) := by rw [Hid, ← hW1]; simp
  have HRX : Hid (W1.ownsRow w.heap.size 44 2 (.slice (some ⟨w.heap.size, 0, none⟩) 0 0) 0 []) := by rw [Hid, ← hW1]; exact World.ownsRow_lit w #[] 0 (Nat.le_refl _) (by decide) rfl
  have HF1 : Hid (FA w.heap.size W1 a l) := FA.below HFA.out (fun b hb => HB1.out.block b hb)
  cases a with
  | none =>
    obtain rfl : c = 0 := hnil rfl
    have hl0 : l = [] := by
      cases hq : l with
      | nil => rfl
      | cons x r =>
        rw [hq] at HFA
        obtain ⟨b, off, e, _⟩ := HFA.out 0 x rfl
        cases e
    subst hl0
    obtain rfl : n = 0 := HN.out.symm
    obtain ⟨w3, rfl⟩ : ∃ w3, w3 = W1 := ⟨_, rfl⟩
    have HO3 : Hid (FA w3.heap.size w3 (some ⟨w.heap.size, 0, none⟩) []) := FA.nil _ _ _
    have HF3 : Hid (FA w3.heap.size w3 none []) := FA.nil _ _ _
    have HB3 : Hid _ := HB1.out
    go_enter Tryd.func4, Tryd.ntmps4
    go_wp2_with fail
    try rw [hW1]
    refine (H1.out (some ⟨w.heap.size, 0, none⟩) 0 _ _ HO3.out (Nat.le_refl _)).mono ?_
    rintro e w4 ⟨rfl, b4⟩
    have HO4 : Hid (FA w3.heap.size w4 (some ⟨w.heap.size, 0, none⟩) []) := FA.below HO3.out (fun b hb => b4.block b hb)
    have HF4 : Hid (FA w3.heap.size w4 none []) := FA.below HF3.out (fun b hb => b4.block b hb)
    have HB4 : Hid (Below w.heap.size w w4) := HB3.out.trans (b4.mono HB3.out.size)
    have HS4 : Hid (w3.heap.size ≤ w4.heap.size) := b4.size
    clear b4
    go_wp2_with fail
    refine (H2.out none 0 _ _ HF4.out HS4.out).mono ?_
    rintro e w5 ⟨rfl, b5⟩
    have HO5 : Hid (FA w3.heap.size w5 (some ⟨w.heap.size, 0, none⟩) []) := FA.below HO4.out (fun b hb => b5.block b (by have := HS4.out; omega))
    have HF5 : Hid (FA w3.heap.size w5 none []) := FA.below HF4.out (fun b hb => b5.block b (by have := HS4.out; omega))
    have HB5 : Hid (Below w.heap.size w w5) := HB4.out.trans (b5.mono HB4.out.size)
    have HS5 : Hid (w3.heap.size ≤ w5.heap.size) := Nat.le_trans HS4.out b5.size
    clear b5
    go_wp2_with fail
    refine (H3.out _ HB5.out).mono ?_
    rintro e w6 ⟨rfl, b6⟩
    have HO6 : Hid (FA w3.heap.size w6 (some ⟨w.heap.size, 0, none⟩) []) := FA.below HO5.out (fun b hb => b6.block b (by have := HS5.out; omega))
    have HF6 : Hid (FA w3.heap.size w6 none []) := FA.below HF5.out (fun b hb => b6.block b (by have := HS5.out; omega))
    have HB6 : Hid (Below w.heap.size w w6) := HB5.out.trans (b6.mono HB5.out.size)
    have HS6 : Hid (w3.heap.size ≤ w6.heap.size) := Nat.le_trans HS5.out b6.size
    clear b6
    go_wp2_with fail
    refine (H4.out (some ⟨w.heap.size, 0, none⟩) none 0 0 _ _ _ HO6.out HF6.out).mono ?_
    rintro e w7 ⟨rfl, b7⟩
    have HF7 : Hid (FA w3.heap.size w7 none []) := FA.below HF6.out (fun b hb => b7.block b (by have := HS6.out; omega))
    have HB7 : Hid (Below w.heap.size w w7) := HB6.out.trans (b7.mono HB6.out.size)
    have HS7 : Hid (w3.heap.size ≤ w7.heap.size) := Nat.le_trans HS6.out b7.size
    clear b7
    rcases hcut with h0 | h0
    · try simp only at h0
      subst h0
      have hpr := HP.out rfl
      rw [hpr] at H5
      have hn7 := HN.out
      try simp only [hn7] at H5
      clear hn7
      go_wp2_with fail
      refine (H5.out _ HB7.out).mono ?_
      rintro e w8 ⟨pa, pc, rfl, hpo, b8⟩
      have HO8 : Hid (FA w8.heap.size w8 pa []) := by rw [← HN.out] at hpo; exact fa_row hpo
      have HF8 : Hid (FA w3.heap.size w8 none []) := FA.below HF7.out (fun b hb => b8.block b (by have := HS7.out; omega))
      have HB8 : Hid (Below w.heap.size w w8) := HB7.out.trans (b8.mono HB7.out.size)
      clear hpo b8
      go_wp2_with fail
      refine (H4.out pa none pc 0 _ _ _ HO8.out HF8.out).mono ?_
      rintro e w9 ⟨rfl, b9⟩
      go_wp2_with fail
      go_ret
      exact ⟨rfl, HB8.out.trans (b9.mono HB8.out.size)⟩
    · obtain ⟨rfl, rfl⟩ : P = ⟨#[]⟩ ∧ re = 190 := by cases h0; exact ⟨rfl, rfl⟩
      go_wp2_with fail
      go_ret
      exact ⟨rfl, HB7.out⟩
  | some ad =>
    have HNC : Hid (∀ j u, (flF l)[j]? = some u → W1.cell? (ad.add j) = some u) := fun j u hj => by
      have hj2 : j < n * 2 := by have := (List.getElem?_eq_some_iff.1 hj).1; rw [HLF.out] at this; exact this
      obtain ⟨x, hx⟩ : ∃ x, l[j / 2]? = some x := ⟨l[j / 2]'(by rw [HN.out]; omega), List.getElem?_eq_getElem _⟩
      obtain ⟨b, off, e, _, x0, x1⟩ := HF1.out (j / 2) x hx
      cases e
      have hg := flF_get hx (j % 2) (by omega)
      rw [show j / 2 * 2 + j % 2 = j by omega, hj] at hg
      rw [add_off]
      rcases (by omega : j % 2 = 0 ∨ j % 2 = 1) with q | q
      · rw [q] at hg
        rw [show off + j = off + j / 2 * 2 by omega, x0]
        simpa [fdL] using hg.symm
      · rw [q] at hg
        rw [show off + j = off + j / 2 * 2 + 1 by omega, x1]
        simpa [fdL] using hg.symm
    have HSZ : Hid (w.heap.size ≤ W1.heap.size) := HB1.out.size
    subst hW1
    go_enter Tryd.func4, Tryd.ntmps4
    go_wp2_with (at_builtin; refine wpList_append_own _ rfl (.tmp 9) (.tmp 10) 22 rfl w.heap.size 44 i0 (.agg #[.string ByteArray.empty, .string ByteArray.empty]) 2 32 Tryd.underlying22 hi hz0 hz1 hz2 rfl (by decide) _ _ _ rfl HRX.out ad n c (flF l) rfl HLF.out HNC.out (flF_one l) (by unfold maxLen; omega) (by omega) HSZ.out ?_)
    intro v1 w3 hown1 hgrow _
    try rw [Nat.zero_add] at hown1
    try rw [List.nil_append] at hown1
    obtain ⟨va, vc, rfl⟩ := row_form hown1
    have HO3 : Hid (FA w3.heap.size w3 va l) := by rw [← HN.out] at hown1; exact fa_row hown1
    have HF3 : Hid (FA w3.heap.size w3 (some ad) l) := by
      refine FA.up (FA.below (B := w.heap.size) HF1.out (fun b hb => hgrow.block b (by have := HZ1.out; omega) (fun e => ?_))) (Nat.le_trans HSZ.out hgrow.size)
      have : b = w.heap.size := by simpa [Value.ownBlock] using e
      omega
    have HB3 : Hid (Below w.heap.size w w3) := HB1.out.grown hgrow HSZ.out (fun i hi => (World.ownsRow.lt HRX.out i hi).1)
    clear hown1 hgrow HRX HNC
    go_wp2_with fail
    refine (H1.out va vc _ _ HO3.out (Nat.le_refl _)).mono ?_
    rintro e w4 ⟨rfl, b4⟩
    have HO4 : Hid (FA w3.heap.size w4 va l) := FA.below HO3.out (fun b hb => b4.block b hb)
    have HF4 : Hid (FA w3.heap.size w4 (some ad) l) := FA.below HF3.out (fun b hb => b4.block b hb)
    have HB4 : Hid (Below w.heap.size w w4) := HB3.out.trans (b4.mono HB3.out.size)
    have HS4 : Hid (w3.heap.size ≤ w4.heap.size) := b4.size
    clear b4
    go_wp2_with fail
    refine (H2.out (some ad) c _ _ HF4.out HS4.out).mono ?_
    rintro e w5 ⟨rfl, b5⟩
    have HO5 : Hid (FA w3.heap.size w5 va l) := FA.below HO4.out (fun b hb => b5.block b (by have := HS4.out; omega))
    have HF5 : Hid (FA w3.heap.size w5 (some ad) l) := FA.below HF4.out (fun b hb => b5.block b (by have := HS4.out; omega))
    have HB5 : Hid (Below w.heap.size w w5) := HB4.out.trans (b5.mono HB4.out.size)
    have HS5 : Hid (w3.heap.size ≤ w5.heap.size) := Nat.le_trans HS4.out b5.size
    clear b5
    go_wp2_with fail
    refine (H3.out _ HB5.out).mono ?_
    rintro e w6 ⟨rfl, b6⟩
    have HO6 : Hid (FA w3.heap.size w6 va l) := FA.below HO5.out (fun b hb => b6.block b (by have := HS5.out; omega))
    have HF6 : Hid (FA w3.heap.size w6 (some ad) l) := FA.below HF5.out (fun b hb => b6.block b (by have := HS5.out; omega))
    have HB6 : Hid (Below w.heap.size w w6) := HB5.out.trans (b6.mono HB5.out.size)
    have HS6 : Hid (w3.heap.size ≤ w6.heap.size) := Nat.le_trans HS5.out b6.size
    clear b6
    go_wp2_with fail
    refine (H4.out va (some ad) vc c _ _ _ HO6.out HF6.out).mono ?_
    rintro e w7 ⟨rfl, b7⟩
    have HF7 : Hid (FA w3.heap.size w7 (some ad) l) := FA.below HF6.out (fun b hb => b7.block b (by have := HS6.out; omega))
    have HB7 : Hid (Below w.heap.size w w7) := HB6.out.trans (b7.mono HB6.out.size)
    have HS7 : Hid (w3.heap.size ≤ w7.heap.size) := Nat.le_trans HS6.out b7.size
    clear b7
    rcases hcut with h0 | h0
    · try simp only at h0
      subst h0
      have hpr := HP.out rfl
      rw [hpr] at H5
      have hn7 := HN.out
      try simp only [hn7] at H5
      clear hn7
      go_wp2_with fail
      refine (H5.out _ HB7.out).mono ?_
      rintro e w8 ⟨pa, pc, rfl, hpo, b8⟩
      have HO8 : Hid (FA w8.heap.size w8 pa l) := by rw [← HN.out] at hpo; exact fa_row hpo
      have HF8 : Hid (FA w3.heap.size w8 (some ad) l) := FA.below HF7.out (fun b hb => b8.block b (by have := HS7.out; omega))
      have HB8 : Hid (Below w.heap.size w w8) := HB7.out.trans (b8.mono HB7.out.size)
      clear hpo b8
      go_wp2_with fail
      refine (H4.out pa (some ad) pc c _ _ _ HO8.out HF8.out).mono ?_
      rintro e w9 ⟨rfl, b9⟩
      go_wp2_with fail
      go_ret
      exact ⟨rfl, HB8.out.trans (b9.mono HB8.out.size)⟩
    · obtain ⟨rfl, rfl⟩ : P = ⟨#[]⟩ ∧ re = 190 := by cases h0; exact ⟨rfl, rfl⟩
      go_wp2_with fail
      go_ret
      exact ⟨rfl, HB7.out⟩
end Go.Proofs.YtimabpfahhbadaaDoor
