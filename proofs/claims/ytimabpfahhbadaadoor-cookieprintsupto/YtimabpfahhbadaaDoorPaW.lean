/-
  The walks of CookieParses, CookiePrints, CookieFinds.
-/
import Derived.Test.YtimabpfahhbadaaDoorLiv
namespace Go.Proofs.YtimabpfahhbadaaDoor
open Go.RowKit
theorem parseR_cut (v : ByteArray) : (parseR v).2 = 0 ∨ parseR v = ([], 190) := by
  unfold parseR
  split
  · exact Or.inl rfl
  · exact Or.inr rfl
set_option maxRecDepth 20000 in
set_option maxHeartbeats 8000000 in
theorem parses_walk (v : ByteArray) (m : Int) (w : World) (hs : v.size ≤ 1000000000) (hm : w.cell? ⟨0, 0, none⟩ = some (.int .i64 m)) :
    Calls Tryd.prog 3 #[.string v] w fun e w' => e = .returned (.bool true) ∧ Below w.heap.size w w' := by
  have HM : Hid (∀ W, Below w.heap.size w W → W.cell? ⟨0, 0, none⟩ = some (.int .i64 m)) := fun W b => mx_below hm b
  have H1 : Hid (∀ W, Below w.heap.size w W → _) := fun W b => parse_any v hs m W (HM.out W b)
  have H2 : Hid (∀ W : World, _) := fun W => qparse_any v hs W
  have H3 : Hid (∀ W, Below w.heap.size w W → _) := fun W b => lives_any m W (HM.out W b)
  obtain ⟨hsm, hln⟩ := parseR_sm hs
  have H4 : Hid (∀ a b ca cb Ba Bb W, FA Ba W a (parseR v).1 → FA Bb W b (parseR v).1 → _) := fun a b ca cb Ba Bb W h1 h2 => samePairs_eq a b ca cb Ba Bb (parseR v).1 W h1 h2 (by omega)
  have H5 : Hid (∀ a c B W, FA B W a (parseR v).1 → B ≤ W.heap.size → _) := fun a c B W h1 h2 => print_any a c B (parseR v).1 W h1 h2 (by omega) hsm
  have HP : Hid ((parseR v).2 = 0 → printR (parseR v).1 = (v, 0)) := parse_print
  have hcut := parseR_cut v
  obtain ⟨R, hR⟩ : ∃ R, parseR v = R := ⟨_, rfl⟩
  rw [hR] at H1 H2 H4 H5 HP hcut hln
  clear hR hsm hm
  obtain ⟨F, re⟩ := R
  simp only at H1 H2 H4 H5 HP hcut hln
  obtain ⟨n, hn⟩ : ∃ n, F.length = n := ⟨_, rfl⟩
  rw [hn] at H1 H2 H4 H5 hln
  have HN : Hid _ := hn
  clear hn
  have hre : (re != re) = false := by simp
  have hvv : (v.toList == v.toList) = true := by simp
  go_enter Tryd.func3, Tryd.ntmps3
  go_wp2_with fail
  refine (H1.out _ (Below.refl _ _)).mono ?_
  rintro e w1 ⟨pa, pc, rfl, hpo, hb1⟩
  have HFA : Hid (FA w1.heap.size w1 pa F) := by rw [← HN.out] at hpo; exact fa_row hpo
  have HB1 : Hid (Below w.heap.size w w1) := hb1
  clear hpo hb1
  go_wp2_with fail
  refine (H2.out _).mono ?_
  rintro e w2 ⟨qa, qc, rfl, hqo, hb2⟩
  have HFB : Hid (FA w2.heap.size w2 qa F) := by rw [← HN.out] at hqo; exact fa_row hqo
  have HFA2 : Hid (FA w1.heap.size w2 pa F) := FA.below HFA.out (fun b hb => hb2.block b hb)
  have HB2 : Hid (Below w.heap.size w w2) := HB1.out.trans (hb2.mono HB1.out.size)
  have HS12 : Hid (w1.heap.size ≤ w2.heap.size) := hb2.size
  clear hqo hb2
  go_wp2_with fail
  refine (H3.out _ HB2.out).mono ?_
  rintro e w3 ⟨rfl, b3⟩
  have HFB3 : Hid (FA w2.heap.size w3 qa F) := FA.below HFB.out (fun b hb => b3.block b hb)
  have HFA3 : Hid (FA w1.heap.size w3 pa F) := FA.below HFA2.out (fun b hb => b3.block b (by have := HS12.out; omega))
  have HB3 : Hid (Below w.heap.size w w3) := HB2.out.trans (b3.mono HB2.out.size)
  have HS13 : Hid (w1.heap.size ≤ w3.heap.size) := Nat.le_trans HS12.out b3.size
  clear b3
  go_wp2_with fail
  refine (H4.out pa qa pc qc _ _ _ HFA3.out HFB3.out).mono ?_
  rintro e w4 ⟨rfl, b4⟩
  have HFA4 : Hid (FA w1.heap.size w4 pa F) := FA.below HFA3.out (fun b hb => b4.block b (by have := HS13.out; omega))
  have HB4 : Hid (Below w.heap.size w w4) := HB3.out.trans (b4.mono HB3.out.size)
  have HS14 : Hid (w1.heap.size ≤ w4.heap.size) := Nat.le_trans HS13.out b4.size
  clear b4
  rcases hcut with h0 | h0
  · subst h0
    have hpr := HP.out rfl
    rw [hpr] at H5
    go_wp2_with fail
    refine (H5.out pa pc _ _ HFA4.out HS14.out).mono ?_
    rintro e w5 ⟨rfl, b5⟩
    go_wp2_with fail
    go_ret
    exact ⟨rfl, HB4.out.trans (b5.mono HB4.out.size)⟩
  · obtain rfl : re = 190 := by cases h0; rfl
    go_wp2_with fail
    go_ret
    exact ⟨rfl, HB4.out⟩
set_option maxRecDepth 20000 in
set_option maxHeartbeats 8000000 in
theorem finds_walk (a : Option Addr) (ca : Nat) (vs : List ByteArray) (name : ByteArray) (m : Int) (w : World) (ht : TextsAt w a vs) (hl : vs.length ≤ 1000000000) (hs : ∀ l ∈ vs, l.size ≤ 1000000000) (hm : w.cell? ⟨0, 0, none⟩ = some (.int .i64 m)) :
    Calls Tryd.prog 5 #[.slice a vs.length ca, .string name] w fun e w' => e = .returned (.bool true) ∧ Below w.heap.size w w' := by
  have HM : Hid (∀ W, Below w.heap.size w W → W.cell? ⟨0, 0, none⟩ = some (.int .i64 m)) := fun W b => mx_below hm b
  have H1 : Hid (∀ W, Below w.heap.size w W → _) := fun W b => find_any a ca vs name m W (ht.below b) hl hs (HM.out W b)
  have H2 : Hid (∀ W, Below w.heap.size w W → _) := fun W b => qfind_any a ca vs name W (ht.below b) hl hs
  have H3 : Hid (∀ W, Below w.heap.size w W → _) := fun W b => lives_any m W (HM.out W b)
  obtain ⟨R, hR⟩ : ∃ R, findR name vs = R := ⟨_, rfl⟩
  rw [hR] at H1 H2
  obtain ⟨n, hn⟩ : ∃ n, vs.length = n := ⟨_, rfl⟩
  rw [hn] at H1 H2 ⊢
  clear hR hn hm ht hl hs
  obtain ⟨x, is⟩ := R
  simp only at H1 H2
  have e1 : (x.toList == x.toList) = true := by simp
  have e2 : (is == is) = true := by simp
  go_enter Tryd.func5, Tryd.ntmps5
  go_wp2_with fail
  refine (H1.out _ (Below.refl _ _)).mono ?_
  rintro e w1 ⟨rfl, b1⟩
  have HB1 : Hid (Below w.heap.size w w1) := b1
  clear b1
  go_wp2_with fail
  refine (H2.out _ HB1.out).mono ?_
  rintro e w2 ⟨rfl, b2⟩
  have HB2 : Hid (Below w.heap.size w w2) := HB1.out.trans (b2.mono HB1.out.size)
  clear b2
  go_wp2_with fail
  refine (H3.out _ HB2.out).mono ?_
  rintro e w3 ⟨rfl, b3⟩
  have HB3 : Hid (Below w.heap.size w w3) := HB2.out.trans (b3.mono HB2.out.size)
  clear b3
  go_wp2_with fail
  go_ret
  exact ⟨rfl, HB3.out⟩
end Go.Proofs.YtimabpfahhbadaaDoor
