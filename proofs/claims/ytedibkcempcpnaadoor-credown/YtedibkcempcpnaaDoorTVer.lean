/-
  Whose a text is: the contracts of Verify and of the twin's.
-/
import Derived.Test.YtedibkcempcpnaaDoorTPlc
namespace Go.Proofs.YtedibkcempcpnaaDoor.T
open Go.RowKit Go.WideMaps Go.Maps
def findT (l : List Tn) (s : ByteArray) : Option Nat := l.findIdx? (fun t => decide (credT t = s))
def verR (l : List Tn) (s : ByteArray) : Int × Int := if goodT l then (match findT l s with | some i => ((i : Int), 0) | none => (0, 210)) else (0, 1)
theorem byteAt_left {a b : ByteArray} {j : Nat} (h : j < a.size) : byteAt (a ++ b) j = byteAt a j := by
  unfold byteAt
  rw [ByteArray.data_append, Array.toList_append, List.getD_eq_getElem?_getD, List.getD_eq_getElem?_getD, List.getElem?_append_left (by rw [Array.length_toList]; exact h)]
theorem byteAt_right {a b : ByteArray} {j : Nat} : byteAt (a ++ b) (a.size + j) = byteAt b j := by
  unfold byteAt
  rw [ByteArray.data_append, Array.toList_append, List.getD_eq_getElem?_getD, List.getD_eq_getElem?_getD, List.getElem?_append_right (by rw [Array.length_toList]; exact Nat.le_add_right _ _), Array.length_toList]
  rw [show a.size + j - a.data.size = j from by show a.size + j - a.size = j; omega]
theorem okT_nm {t : Tn} (h : okT t = true) {j : Nat} (hj : j < t.name.size) : byteAt t.name j ≠ 46 := by
  unfold okT nmR at h
  simp only [Bool.and_eq_true, decide_eq_true_eq] at h
  have := allN_all.1 h.1.1 j hj
  intro e
  rw [e] at this
  revert this
  decide
theorem cred_cut {t : Tn} (h : okT t = true) : (cutP (credT t) 46).1 = t.name := by
  have hx : ixB (credT t) 46 = some t.name.size := by
    refine ixB_hit ?_ ?_ (fun j hj => ?_)
    · unfold credT
      rw [ByteArray.size_append, ByteArray.size_append]
      show t.name.size < t.name.size + 1 + _
      omega
    · unfold credT
      rw [byteAt_left (by rw [ByteArray.size_append]; show t.name.size < t.name.size + 1; omega)]
      exact byteAt_right (j := 0)
    · unfold credT
      rw [byteAt_left (by rw [ByteArray.size_append]; show j < t.name.size + 1; omega), byteAt_left hj]
      exact okT_nm h hj
  rw [cutP, hx]
  show (credT t).extract 0 t.name.size = t.name
  unfold credT
  rw [ByteArray.append_assoc]
  exact ByteArray.extract_append_eq_left rfl
theorem goodT_ok {l : List Tn} (h : goodT l) {i : Nat} {t : Tn} (hi : l[i]? = some t) : okT t = true := List.all_eq_true.1 h.2.2.1 t (List.mem_of_getElem? hi)
theorem goodT_dst {l : List Tn} (h : goodT l) : dstN l l.length := (dstN_iff l).2 h.2.2.2
theorem find_none {l : List Tn} {s : ByteArray} (h : ∀ (i : Nat) (t : Tn), l[i]? = some t → credT t ≠ s) : findT l s = none := by
  rw [findT, List.findIdx?_eq_none_iff]
  intro t ht
  obtain ⟨i, hi⟩ := List.getElem?_of_mem ht
  exact decide_eq_false (h i t hi)
theorem find_some {l : List Tn} {s : ByteArray} {i : Nat} {t : Tn} (hi : l[i]? = some t) (e : credT t = s) (h : ∀ j u, j < i → l[j]? = some u → credT u ≠ s) : findT l s = some i := by
  rw [findT, List.findIdx?_eq_some_iff_getElem]
  obtain ⟨hl, rfl⟩ := List.getElem?_eq_some_iff.1 hi
  refine ⟨hl, decide_eq_true e, fun j hj => ?_⟩
  rw [Bool.not_eq_true]
  exact decide_eq_false (h j _ hj (List.getElem?_eq_getElem _))
theorem nm_of {l : List Tn} (h : goodT l) {s : ByteArray} {i : Nat} {t : Tn} (hi : l[i]? = some t) (e : credT t = s) : nmAt l i = (cutP s 46).1 := by
  rw [nmAt_some hi, ← e, cred_cut (goodT_ok h hi)]
theorem find_own {l : List Tn} (h : goodT l) {s : ByteArray} {i : Nat} {t : Tn} (hi : l[i]? = some t) (e : credT t = s) : findT l s = some i :=
  find_some hi e (fun j _ hj hu q => goodT_dst h j i hj (List.getElem?_eq_some_iff.1 hi).1 ((nm_of h hu q).trans (nm_of h hi e).symm))
theorem find_not {l : List Tn} (h : goodT l) {s : ByteArray} {i : Nat} {t : Tn} (hi : l[i]? = some t) (hn : nmAt l i = (cutP s 46).1) (e : credT t ≠ s) : findT l s = none :=
  find_none (fun j _ hj q => by
    have h1 := nm_of h hj q
    rcases Nat.lt_trichotomy i j with hij | rfl | hij
    · exact goodT_dst h i j hij (List.getElem?_eq_some_iff.1 hj).1 (hn.trans h1.symm)
    · rw [hi] at hj
      cases hj
      exact e q
    · exact goodT_dst h j i hij (List.getElem?_eq_some_iff.1 hi).1 (h1.trans hn.symm))
theorem find_no {l : List Tn} (h : goodT l) {s : ByteArray} (hn : has (plN l l.length) (keyT (cutP s 46).1) = false) : findT l s = none :=
  find_none (fun j _ hj q => by
    have := (plN_has l (cutP s 46).1 l.length).2 ⟨j, (List.getElem?_eq_some_iff.1 hj).1, nm_of h hj q⟩
    rw [hn] at this
    cases this)
theorem mintR_ok {t : Tn} (h : okT t = true) : mintR t = (credT t, 0) := by rw [mintR, if_pos h]
theorem credT_size {t : Tn} (h : okT t = true) : (credT t).size ≤ 97 := by
  have := (okT_z h).1
  unfold credT
  rw [ByteArray.size_append, ByteArray.size_append, hexT_size]
  show t.name.size + 1 + 64 ≤ 97
  omega
set_option maxRecDepth 20000 in
set_option maxHeartbeats 8000000 in
theorem verify_any (a : Option Addr) (c B : Nat) (l : List Tn) (s : ByteArray) (w : World) (h : TA B w a l) (hB : B ≤ w.heap.size) (hl : l.length ≤ 4000000000000) (hz : ∀ t ∈ l, tnZ t) (hs : s.size < 4294967281) (m : Int) (hm : w.cell? ⟨1, 0, none⟩ = some (.int .i64 m)) (hK : GK w) :
    Calls Tryd.prog 13 #[.slice a l.length c, .string s] w fun e w' => e = .returned (.tuple #[.int .i64 (verR l s).1, .int .i64 (verR l s).2]) ∧ Below w.heap.size w w' := by
  have H1 : Hid (∀ W : World, TA B W a l → B ≤ W.heap.size → _) := fun W h1 h2 => check_any a c B l W h1 h2 hl hz
  have H2 : Hid (∀ W : World, TA B W a l → B ≤ W.heap.size → _) := fun W h1 h2 => places_any a c B l W h1 h2 hl hz
  have H3 : Hid (∀ W : World, Below w.heap.size w W → _) := fun W b => cut_any s 46 hs m W (mx_below hm b)
  have HC : Hid (∀ W : World, Below w.heap.size w W → TA B W a l) := fun W b => TA.below h (fun q hq => b.block q (by omega))
  have HGK : Hid (∀ W, Below w.heap.size w W → GK W) := fun W b => hK.below b
  have HZ : Hid _ := hz
  have HS : Hid ((cutP s 46).1.size ≤ 4294967281) := by rw [Hid]; have := (cutP_size s 46).1; omega
  have HV : Hid (verR l s = if goodT l then (match findT l s with | some i => ((i : Int), (0 : Int)) | none => (0, 210)) else (0, 1)) := rfl
  have HE : Hid (chkR l = if goodT l then 0 else 1) := rfl
  rw [show (46 : UInt8).toNat = 46 from rfl] at H3
  have HN : Hid (goodT l → has (plN l l.length) (keyT (cutP s 46).1) = false → findT l s = none) := fun g q => find_no g q
  have HI : Hid (goodT l → has (plN l l.length) (keyT (cutP s 46).1) = true → ∃ i t, l[i]? = some t ∧ okT t = true ∧ i < l.length ∧ (plN l l.length).atKey (keyT (cutP s 46).1) (.lit (.int .i64 0)) = .lit (.int .i64 (i : Nat)) ∧ (credT t = s → findT l s = some i) ∧ (credT t ≠ s → findT l s = none)) := by
    intro g q
    obtain ⟨i, hi, e⟩ := (plN_has l _ _).1 q
    refine ⟨i, l[i], List.getElem?_eq_getElem hi, goodT_ok g (List.getElem?_eq_getElem hi), hi, ?_, fun q => find_own g (List.getElem?_eq_getElem hi) q, fun q => find_not g (List.getElem?_eq_getElem hi) e q⟩
    rw [← e]
    exact plN_at l _ _ (goodT_dst g) hi
  obtain ⟨R, hR⟩ : ∃ R, verR l s = R := ⟨_, rfl⟩
  rw [hR] at HV ⊢
  obtain ⟨n, hn⟩ : ∃ n, l.length = n := ⟨_, rfl⟩
  rw [hn] at H1 H2 HN HI hl ⊢
  obtain ⟨D, hD⟩ : ∃ D, plN l n = D := ⟨_, rfl⟩
  rw [hD] at H2 HN HI
  obtain ⟨c1, hc1⟩ : ∃ q, (cutP s 46).1 = q := ⟨_, rfl⟩
  obtain ⟨c2, hc2⟩ : ∃ q, (cutP s 46).2.1 = q := ⟨_, rfl⟩
  obtain ⟨c3, hc3⟩ : ∃ q, (cutP s 46).2.2 = q := ⟨_, rfl⟩
  rw [hc1] at H3 HS HN HI
  rw [hc2, hc3] at H3
  have HH : Hid (∀ W : World, Below w.heap.size w W → B ≤ W.heap.size) := fun W b => by have := b.size; omega
  clear hn hD hR hc1 hc2 hc3 h hz hm hK
  by_cases g : goodT l
  · have HG : Hid _ := g
    have HV2 : Hid (R = match findT l s with | some i => ((i : Int), (0 : Int)) | none => (0, 210)) := by rw [Hid, HV.out, if_pos g]
    rw [show chkR l = 0 from chkR_good g] at H1
    clear g HV HE
    go_enter Tryd.func13, Tryd.ntmps13
    go_wp2_with fail
    refine (H1.out _ (HC.out _ (Below.refl _ _)) hB).mono ?_
    rintro e w1 ⟨rfl, b1⟩
    have HB1 : Hid _ := b1
    clear b1
    go_wp2_with fail
    refine (H3.out _ HB1.out).mono ?_
    rintro e w2 ⟨rfl, q2, hw2⟩
    have HB2 : Hid (Below w.heap.size w w2) := by rw [Hid, hw2]; exact below_drewN HB1.out _
    clear hw2 q2
    go_wp2_with fail
    refine (H2.out _ (HC.out _ HB2.out) (HH.out _ HB2.out)).mono ?_
    rintro e w3 ⟨rfl, hown, b3⟩
    have HB3 : Hid (Below w.heap.size w w3) := HB2.out.trans (b3.mono HB2.out.size)
    have hkey : keyOf Tryd.prog 9 (.string c1) = some (keyT c1) := keyOf_string_mk Tryd.underlying9 (by have := HS.out; unfold maxLen; omega)
    obtain ⟨v, ps, hrun, hv⟩ := hown.look_ok mlaw Tryd.underlying48 (mzero3 _) (plainElem_int Tryd.underlying3 (by decide)) hkey
    obtain ⟨cc, rfl, hc, _⟩ := plainElem_int_inv Tryd.underlying3 hv
    have hat := congrArg Prod.fst hc
    simp only at hat
    clear hown b3 hv hc
    cases hhas : has D (keyT c1) with
    | false =>
      rw [hhas] at hrun
      have HR : Hid (R = (0, 210)) := by rw [Hid, HV2.out, HN.out HG.out hhas]
      clear hhas hat
      go_wp2_with fail
      go_ret2
      exact ⟨by rw [HR.out]; rfl, HB3.out⟩
    | true =>
      rw [hhas] at hrun
      obtain ⟨i, t, hi, hok, hin, ha2, hf1, hf2⟩ := HI.out HG.out hhas
      rw [ha2] at hat
      obtain rfl : cc = (i : Int) := by simpa using hat.symm
      have hiz : (i : Int) < (n : Int) := by omega
      obtain ⟨b, off, rfl, hbl, x0, x1, x2⟩ := HC.out _ HB3.out i t hi
      have hxz := HZ.out t (List.mem_of_getElem? hi)
      have H4 : Hid (∀ W : World, _) := fun W hK => mint_any t hxz.1 hxz.2 W hK
      rw [mintR_ok hok] at H4
      have H5 : Hid (∀ W : World, _) := fun W => equal_any (credT t) s W (by have := credT_size hok; omega) (by omega)
      have HF1 : Hid _ := hf1
      have HF2 : Hid _ := hf2
      obtain ⟨C, hC⟩ : ∃ C, credT t = C := ⟨_, rfl⟩
      rw [hC] at H4 H5 HF1 HF2
      simp only [tnV] at H4
      clear hhas hat ha2 hi hok hxz hf1 hf2 hC
      go_wp2_with fail
      refine (H4.out _ (HGK.out _ HB3.out)).mono ?_
      rintro e w4 ⟨rfl, b4⟩
      have HB4 : Hid (Below w.heap.size w w4) := HB3.out.trans (b4.mono HB3.out.size)
      clear b4 x0 x1 x2
      go_wp2_with fail
      refine (H5.out _).mono ?_
      rintro e w5 ⟨rfl, b5⟩
      have HB5 : Hid (Below w.heap.size w w5) := HB4.out.trans (b5.mono HB4.out.size)
      clear b5
      by_cases hcs : C = s
      · have HR : Hid (R = ((i : Int), 0)) := by rw [Hid, HV2.out, HF1.out hcs]
        rw [decide_eq_true hcs]
        go_wp2_with fail
        go_ret2
        exact ⟨by rw [HR.out]; rfl, HB5.out⟩
      · have HR : Hid (R = (0, 210)) := by rw [Hid, HV2.out, HF2.out hcs]
        rw [decide_eq_false hcs]
        go_wp2_with fail
        go_ret2
        exact ⟨by rw [HR.out]; rfl, HB5.out⟩
  · have HR : Hid (R = (0, 1)) := by rw [Hid, HV.out, if_neg g]
    rw [show chkR l = 1 from chkR_bad g] at H1
    go_enter Tryd.func13, Tryd.ntmps13
    go_wp2_with fail
    refine (H1.out _ (HC.out _ (Below.refl _ _)) hB).mono ?_
    rintro e w1 ⟨rfl, b1⟩
    go_wp2_with fail
    go_ret2
    exact ⟨by rw [HR.out]; rfl, b1⟩
set_option maxRecDepth 20000 in
set_option maxHeartbeats 8000000 in
theorem qverify_any (a : Option Addr) (c B : Nat) (l : List Tn) (s : ByteArray) (w : World) (h : TA B w a l) (hB : B ≤ w.heap.size) (hl : l.length ≤ 4000000000000) (hz : ∀ t ∈ l, tnZ t) :
    Calls Tryd.prog 14 #[.slice a l.length c, .string s] w fun e w' => e = .returned (.tuple #[.int .i64 (verR l s).1, .int .i64 (verR l s).2]) ∧ Below w.heap.size w w' := by
  have H1 : Hid (∀ W : World, TA B W a l → B ≤ W.heap.size → _) := fun W h1 h2 => qcheck_any a c B l W h1 h2 hl hz
  have HC : Hid (∀ W : World, Below w.heap.size w W → TA B W a l) := fun W b => TA.below h (fun q hq => b.block q (by omega))
  have HZ : Hid _ := hz
  have HV : Hid (verR l s = if goodT l then (match findT l s with | some i => ((i : Int), (0 : Int)) | none => (0, 210)) else (0, 1)) := rfl
  obtain ⟨R, hR⟩ : ∃ R, verR l s = R := ⟨_, rfl⟩
  rw [hR] at HV ⊢
  obtain ⟨n, hn⟩ : ∃ n, l.length = n := ⟨_, rfl⟩
  have HL : Hid _ := hn
  rw [hn] at H1 hl ⊢
  clear hn hR h hz
  by_cases g : goodT l
  · have HG : Hid _ := g
    have HV2 : Hid (R = match findT l s with | some i => ((i : Int), (0 : Int)) | none => (0, 210)) := by rw [Hid, HV.out, if_pos g]
    rw [show chkR l = 0 from chkR_good g] at H1
    clear g HV
    go_enter Tryd.func14, Tryd.ntmps14
    go_wp2_with fail
    refine (H1.out _ (HC.out _ (Below.refl _ _)) hB).mono ?_
    rintro e w1 ⟨rfl, b1⟩
    have HB1 : Hid _ := b1
    clear b1
    go_wp2_with fail
    go_loopw [7] (fun i wr => ∃ k : Nat, k ≤ n ∧ i = .int .i64 (k : Nat) ∧ Hid (∀ j t, j < k → l[j]? = some t → credT t ≠ s) ∧ Hid (Below w.heap.size w wr)) (fun i _ => n - (intOf i).toNat)
    case atStart => exact ⟨0, by omega, rfl, fun j t hj => by omega, HB1.out⟩
    case round =>
      obtain ⟨k, hkn, rfl, HJ, HB⟩ := hrel
      by_cases hlt : k < n
      · have hlz : (k : Int) < (n : Int) := by omega
        obtain ⟨x, hx⟩ : ∃ x, l[k]? = some x := ⟨l[k]'(by rw [HL.out]; exact hlt), List.getElem?_eq_getElem _⟩
        obtain ⟨b, off, rfl, hbl, x0, x1, x2⟩ := HC.out _ HB.out k x hx
        have hxz := HZ.out x (List.mem_of_getElem? hx)
        have H4 : Hid (∀ W : World, _) := fun W => qmint_any x hxz.1 hxz.2 W
        rw [mintR_ok (goodT_ok HG.out hx)] at H4
        have HX : Hid _ := hx
        by_cases hcs : credT x = s
        · have HR : Hid (R = ((k : Int), 0)) := by rw [Hid, HV2.out, find_some HX.out hcs HJ.out]
          have hq := toList_eq' hcs
          obtain ⟨C, hC⟩ : ∃ C, credT x = C := ⟨_, rfl⟩
          rw [hC] at H4 hq
          simp only [tnV] at H4
          clear hx hxz hcs hC
          go_wp2_with fail
          refine (H4.out _).mono ?_
          rintro e w4 ⟨rfl, b4⟩
          have HB4 : Hid (Below w.heap.size w w4) := HB.out.trans (b4.mono HB.out.size)
          clear b4 x0 x1 x2
          go_wp2_with fail
          go_ret2
          exact ⟨by rw [HR.out]; rfl, HB4.out⟩
        · have HJ2 : Hid (∀ j t, j < k + 1 → l[j]? = some t → credT t ≠ s) := fun j t hj ht => by
            rcases Nat.lt_succ_iff_lt_or_eq.1 hj with h | rfl
            · exact HJ.out j t h ht
            · rw [HX.out, Option.some.injEq] at ht
              subst ht
              exact hcs
          have hq := toList_ne hcs
          obtain ⟨C, hC⟩ : ∃ C, credT x = C := ⟨_, rfl⟩
          rw [hC] at H4 hq
          simp only [tnV] at H4
          clear hx hxz hcs hC
          go_wp2_with fail
          refine (H4.out _).mono ?_
          rintro e w4 ⟨rfl, b4⟩
          have HB4 : Hid (Below w.heap.size w w4) := HB.out.trans (b4.mono HB.out.size)
          clear b4 x0 x1 x2
          go_wp2_with fail
          go_roundw
          case rel => exact ⟨k + 1, by omega, by go_num, HJ2.out, HB4.out⟩
          case measure => simp [intOf]; omega
      · have hlz : ¬ (k : Int) < (n : Int) := by omega
        have HR : Hid (R = (0, 210)) := by rw [Hid, HV2.out, find_none (fun i t hi => HJ.out i t (by have h1 := (List.getElem?_eq_some_iff.1 hi).1; have h2 := HL.out; omega) hi)]
        go_wp2_with fail
        go_ret2
        exact ⟨by rw [HR.out]; rfl, HB.out⟩
  · have HR : Hid (R = (0, 1)) := by rw [Hid, HV.out, if_neg g]
    rw [show chkR l = 1 from chkR_bad g] at H1
    go_enter Tryd.func14, Tryd.ntmps14
    go_wp2_with fail
    refine (H1.out _ (HC.out _ (Below.refl _ _)) hB).mono ?_
    rintro e w1 ⟨rfl, b1⟩
    go_wp2_with fail
    go_ret2
    exact ⟨by rw [HR.out]; rfl, b1⟩
end Go.Proofs.YtedibkcempcpnaaDoor.T
