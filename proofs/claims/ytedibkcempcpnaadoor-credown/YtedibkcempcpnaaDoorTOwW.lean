/-
  The walk of CredOwn.
-/
import Derived.Test.YtedibkcempcpnaaDoorTLiv
import Derived.Deep.Cut
namespace Go.Proofs.YtedibkcempcpnaaDoor.T
open Go.RowKit
/-- A remainder, brought to its place: at once, or with the length added. -/
theorem rem_place (x : Int) {n : Nat} (h : 0 < n) : ∃ i : Nat, i < n ∧ ((x.tmod (n : Int) = (i : Int)) ∨ ∃ q : Int, x.tmod (n : Int) = q ∧ q < 0 ∧ q + (n : Int) = (i : Int) ∧ -(n : Int) < q) := by
  have hb : (0 : Int) < (n : Int) := by omega
  have h1 := Int.tmod_lt_of_pos x hb
  have h2 := Int.lt_tmod_of_pos x hb
  by_cases hn : x.tmod (n : Int) < 0
  · exact ⟨(x.tmod (n : Int) + n).toNat, by omega, Or.inr ⟨_, rfl, hn, by omega, h2⟩⟩
  · exact ⟨(x.tmod (n : Int)).toNat, by omega, Or.inl (by omega)⟩
theorem xor_nat (x y : Nat) (hx : x < 256) (hy : y < 256) : bits .xor .u8 (x : Int) (y : Int) = ((x ^^^ y : Nat) : Int) := u8_xor_nat x y hx hy
theorem xor_lt (x y : Nat) (hx : x < 256) (hy : y < 256) : x ^^^ y < 256 := Nat.xor_lt_two_pow (n := 8) hx hy
def trn (s : ByteArray) (k d : Nat) : ByteArray := ⟨(s.data.toList.set k (UInt8.ofNat d)).toArray⟩
theorem trn_size (s : ByteArray) (k d : Nat) : (trn s k d).size = s.size := by
  show (s.data.toList.set k (UInt8.ofNat d)).toArray.size = _
  simp
theorem trn_same {s : ByteArray} {k : Nat} {c : UInt8} (h : s.data.toList[k]? = some c) : trn s k c.toNat = s := by
  apply ext_list
  show (s.data.toList.set k (UInt8.ofNat c.toNat)).toArray.toList = _
  rw [UInt8.ofNat_toNat, List.toList_toArray]
  obtain ⟨hk, hc⟩ := List.getElem?_eq_some_iff.1 h
  conv => lhs; rw [← hc]
  exact List.set_getElem_self hk
theorem trn_not {s : ByteArray} {k d : Nat} {c : UInt8} (h : s.data.toList[k]? = some c) (hd : d < 256) (hne : d ≠ c.toNat) : s ≠ trn s k d := fun e => by
  have h1 : s.data.toList = s.data.toList.set k (UInt8.ofNat d) := by
    conv => lhs; rw [e]
    show (s.data.toList.set k (UInt8.ofNat d)).toArray.toList = _
    rw [List.toList_toArray]
  have hk := (List.getElem?_eq_some_iff.1 h).1
  have h2 : s.data.toList[k]? = some (UInt8.ofNat d) := by rw [h1, List.getElem?_set_self hk]
  rw [h, Option.some.injEq] at h2
  apply hne
  rw [h2, UInt8.toNat_ofNat', Nat.mod_eq_of_lt (by omega)]
theorem xor_zero' (x : Nat) : x ^^^ 0 = x := by simp
theorem xor_ne {x y : Nat} (h : y ≠ 0) : x ^^^ y ≠ x := fun e => h (by
  have : x ^^^ (x ^^^ y) = x ^^^ x := by rw [e]
  rw [← Nat.xor_assoc, Nat.xor_self, Nat.zero_xor] at this
  exact this)
set_option maxRecDepth 20000 in
set_option maxHeartbeats 8000000 in
theorem own_walk (a : Option Addr) (c B : Nat) (l : List Tn) (wh at' : Int) (by' : Nat) (hby : by' < 256) (w : World) (h : TA B w a l) (hB : B ≤ w.heap.size) (hl : l.length ≤ 4000000000000) (hz : ∀ t ∈ l, tnZ t) (m : Int) (hm : w.cell? ⟨1, 0, none⟩ = some (.int .i64 m)) (hK : GK w) :
    Calls Tryd.prog 5 #[.slice a l.length c, .int .i64 wh, .int .i64 at', .int .u8 by'] w fun e w' => e = .returned (.bool true) ∧ Below w.heap.size w w' := by
  have HTA : Hid (∀ W, Below w.heap.size w W → TA B W a l) := fun W b => TA.below h (fun q hq => b.block q (by omega))
  have H1 : Hid (∀ W, Below w.heap.size w W → _) := fun W b => lives_any m W (mx_below hm b) (hK.below b)
  have H2 : Hid (∀ W, Below w.heap.size w W → _) := fun W b => check_any a c B l W (HTA.out W b) (by have := b.size; omega) hl hz
  have H3 : Hid (∀ W, Below w.heap.size w W → _) := fun W b => qcheck_any a c B l W (HTA.out W b) (by have := b.size; omega) hl hz
  have H4 : Hid (∀ t ∈ l, ∀ W, Below w.heap.size w W → _) := fun t ht W b => mint_any t (hz t ht).1 (hz t ht).2 W (hK.below b)
  have H5 : Hid (∀ s : ByteArray, s.size < 4294967281 → ∀ W, Below w.heap.size w W → _) := fun s hs W b => verify_any a c B l s W (HTA.out W b) (by have := b.size; omega) hl hz hs m (mx_below hm b) (hK.below b)
  by_cases hg : goodT l
  · rw [chkR_good hg] at H2
    obtain ⟨i, hi, hrem⟩ := rem_place wh (n := l.length) (by have := hg.1; omega)
    obtain ⟨x, hx⟩ : ∃ x, l[i]? = some x := ⟨l[i], List.getElem?_eq_getElem hi⟩
    have hok := goodT_ok hg hx
    have H41 : Hid (∀ W, Below w.heap.size w W → _) := fun W b => H4.out x (List.mem_of_getElem? hx) W b
    rw [mintR_ok hok] at H41
    have hsz := credT_sz x
    have hsz2 := credT_size hok
    have H51 : Hid (∀ W, Below w.heap.size w W → _) := fun W b => H5.out (credT x) (by omega) W b
    rw [ver_own hg hx rfl] at H51
    have HNO : Hid (∀ s, credT x ≠ s → _) := fun s hs => ver_turned hg hx hs
    have HOW : Hid (_ = _) := ver_own hg hx (s := credT x) rfl
    obtain ⟨S, hS⟩ : ∃ S, credT x = S := ⟨_, rfl⟩
    rw [hS] at H41 H51 hsz hsz2 HNO HOW
    obtain ⟨k, hk, hrem2⟩ := rem_place at' (n := S.size) (by omega)
    obtain ⟨y, hy⟩ : ∃ y, S.data.toList[k]? = some y := ⟨S.data.toList[k]'(by simp; exact hk), List.getElem?_eq_getElem _⟩
    have hyl := y.toNat_lt
    have HX := xor_nat y.toNat by' hyl hby
    have HX2 := xor_lt y.toNat by' hyl hby
    have HZ0 : Hid (by' = 0 → y.toNat ^^^ by' = y.toNat) := fun e => by rw [e]; exact xor_zero' _
    have HZ1 : Hid (by' ≠ 0 → y.toNat ^^^ by' ≠ y.toNat) := fun e => xor_ne e
    obtain ⟨d, hd⟩ : ∃ d, y.toNat ^^^ by' = d := ⟨_, rfl⟩
    rw [hd] at HX HX2 HZ0 HZ1
    have H52 : Hid (∀ W, Below w.heap.size w W → _) := fun W b => H5.out (trn S k d) (by rw [trn_size]; omega) W b
    have HT0 : Hid (by' = 0 → verR l (trn S k d) = ((i : Int), 0)) := fun e => by rw [HZ0.out e, trn_same hy]; exact HOW.out
    have HT1 : Hid (by' ≠ 0 → _) := fun e => HNO.out (trn S k d) (trn_not hy HX2 (HZ1.out e))
    have hcv := fun w => run_bytes_of_string (P := Tryd.prog) w 9 37 5 S Tryd.underlying9 Tryd.underlying37 Tryd.underlying5
    have HLEN : Hid (S.data.toList.length = S.size) := by rw [Hid]; simp
    have HST : Hid (∀ (W : World) cap, BRow (W.alloc (.cells (bytesRow S cap) 5 ((bytesRow S cap).size, (bytesRow S cap).size + 1))).drew W.heap.size S.data.toList) := fun W cap => BRow.start W S cap
    have HSET : Hid (∀ (W : World) g, BRow W g S.data.toList → BRow (W.setCell ⟨g, k, none⟩ (.int .u8 (d : Int))) g (trn S k d).data.toList) := fun W g q => by
      have := q.set (j := k) (by rw [HLEN.out]; exact hk) (UInt8.ofNat d) (u := (d : Int)) (by rw [UInt8.toNat_ofNat', Nat.mod_eq_of_lt (by omega)])
      simpa [trn] using this
    have HSZ : Hid ((trn S k d).data.toList.length = S.size) := by rw [Hid]; have := trn_size S k d; simpa using this
    obtain ⟨V, hV⟩ : ∃ V, verR l (trn S k d) = V := ⟨_, rfl⟩
    rw [hV] at H52 HT0 HT1
    obtain ⟨T, hT⟩ : ∃ T, trn S k d = T := ⟨_, rfl⟩
    rw [hT] at H52 HSET HSZ
    obtain ⟨v1, v2⟩ := V
    simp only at H52
    obtain ⟨n, hn⟩ : ∃ n, l.length = n := ⟨_, rfl⟩
    have HI : Hid _ := hx
    have hn1 := hg.1
    have hn2 := hg.2.1
    have HV : Hid ((by' = 0 ∧ v1 = (i : Int) ∧ v2 = 0) ∨ (by' ≠ 0 ∧ v1 = 0 ∧ v2 = 210) ∨ (by' ≠ 0 ∧ ∃ j : Nat, j ≠ i ∧ v1 = (j : Int) ∧ v2 = 0)) := by
      by_cases q : by' = 0
      · have := HT0.out q
        simp only [Prod.mk.injEq] at this
        exact Or.inl ⟨q, this.1, this.2⟩
      · rcases HT1.out q with r | ⟨j, r1, _, r2⟩
        · simp only [Prod.mk.injEq] at r
          exact Or.inr (Or.inl ⟨q, r.1, r.2⟩)
        · simp only [Prod.mk.injEq] at r2
          exact Or.inr (Or.inr ⟨q, j, r1, r2.1, r2.2⟩)
    clear HT0 HT1
    rw [hn] at H2 H3 H51 H52 hrem hi hn1 hn2 ⊢
    have HY : Hid (∀ (W : World) g, BRow W g S.data.toList → W.cell? ⟨g, k, none⟩ = some (.int .u8 (y.toNat : Int)) ∧ W.frozen? ⟨g, k, none⟩ = false) := fun W g q => ⟨q.cell k y hy, q.free k (by rw [HLEN.out]; exact hk)⟩
    obtain ⟨yn, hyn⟩ : ∃ yn, y.toNat = yn := ⟨_, rfl⟩
    rw [hyn] at HX HY
    have e1 : ((i : Int) != (i : Int)) = false := by simp
    have hkz : (k : Int) < (S.size : Int) := by omega
    have hiz : (i : Int) < (n : Int) := by omega
    have s66 : 66 ≤ S.size := by
      have := okT_z hok
      unfold okT nmR at hok
      simp only [Bool.and_eq_true, decide_eq_true_eq] at hok
      have := hok.1.2.1
      omega
    clear hd hV hT hn hyn hsz hok hx hg hz hl hm hK HZ0 HZ1 HNO HOW H4 H5 hS hy hyl
    go_enter Tryd.func5, Tryd.ntmps5
    go_wp2_with fail
    refine (H1.out _ (Below.refl _ _)).mono ?_
    rintro e w1 ⟨rfl, b1⟩
    have HB1 : Hid (Below w.heap.size w w1) := b1
    clear b1
    go_wp2_with fail
    refine (H2.out _ HB1.out).mono ?_
    rintro e w2 ⟨rfl, b2⟩
    have HB2 : Hid (Below w.heap.size w w2) := HB1.out.trans (b2.mono HB1.out.size)
    clear b2
    obtain ⟨b, off, rfl, hb, x0, x1, x2⟩ := HTA.out w2 HB2.out i x HI.out
    unfold tnV at H41
    have n0 : ((n : Int) == 0) = false := beq_eq_false_iff_ne.2 (by omega)
    have z0 : ((S.size : Int) == 0) = false := beq_eq_false_iff_ne.2 (by omega)
    rcases hrem with q1 | ⟨q, q1, q2, q3, q4⟩
    case' inl => have q5 : ¬ (i : Int) < 0 := by omega
    all_goals go_wp2_with fail
    all_goals refine (H41.out _ HB2.out).mono ?_
    all_goals rintro e w3 ⟨rfl, b3⟩
    all_goals have HB3 : Hid (Below w.heap.size w w3) := HB2.out.trans (b3.mono HB2.out.size)
    all_goals clear b3 x0 x1 x2
    all_goals go_wp2_with fail
    all_goals refine (H51.out _ HB3.out).mono ?_
    all_goals rintro e w4 ⟨rfl, b4⟩
    all_goals have HB4 : Hid (Below w.heap.size w w4) := HB3.out.trans (b4.mono HB3.out.size)
    all_goals clear b4
    all_goals rcases hrem2 with g1 | ⟨g, g1, g2, g3, g4⟩
    all_goals try have g5 : ¬ (k : Int) < 0 := by omega
    all_goals go_upto_region 16 with fail
    all_goals generalize grownCap w4 S.size 0 5 = cap at *
    all_goals clear hcv
    all_goals have HR := HST.out w4 cap
    all_goals generalize hW5 : (w4.alloc (.cells (bytesRow S cap) 5 ((bytesRow S cap).size, (bytesRow S cap).size + 1))).drew = W5 at HR ⊢
    all_goals have HB5 : Hid (Below w.heap.size w W5) := by rw [Hid, ← hW5]; exact (HB4.out.alloc HB4.out.size _).drew
    all_goals clear hW5
    all_goals obtain ⟨y0, y1⟩ := HY.out _ _ HR
    all_goals have HR2 : Hid (BRow (W5.setCell ⟨w4.heap.size, k, none⟩ (.int .u8 (d : Int))) w4.heap.size T.data.toList) := HSET.out _ _ HR
    all_goals clear HR
    all_goals have HB6 : Hid (Below w.heap.size w (W5.setCell ⟨w4.heap.size, k, none⟩ (.int .u8 (d : Int)))) := HB5.out.setCell HB4.out.size _
    all_goals generalize hW6 : W5.setCell ⟨w4.heap.size, k, none⟩ (.int .u8 (d : Int)) = W6 at HR2 HB6
    all_goals have hcb := HR2.out.conv (n := S.size) HSZ.out.symm cap
    all_goals rw [show (⟨T.data.toList.toArray⟩ : ByteArray) = T from by simp] at hcb
    all_goals go_wp2_with fail
    all_goals try rw [hW6]
    all_goals clear hW6 HR2
    all_goals refine (H52.out _ HB6.out).mono ?_
    all_goals rintro e w7 ⟨rfl, b7⟩
    all_goals have HB7 : Hid (Below w.heap.size w w7) := HB6.out.trans (b7.mono HB6.out.size)
    all_goals clear b7
    all_goals rcases HV.out with ⟨a1, rfl, rfl⟩ | ⟨a1, rfl, rfl⟩ | ⟨a1, j, aj, rfl, rfl⟩
    all_goals try have a2 : ((by' : Int) == 0) = false := beq_eq_false_iff_ne.2 (by omega)
    all_goals try have a2 : ((by' : Int) == 0) = true := by rw [a1]; rfl
    all_goals try have a3 : ((j : Int) != (i : Int)) = true := by simp; omega
    all_goals try have a4 : ((i : Int) == (i : Int)) = true := by simp
    all_goals go_wp2_with fail
    all_goals go_ret
    all_goals exact ⟨rfl, HB7.out⟩
  · rw [chkR_bad hg] at H2 H3
    obtain ⟨n, hn⟩ : ∃ n, l.length = n := ⟨_, rfl⟩
    rw [hn] at H2 H3 ⊢
    clear hn hg hz hl hm hK h HTA H4 H5
    go_enter Tryd.func5, Tryd.ntmps5
    go_wp2_with fail
    refine (H1.out _ (Below.refl _ _)).mono ?_
    rintro e w1 ⟨rfl, b1⟩
    have HB1 : Hid (Below w.heap.size w w1) := b1
    clear b1
    go_wp2_with fail
    refine (H2.out _ HB1.out).mono ?_
    rintro e w2 ⟨rfl, b2⟩
    have HB2 : Hid (Below w.heap.size w w2) := HB1.out.trans (b2.mono HB1.out.size)
    clear b2
    go_wp2_with fail
    refine (H3.out _ HB2.out).mono ?_
    rintro e w3 ⟨rfl, b3⟩
    have HB3 : Hid (Below w.heap.size w w3) := HB2.out.trans (b3.mono HB2.out.size)
    clear b3
    go_wp2_with fail
    go_ret
    exact ⟨rfl, HB3.out⟩
end Go.Proofs.YtedibkcempcpnaaDoor.T
