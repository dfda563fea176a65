/-
  Who asks: the contracts of Who and of the twin's.
-/
import Derived.Test.YtedibkcempcpnaaDoorTVer
namespace Go.Proofs.YtedibkcempcpnaaDoor.T
open Go.RowKit
/-- From an address on there stand these texts. -/
def SA (B : Nat) (W : World) (a : Option Addr) (l : List ByteArray) : Prop := ∀ j t, l[j]? = some t → ∃ b off, a = some ⟨b, off, none⟩ ∧ b < B ∧ W.cell? ⟨b, off + j, none⟩ = some (.string t)
theorem SA.below {B : Nat} {w w' : World} {a : Option Addr} {l : List ByteArray} (h : SA B w a l) (k : ∀ b, b < B → w'.heap[b]? = w.heap[b]?) : SA B w' a l := by
  intro j t hj
  obtain ⟨b, off, e, hb, h0⟩ := h j t hj
  exact ⟨b, off, e, hb, (World.cell?_of_block (k b hb)).trans h0⟩
def whoR (l : List Tn) (vs : List ByteArray) : Int × Int := if goodT l then (match vs with | [v] => (if (bearR v).2 = 0 then verR l (bearR v).1 else (0, (bearR v).2)) | _ => (0, 210)) else (0, 1)
theorem bearR_size (v : ByteArray) : (bearR v).1.size ≤ v.size := by
  rw [bearR]
  split
  · show (v.extract 7 v.size).size ≤ _
    rw [ByteArray.size_extract]
    omega
  · exact Nat.zero_le _
set_option maxRecDepth 20000 in
set_option maxHeartbeats 8000000 in
theorem who_any (a : Option Addr) (c B : Nat) (l : List Tn) (va : Option Addr) (vc : Nat) (vs : List ByteArray) (w : World) (h : TA B w a l) (hv : SA B w va vs) (hB : B ≤ w.heap.size) (hl : l.length ≤ 4000000000000) (hz : ∀ t ∈ l, tnZ t) (hvl : vs.length ≤ 1000000000000) (hs : ∀ v ∈ vs, v.size < 4294967281) (m : Int) (hm : w.cell? ⟨1, 0, none⟩ = some (.int .i64 m)) (hK : GK w) :
    Calls Tryd.prog 17 #[.slice a l.length c, .slice va vs.length vc] w fun e w' => e = .returned (.tuple #[.int .i64 (whoR l vs).1, .int .i64 (whoR l vs).2]) ∧ Below w.heap.size w w' := by
  have H1 : Hid (∀ W : World, TA B W a l → B ≤ W.heap.size → _) := fun W h1 h2 => check_any a c B l W h1 h2 hl hz
  have H2 : Hid (∀ v, v ∈ vs → ∀ W : World, _) := fun v q W => bearer_any v (by have := hs v q; omega) W
  have H3 : Hid (∀ v, v ∈ vs → ∀ W : World, Below w.heap.size w W → TA B W a l → B ≤ W.heap.size → _) := fun v q W b h1 h2 => verify_any a c B l (bearR v).1 W h1 h2 hl hz (by have := hs v q; have := bearR_size v; omega) m (mx_below hm b) (hK.below b)
  have HC : Hid (∀ W : World, Below w.heap.size w W → TA B W a l) := fun W b => TA.below h (fun q hq => b.block q (by omega))
  have HS : Hid (∀ W : World, Below w.heap.size w W → SA B W va vs) := fun W b => SA.below hv (fun q hq => b.block q (by omega))
  have HH : Hid (∀ W : World, Below w.heap.size w W → B ≤ W.heap.size) := fun W b => by have := b.size; omega
  have HV : Hid (∀ v, vs = [v] → goodT l → whoR l vs = if (bearR v).2 = 0 then verR l (bearR v).1 else (0, (bearR v).2)) := fun v q g => by subst q; unfold whoR; rw [if_pos g]
  have HV2 : Hid (vs.length ≠ 1 → goodT l → whoR l vs = (0, 210)) := fun q g => by
    unfold whoR
    rw [if_pos g]
    match vs, q with
    | [], _ => rfl
    | [_], q => exact absurd rfl q
    | _ :: _ :: _, _ => rfl
  have HV3 : Hid (¬ goodT l → whoR l vs = (0, 1)) := fun g => by unfold whoR; rw [if_neg g]
  have HO : Hid (vs.length = 1 → ∃ v, vs = [v]) := List.length_eq_one_iff.1
  obtain ⟨R, hR⟩ : ∃ R, whoR l vs = R := ⟨_, rfl⟩
  rw [hR] at HV HV2 HV3 ⊢
  obtain ⟨n, hn⟩ : ∃ n, l.length = n := ⟨_, rfl⟩
  rw [hn] at H1 H3 hl ⊢
  obtain ⟨k, hk⟩ : ∃ k, vs.length = k := ⟨_, rfl⟩
  rw [hk] at HV2 HO hvl ⊢
  clear hn hR hk h hz hv hs hm hK
  by_cases g : goodT l
  · have HG : Hid _ := g
    rw [show chkR l = 0 from chkR_good g] at H1
    clear g
    go_enter Tryd.func17, Tryd.ntmps17
    go_wp2_with fail
    refine (H1.out _ (HC.out _ (Below.refl _ _)) hB).mono ?_
    rintro e w1 ⟨rfl, b1⟩
    have HB1 : Hid _ := b1
    clear b1
    by_cases hk1 : k = 1
    · obtain ⟨v, hv⟩ := HO.out hk1
      have H22 : Hid (∀ W : World, _) := H2.out v (by rw [hv]; exact List.mem_cons_self ..)
      have H33 : Hid (∀ W : World, _) := H3.out v (by rw [hv]; exact List.mem_cons_self ..)
      have HR := HV.out v hv HG.out
      obtain ⟨vb, vo, rfl, _, y0⟩ := HS.out _ HB1.out 0 v (by rw [hv]; rfl)
      rw [Nat.add_zero] at y0
      obtain ⟨u, hu⟩ : ∃ u, (bearR v).1 = u := ⟨_, rfl⟩
      obtain ⟨f, hf⟩ : ∃ f, (bearR v).2 = f := ⟨_, rfl⟩
      have hfz : f = 0 ∨ f = 210 := by
        rw [← hf, bearR]
        split
        · exact Or.inl rfl
        · exact Or.inr rfl
      rw [hu, hf] at H22 HR
      rw [hu] at H33
      have HRR : Hid _ := HR
      subst hk1
      clear hv HR hu hf H2 H3 HV HV2 HV3
      rcases hfz with rfl | rfl
      · rw [if_pos rfl] at HRR
        go_wp2_with fail
        refine (H22.out _).mono ?_
        rintro e w2 ⟨rfl, b2⟩
        have HB2 : Hid (Below w.heap.size w w2) := HB1.out.trans (b2.mono HB1.out.size)
        clear b2 y0
        go_wp2_with fail
        refine (H33.out _ HB2.out (HC.out _ HB2.out) (HH.out _ HB2.out)).mono ?_
        rintro e w3 ⟨rfl, b3⟩
        have HB3 : Hid (Below w.heap.size w w3) := HB2.out.trans (b3.mono HB2.out.size)
        clear b3
        go_wp2_with fail
        go_ret2
        exact ⟨by rw [HRR.out]; rfl, HB3.out⟩
      · rw [if_neg (by decide)] at HRR
        go_wp2_with fail
        refine (H22.out _).mono ?_
        rintro e w2 ⟨rfl, b2⟩
        have HB2 : Hid (Below w.heap.size w w2) := HB1.out.trans (b2.mono HB1.out.size)
        clear b2 y0
        go_wp2_with fail
        go_ret2
        exact ⟨by rw [HRR.out]; rfl, HB2.out⟩
    · have HR : Hid (R = (0, 210)) := HV2.out hk1 HG.out
      have q0 : ((k : Int) != 1) = true := by simp; omega
      have q1 : ((k : Int) == 1) = false := by simp; omega
      go_wp2_with fail
      go_ret2
      exact ⟨by rw [HR.out]; rfl, HB1.out⟩
  · have HR : Hid (R = (0, 1)) := HV3.out g
    rw [show chkR l = 1 from chkR_bad g] at H1
    go_enter Tryd.func17, Tryd.ntmps17
    go_wp2_with fail
    refine (H1.out _ (HC.out _ (Below.refl _ _)) hB).mono ?_
    rintro e w1 ⟨rfl, b1⟩
    go_wp2_with fail
    go_ret2
    exact ⟨by rw [HR.out]; rfl, b1⟩
set_option maxRecDepth 20000 in
set_option maxHeartbeats 8000000 in
theorem qwho_any (a : Option Addr) (c B : Nat) (l : List Tn) (va : Option Addr) (vc : Nat) (vs : List ByteArray) (w : World) (h : TA B w a l) (hv : SA B w va vs) (hB : B ≤ w.heap.size) (hl : l.length ≤ 4000000000000) (hz : ∀ t ∈ l, tnZ t) (hvl : vs.length ≤ 1000000000000) (hs : ∀ v ∈ vs, v.size < 4294967281) :
    Calls Tryd.prog 18 #[.slice a l.length c, .slice va vs.length vc] w fun e w' => e = .returned (.tuple #[.int .i64 (whoR l vs).1, .int .i64 (whoR l vs).2]) ∧ Below w.heap.size w w' := by
  have H1 : Hid (∀ W : World, TA B W a l → B ≤ W.heap.size → _) := fun W h1 h2 => qcheck_any a c B l W h1 h2 hl hz
  have H2 : Hid (∀ v, v ∈ vs → ∀ W : World, _) := fun v q W => qbearer_any v (by have := hs v q; omega) W
  have H3 : Hid (∀ v, v ∈ vs → ∀ W : World, Below w.heap.size w W → TA B W a l → B ≤ W.heap.size → _) := fun v _q W _b h1 h2 => qverify_any a c B l (bearR v).1 W h1 h2 hl hz
  have HC : Hid (∀ W : World, Below w.heap.size w W → TA B W a l) := fun W b => TA.below h (fun q hq => b.block q (by omega))
  have HS : Hid (∀ W : World, Below w.heap.size w W → SA B W va vs) := fun W b => SA.below hv (fun q hq => b.block q (by omega))
  have HH : Hid (∀ W : World, Below w.heap.size w W → B ≤ W.heap.size) := fun W b => by have := b.size; omega
  have HV : Hid (∀ v, vs = [v] → goodT l → whoR l vs = if (bearR v).2 = 0 then verR l (bearR v).1 else (0, (bearR v).2)) := fun v q g => by subst q; unfold whoR; rw [if_pos g]
  have HV2 : Hid (vs.length ≠ 1 → goodT l → whoR l vs = (0, 210)) := fun q g => by
    unfold whoR
    rw [if_pos g]
    match vs, q with
    | [], _ => rfl
    | [_], q => exact absurd rfl q
    | _ :: _ :: _, _ => rfl
  have HV3 : Hid (¬ goodT l → whoR l vs = (0, 1)) := fun g => by unfold whoR; rw [if_neg g]
  have HO : Hid (vs.length = 1 → ∃ v, vs = [v]) := List.length_eq_one_iff.1
  obtain ⟨R, hR⟩ : ∃ R, whoR l vs = R := ⟨_, rfl⟩
  rw [hR] at HV HV2 HV3 ⊢
  obtain ⟨n, hn⟩ : ∃ n, l.length = n := ⟨_, rfl⟩
  rw [hn] at H1 H3 hl ⊢
  obtain ⟨k, hk⟩ : ∃ k, vs.length = k := ⟨_, rfl⟩
  rw [hk] at HV2 HO hvl ⊢
  clear hn hR hk h hz hv hs
  by_cases g : goodT l
  · have HG : Hid _ := g
    rw [show chkR l = 0 from chkR_good g] at H1
    clear g
    go_enter Tryd.func18, Tryd.ntmps18
    go_wp2_with fail
    refine (H1.out _ (HC.out _ (Below.refl _ _)) hB).mono ?_
    rintro e w1 ⟨rfl, b1⟩
    have HB1 : Hid _ := b1
    clear b1
    by_cases hk1 : k = 1
    · obtain ⟨v, hv⟩ := HO.out hk1
      have H22 : Hid (∀ W : World, _) := H2.out v (by rw [hv]; exact List.mem_cons_self ..)
      have H33 : Hid (∀ W : World, _) := H3.out v (by rw [hv]; exact List.mem_cons_self ..)
      have HR := HV.out v hv HG.out
      obtain ⟨vb, vo, rfl, _, y0⟩ := HS.out _ HB1.out 0 v (by rw [hv]; rfl)
      rw [Nat.add_zero] at y0
      obtain ⟨u, hu⟩ : ∃ u, (bearR v).1 = u := ⟨_, rfl⟩
      obtain ⟨f, hf⟩ : ∃ f, (bearR v).2 = f := ⟨_, rfl⟩
      have hfz : f = 0 ∨ f = 210 := by
        rw [← hf, bearR]
        split
        · exact Or.inl rfl
        · exact Or.inr rfl
      rw [hu, hf] at H22 HR
      rw [hu] at H33
      have HRR : Hid _ := HR
      subst hk1
      clear hv HR hu hf H2 H3 HV HV2 HV3
      rcases hfz with rfl | rfl
      · rw [if_pos rfl] at HRR
        go_wp2_with fail
        refine (H22.out _).mono ?_
        rintro e w2 ⟨rfl, b2⟩
        have HB2 : Hid (Below w.heap.size w w2) := HB1.out.trans (b2.mono HB1.out.size)
        clear b2 y0
        go_wp2_with fail
        refine (H33.out _ HB2.out (HC.out _ HB2.out) (HH.out _ HB2.out)).mono ?_
        rintro e w3 ⟨rfl, b3⟩
        have HB3 : Hid (Below w.heap.size w w3) := HB2.out.trans (b3.mono HB2.out.size)
        clear b3
        go_wp2_with fail
        go_ret2
        exact ⟨by rw [HRR.out]; rfl, HB3.out⟩
      · rw [if_neg (by decide)] at HRR
        go_wp2_with fail
        refine (H22.out _).mono ?_
        rintro e w2 ⟨rfl, b2⟩
        have HB2 : Hid (Below w.heap.size w w2) := HB1.out.trans (b2.mono HB1.out.size)
        clear b2 y0
        go_wp2_with fail
        go_ret2
        exact ⟨by rw [HRR.out]; rfl, HB2.out⟩
    · have HR : Hid (R = (0, 210)) := HV2.out hk1 HG.out
      have q0 : ((k : Int) != 1) = true := by simp; omega
      have q1 : ((k : Int) == 1) = false := by simp; omega
      go_wp2_with fail
      go_ret2
      exact ⟨by rw [HR.out]; rfl, HB1.out⟩
  · have HR : Hid (R = (0, 1)) := HV3.out g
    rw [show chkR l = 1 from chkR_bad g] at H1
    go_enter Tryd.func18, Tryd.ntmps18
    go_wp2_with fail
    refine (H1.out _ (HC.out _ (Below.refl _ _)) hB).mono ?_
    rintro e w1 ⟨rfl, b1⟩
    go_wp2_with fail
    go_ret2
    exact ⟨by rw [HR.out]; rfl, b1⟩
end Go.Proofs.YtedibkcempcpnaaDoor.T
