/-
  The contracts of New and Put.
-/
import Derived.Test.YtdgmjmohfpjlnaaIns
namespace Go.Proofs.Ytdgmjmohfpjlnaa
open Go.RowKit
def st0 : St := ⟨1, fun _ => cl0, fun _ _ => 0, 0, []⟩
def pthF (c : Cl) (s : St) (k : Nat) : Nat := lsL k (ahE c.key c.seq s.E)
def putR (c : Cl) (hgt : Int) (s : St) : Nat := if chkR c ≠ 0 then 60 else if hgt < 1 ∨ 12 < hgt then 1 else if hasE c s.E = true then 61 else 0
def putS (c : Cl) (hgt : Int) (s : St) : St := if putR c hgt s = 0 then { insS s c hgt.toNat (pthF c s) with size := s.size + (c.key.size + c.val.size + 16) } else s
theorem hasE_at {n : Nat} {cell : Nat → Cl} {nx : Nat → Nat → Nat} {E : List En} (r : Rep n cell nx E) (c : Cl) : (fsL 0 (beE c.key c.seq E) = 0 ∧ hasE c E = false) ∨ ∃ e : En, fsL 0 (beE c.key c.seq E) = e.p ∧ 1 ≤ e.p ∧ e.p < n ∧ cell e.p = e.c ∧ hasE c E = ((e.c.key.toList == c.key.toList) && decide (e.c.seq = c.seq)) := by
  unfold hasE
  cases hb : beE c.key c.seq E with
  | nil => exact Or.inl ⟨rfl, rfl⟩
  | cons e R =>
    have he := r.each e (by rw [← ah_be c.key c.seq E, hb]; simp)
    exact Or.inr ⟨e, fsL_hit (by omega) _, he.1, he.2.1, he.2.2.1, rfl⟩
theorem chk_cases (c : Cl) : chkR c = 0 ∨ chkR c = 60 := by unfold chkR; split <;> simp
theorem chk_sizes {c : Cl} (h : chkR c = 0) : c.key.size ≤ 128 ∧ c.val.size ≤ 1024 := by
  unfold chkR at h
  split at h
  · cases h
  · rename_i q; omega
theorem MA.size {B : Nat} {W : World} {g b cap : Nat} {s : St} (h : MA B W g b cap s) (v : Nat) : MA B (W.setCell ⟨g, 2, none⟩ (.int .i64 (v : Nat))) g b cap { s with size := v } := by
  refine ⟨?_, ownsRow_setCell_other h.row (a := ⟨g, 2, none⟩) (fun e => h.apart (Option.some.inj e).symm) _, h.rep, h.apart, h.gB, h.small⟩
  have := set_block h.blk 2 (.int .i64 (v : Nat))
  rw [this]
  simp
set_option maxRecDepth 20000 in
set_option maxHeartbeats 16000000 in
theorem put_any (B g b cap : Nat) (s : St) (c : Cl) (hgt : Int) (w : World) (h : MA B w g b cap s) (hn : s.n < 1000000000) (hsz : s.size ≤ 1200 * s.n) :
    Calls Try.prog 12 #[.pointer (some ⟨g, 0, none⟩), clV c, .int .i64 hgt] w fun e w' => e = .returned (.int .i64 (putR c hgt s : Nat)) ∧ ∃ b' cap', MA B w' g b' cap' (putS c hgt s) ∧ KM g b w w' ∧ (b' = b ∨ w.heap.size ≤ b') := by
  have HM : Hid (∀ W, Below w.heap.size w W → MA B W g b cap s) := fun W k => h.below k
  have HNO : Hid (putR c hgt s ≠ 0 → ∀ W, Below w.heap.size w W → ∃ b' cap', MA B W g b' cap' (putS c hgt s) ∧ KM g b w W ∧ (b' = b ∨ w.heap.size ≤ b')) := fun q W k => by
    refine ⟨b, cap, ?_, KM.of k, Or.inl rfl⟩
    unfold putS
    rw [if_neg q]
    exact h.below k
  have HP1 : Hid (chkR c ≠ 0 → putR c hgt s = 60) := fun q => by unfold putR; rw [if_pos q]
  have HP2 : Hid (chkR c = 0 → hgt < 1 ∨ 12 < hgt → putR c hgt s = 1) := fun q z => by unfold putR; rw [if_neg (fun e => e q), if_pos z]
  have HP3 : Hid (chkR c = 0 → ¬ (hgt < 1 ∨ 12 < hgt) → hasE c s.E = true → putR c hgt s = 61) := fun q z y => by unfold putR; rw [if_neg (fun e => e q), if_neg z, if_pos y]
  have HP4 : Hid (chkR c = 0 → ¬ (hgt < 1 ∨ 12 < hgt) → hasE c s.E = false → putR c hgt s = 0) := fun q z y => by unfold putR; rw [if_neg (fun e => e q), if_neg z, if_neg (by rw [y]; decide)]
  have HPS : Hid (putR c hgt s = 0 → putS c hgt s = { insS s c hgt.toNat (pthF c s) with size := s.size + (c.key.size + c.val.size + 16) }) := fun q => by unfold putS; rw [if_pos q]
  have HCS : Hid (chkR c = 0 → c.key.size ≤ 128 ∧ c.val.size ≤ 1024) := chk_sizes
  have HCC : Hid _ := chk_cases c
  have HCK : Hid (∀ W : World, _) := fun W => check_any c W
  have HCL : Hid (∀ W, Below w.heap.size w W → _) := fun W k => closed_no g W (h.below k).hd.1
  obtain ⟨ck, hck⟩ : ∃ ck, chkR c = ck := ⟨_, rfl⟩
  rw [hck] at HP1 HP2 HP3 HP4 HCS HCC HCK
  clear hck
  obtain ⟨W0, hW0⟩ : ∃ W0, w.alloc (.cells #[.string c.key, .int .u64 (c.seq : Nat), .string c.val, .bool c.gone] 33) = W0 := ⟨_, rfl⟩
  have HB0 : Hid (Below w.heap.size w W0) := by rw [Hid, ← hW0]; exact below_new _ _
  have HC0 : Hid (CB W0 w.heap.size c) := by rw [Hid, ← hW0]; exact block_alloc_at _ _
  have HH : Hid (MA B w g b cap s) := h
  obtain ⟨x0, x1, x2, x3⟩ := CB.cells HC0.out
  simp only [clV] at HCK ⊢
  clear h
  go_enter Try.func12, Try.ntmps12
  go_wp2_with fail
  try rw [hW0]
  refine (HCL.out W0 HB0.out).mono ?_
  rintro e w1 ⟨rfl, hw1⟩
  rw [hw1]
  clear hw1 w1 hW0
  go_wp2_with fail
  refine (HCK.out W0).mono ?_
  rintro e w2 ⟨rfl, b2⟩
  have HB2 : Hid (Below w.heap.size w w2) := below_on HB0.out b2
  have HC2 : Hid (CB w2 w.heap.size c) := HC0.out.below b2
  clear b2 x0 x1 x2 x3 HCK
  rcases HCC.out with rfl | rfl
  case inr =>
    have HR : Hid (putR c hgt s = 60) := HP1.out (by decide)
    go_wp2_with fail
    go_ret
    exact ⟨by rw [HR.out]; rfl, HNO.out (by rw [HR.out]; decide) w2 HB2.out⟩
  case inl =>
    by_cases hh : hgt < 1 ∨ 12 < hgt
    · have HR : Hid (putR c hgt s = 1) := HP2.out rfl hh
      clear HP1 HP2 HP3 HP4
      by_cases h1 : hgt < 1
      · clear hh
        go_wp2_with fail
        go_ret
        exact ⟨by rw [HR.out]; rfl, HNO.out (by rw [HR.out]; decide) w2 HB2.out⟩
      · have h2 : (12 : Int) < hgt := by omega
        clear hh
        go_wp2_with fail
        go_ret
        exact ⟨by rw [HR.out]; rfl, HNO.out (by rw [HR.out]; decide) w2 HB2.out⟩
    · have h1 : ¬ hgt < 1 := by omega
      have h2 : ¬ (12 : Int) < hgt := by omega
      have HR3 : Hid _ := HP3.out rfl hh
      have HR4 : Hid _ := HP4.out rfl hh
      obtain ⟨hs1, hs2⟩ := HCS.out rfl
      obtain ⟨height, hht⟩ : ∃ height : Nat, hgt = height := ⟨hgt.toNat, by omega⟩
      subst hht
      have hq1 : 1 ≤ height := by omega
      have hq12 : height ≤ 12 := by omega
      clear HP1 HP2 HP3 HP4 HCC HCS hh
      have HPT : Hid (∀ _ : Unit, _) := fun _ => path_any B g b cap s c.key c.seq w2 (HM.out w2 HB2.out)
      have hal := seek_eq HH.out.rep c.key c.seq
      have hnx := rep_split HH.out.rep c.key c.seq 0 (by decide)
      obtain ⟨F, hF⟩ : ∃ F, (fun k => lsL k (ahE c.key c.seq s.E)) = F := ⟨_, rfl⟩
      have HF : Hid _ := hF
      have hF0 : F 0 = lsL 0 (ahE c.key c.seq s.E) := by rw [← hF]
      rw [hF] at HPT
      rw [← hF0] at hal hnx
      simp only [lkL] at HPT
      obtain ⟨x0, x1, x2, x3⟩ := CB.cells HC2.out
      clear hF hF0
      go_wp2_with fail
      refine (HPT.out ()).mono ?_
      rintro e w3 ⟨rfl, b3⟩
      have HB3 : Hid (Below w.heap.size w w3) := below_on HB2.out b3
      have HC3 : Hid (CB w3 w.heap.size c) := HC2.out.below b3
      clear b3 x0 x1 x2 x3 HPT
      obtain ⟨V, hV⟩ : ∃ V, w3.alloc (.cells (lkL F).toArray 66) = V := ⟨_, rfl⟩
      have HBV : Hid (Below w.heap.size w V) := by rw [Hid, ← hV]; exact below_on HB3.out (below_new _ _)
      have HCV : Hid (CB V w.heap.size c) := by rw [Hid, ← hV]; exact HC3.out.below (below_new _ _)
      have HAV : Hid (AB V w3.heap.size F) := by rw [Hid, ← hV]; exact block_alloc_at _ _
      have HV : Hid (w3.alloc (.cells #[.int .i64 (F 0 : Nat), .int .i64 (F 1 : Nat), .int .i64 (F 2 : Nat), .int .i64 (F 3 : Nat), .int .i64 (F 4 : Nat), .int .i64 (F 5 : Nat), .int .i64 (F 6 : Nat), .int .i64 (F 7 : Nat), .int .i64 (F 8 : Nat), .int .i64 (F 9 : Nat), .int .i64 (F 10 : Nat), .int .i64 (F 11 : Nat)] 66) = V) := hV
      clear hV
      go_upto_region 9 with fail
      rw [HV.out]
      clear HV
      have m1 : V.cell? ⟨g, 1, none⟩ = some (.slice (some ⟨b, 0, none⟩) s.n cap) := (HM.out V HBV.out).hd.2.1
      have p0 := AB.at HAV.out (k := 0) (by decide)
      have hFz : (F 0 : Int) < (s.n : Int) := by omega
      have l0 : V.cell? ⟨b, F 0 * 16 + 4, none⟩ = some (.int .i64 (s.nx (F 0) 0 : Nat)) := (HM.out V HBV.out).link hal (k := 0) (by decide)
      rw [hnx] at l0
      have hat := hasE_at HH.out.rep c
      obtain ⟨N, hN⟩ : ∃ N, fsL 0 (beE c.key c.seq s.E) = N := ⟨_, rfl⟩
      rw [hN] at l0 hat
      clear hN hnx
      go_wp2_with fail
      go_quiet (fail)
      obtain ⟨V1, hV1⟩ : ∃ V1, V.drewN nq = V1 := ⟨_, rfl⟩
      have HB1 : Hid (Below w.heap.size w V1) := by rw [Hid, ← hV1]; exact ⟨HBV.out.os, HBV.out.tape, HBV.out.output, HBV.out.size, HBV.out.block⟩
      have HC1 : Hid (CB V1 w.heap.size c) := by rw [Hid, ← hV1]; exact HCV.out
      have HA1 : Hid (AB V1 w3.heap.size F) := by rw [Hid, ← hV1]; exact HAV.out
      rw [hV1]
      clear hV1 m1 p0 l0 HBV HCV HAV
      have HINS : Hid (∀ (hd : hasE c s.E = false) W, Below w.heap.size w W → _) := fun hd W k => insert_any B g b cap s c height hq1 hq12 F (fun k _ => by rw [← HF.out]) (has_none HH.out.rep hd) W (HM.out W k) hn
      rcases hat with ⟨rfl, hd⟩ | ⟨e, rfl, e1, e2, e3, hd⟩
      case' inl =>
        have HR : Hid _ := HR4.out hd
        have HIN : Hid (∀ W, Below w.heap.size w W → _) := HINS.out hd
        clear HR3 HR4 HINS hd
        go_wp2_with fail
        go_quiet (fail)
      case' inr =>
        obtain ⟨d0, d1, _, _⟩ := (HM.out V1 HB1.out).node e2
        rw [e3] at d0 d1
        have m1 : V1.cell? ⟨g, 1, none⟩ = some (.slice (some ⟨b, 0, none⟩) s.n cap) := (HM.out V1 HB1.out).hd.2.1
        obtain ⟨x0, x1, x2, x3⟩ := CB.cells HC1.out
        have hpz : ((e.p : Int) != 0) = true := by simp; omega
        have hpn : (e.p : Int) < (s.n : Int) := by omega
        have HIS : Hid (∀ W : World, W.cell? ⟨b, e.p * 16, none⟩ = some (.string e.c.key) → W.cell? ⟨b, e.p * 16 + 1, none⟩ = some (.int .u64 (e.c.seq : Nat)) → _) := fun W h0 h1 => is_any b (e.p * 16) e.c c.key c.seq W h0 h1
        obtain ⟨dd, hdd⟩ : ∃ dd, ((e.c.key.toList == c.key.toList) && decide (e.c.seq = c.seq)) = dd := ⟨_, rfl⟩
        rw [hdd] at HIS hd
        clear hdd e3
        cases dd with
        | true =>
          have HR : Hid _ := HR3.out hd
          clear HR3 HR4 HINS hd
          go_wp2_with fail
          go_quiet ((go_at_call 30; exact Calls.quiet_of_same (HIS.out _ d0 d1)))
          go_wp2_with fail
          go_ret
          exact ⟨by rw [HR.out]; rfl, HNO.out (by rw [HR.out]; decide) _ ⟨HB1.out.os, HB1.out.tape, HB1.out.output, HB1.out.size, HB1.out.block⟩⟩
        | false => ?_
        have HR : Hid _ := HR4.out hd
        have HIN : Hid (∀ W, Below w.heap.size w W → _) := HINS.out hd
        clear HR3 HR4 HINS hd
        go_wp2_with fail
        go_quiet ((go_at_call 30; exact Calls.quiet_of_same (HIS.out _ d0 d1)))
        clear HIS d0 d1 m1 x0 x1 x2 x3 hpz hpn e1 e2
      all_goals
        obtain ⟨V2, hV2⟩ : ∃ V2, V1.drewN nq = V2 := ⟨_, rfl⟩
        have HB2' : Hid (Below w.heap.size w V2) := by rw [Hid, ← hV2]; exact ⟨HB1.out.os, HB1.out.tape, HB1.out.output, HB1.out.size, HB1.out.block⟩
        have HC2' : Hid (CB V2 w.heap.size c) := by rw [Hid, ← hV2]; exact HC1.out
        have HA2' : Hid (AB V2 w3.heap.size F) := by rw [Hid, ← hV2]; exact HA1.out
        rw [hV2]
        clear hV2 HB1 HC1 HA1
        have HINV : Hid (∀ _ : Unit, _) := fun _ => HIN.out V2 HB2'.out
        simp only [clV, lkL] at HINV
        clear HIN
        obtain ⟨x0, x1, x2, x3⟩ := CB.cells HC2'.out
        obtain ⟨c0, c1, c2, c3, c4, c5, c6, c7, c8, c9, c10, c11⟩ := AB.cells HA2'.out
        go_wp2_with fail
        refine (HINV.out ()).mono ?_
        rintro e w6 ⟨⟨v6, rfl⟩, b', cap', hMA, hKM, hbb⟩
        have hV2s := HB2'.out.size
        have hgw := HH.out.lt
        have HC6 : Hid (CB w6 w.heap.size c) := (hKM.block _ HC2'.out.lt (by omega) (by omega)).trans HC2'.out
        have HMD : Hid (MA B w6.drew g b' cap' (insS s c height F)) := ⟨hMA.blk, hMA.row, hMA.rep, hMA.apart, hMA.gB, hMA.small⟩
        have HKD : Hid (KM g b w w6.drew) := by
          have := (KM.of HB2'.out).trans hKM
          exact ⟨this.os, this.tape, this.output, this.size, this.block⟩
        have HCD : Hid (CB w6.drew w.heap.size c) := HC6.out
        have HBB : Hid (b' = b ∨ w.heap.size ≤ b') := hbb.imp id (fun q => Nat.le_trans hV2s q)
        have HPE : Hid _ := HPS.out HR.out
        have hF2 : pthF c s = F := HF.out
        rw [hF2, Int.toNat_natCast] at HPE
        clear hMA hKM hbb hV2s hgw HC6 x0 x1 x2 x3 c0 c1 c2 c3 c4 c5 c6 c7 c8 c9 c10 c11 HINV hF2
        have hv : ((s.size + (c.key.size + c.val.size + 16) : Nat) : Int) = (s.size : Int) + ((c.key.size : Int) + (c.val.size : Int) + 16) := by omega
        have hm := MA.size HMD.out (s.size + (c.key.size + c.val.size + 16))
        have hk : KM g b w (w6.drew.setCell ⟨g, 2, none⟩ (.int .i64 ((s.size + (c.key.size + c.val.size + 16) : Nat) : Int))) := HKD.out.set (Or.inl rfl) _
        rw [hv] at hm hk
        have HFM : Hid (MA B (w6.setCell ⟨g, 2, none⟩ (.int .i64 ((s.size : Int) + ((c.key.size : Int) + (c.val.size : Int) + 16)))).drew g b' cap' { insS s c height F with size := s.size + (c.key.size + c.val.size + 16) }) := ⟨hm.blk, hm.row, hm.rep, hm.apart, hm.gB, hm.small⟩
        have HFK : Hid (KM g b w (w6.setCell ⟨g, 2, none⟩ (.int .i64 ((s.size : Int) + ((c.key.size : Int) + (c.val.size : Int) + 16)))).drew) := ⟨hk.os, hk.tape, hk.output, hk.size, hk.block⟩
        have hS6 : w6.cell? ⟨g, 2, none⟩ = some (.int .i64 (s.size : Nat)) ∧ w6.cell? ⟨w.heap.size, 0, none⟩ = some (.string c.key) ∧ w6.cell? ⟨w.heap.size, 2, none⟩ = some (.string c.val) := ⟨HMD.out.hd.2.2, (CB.cells HCD.out).1, (CB.cells HCD.out).2.2.1⟩
        have hfr : w6.frozen? ⟨g, 2, none⟩ = false := free_of_block HMD.out.blk _
        obtain ⟨g0, g1, g2⟩ := hS6
        clear hv hm hk
        go_wp2_with fail
        go_region
        all_goals
          go_wp2_with fail
          go_ret
          exact ⟨by rw [HR.out]; rfl, b', cap', by rw [HPE.out]; exact HFM.out, HFK.out, HBB.out⟩
end Go.Proofs.Ytdgmjmohfpjlnaa
