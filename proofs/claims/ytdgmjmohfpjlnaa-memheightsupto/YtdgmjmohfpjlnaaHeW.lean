/-
  The walk of MemHeights.
-/
import Derived.Test.YtdgmjmohfpjlnaaTwo
import Derived.Deep.RegionHeld
namespace Go.Proofs.Ytdgmjmohfpjlnaa
open Go.RowKit Go.Shelf
attribute [local go_sem] Oper.semAt_some
theorem tmod12 (v : Int) : v.tmod 12 ≤ 11 ∧ -11 ≤ v.tmod 12 := by
  have h1 := Int.tmod_lt_of_pos v (show (0 : Int) < 12 by decide)
  have h2 := Int.tmod_lt_of_pos (-v) (show (0 : Int) < 12 by decide)
  rw [Int.neg_tmod] at h2
  omega
set_option maxRecDepth 100000 in
set_option maxHeartbeats 32000000 in
theorem heights_walk (ca ha : Option Addr) (cc hc : Nat) (cs : List Cl) (hs : List Int) (at' : Cl) (w : World) (h1 : CA w.heap.size w ca cs) (h2 : IV w.heap.size w ha hs) (hl1 : cs.length ≤ 2000000) (hl2 : hs.length ≤ 2000000) :
    Calls Try.prog 5 #[.slice ca cs.length cc, .slice ha hs.length hc, clV at'] w fun e w' => e = .returned (.bool true) ∧ Below w.heap.size w w' := by
  have HCA : Hid (CA w.heap.size w ca cs) := h1
  have HHA : Hid (IV w.heap.size w ha hs) := h2
  obtain ⟨key, seq, vl, gn⟩ := at'
  obtain ⟨n1, hn1⟩ : ∃ n, cs.length = n := ⟨_, rfl⟩
  obtain ⟨m, hm⟩ : ∃ n, hs.length = n := ⟨_, rfl⟩
  have HN1 : Hid _ := hn1
  have HNM : Hid _ := hm
  rw [hn1] at hl1 ⊢
  rw [hm] at hl2 ⊢
  clear h1 h2 hn1 hm
  simp only [clV]
  obtain ⟨W0, hW0⟩ : ∃ W0, w.alloc (.cells #[.string key, .int .u64 (seq : Nat), .string vl, .bool gn] 33) = W0 := ⟨_, rfl⟩
  have HB0 : Hid (Below w.heap.size w W0) := by rw [Hid, ← hW0]; exact below_new _ _
  have HX0 : Hid (CB W0 w.heap.size ⟨key, seq, vl, gn⟩) := by rw [Hid, ← hW0]; exact block_alloc_at _ _
  obtain ⟨x0, x1, x2, x3⟩ := CB.cells HX0.out
  simp only at x0 x1 x2 x3
  go_enter Try.func5, Try.ntmps5
  go_wp2_with fail
  try rw [hW0]
  clear hW0
  go_quiet (fail)
  obtain ⟨W1, hW1⟩ : ∃ W1, W0.drewN nq = W1 := ⟨_, rfl⟩
  have HB1 : Hid (Below w.heap.size w W1) := by rw [Hid, ← hW1]; exact ⟨HB0.out.os, HB0.out.tape, HB0.out.output, HB0.out.size, HB0.out.block⟩
  rw [hW1]
  clear hW1 x0 x1 x2 x3 HX0 HB0
  go_wp2_with fail
  refine (new_any W1).mono ?_
  rintro e w2 ⟨rfl, hma, b2⟩
  obtain ⟨B1, hB⟩ : ∃ B, W1.heap.size = B := ⟨_, rfl⟩
  rw [hB] at hma ⊢
  obtain ⟨g1, hg⟩ : ∃ g, B1 + 1 = g := ⟨_, rfl⟩
  rw [hg] at hma ⊢
  have hzB : w.heap.size ≤ B1 := by rw [← hB]; exact HB1.out.size
  have HTA : Hid (TM w.heap.size B1 g1 w w2 0 st0 B1 1) := ⟨hma, by show 1 ≤ 0 + 1; omega, by show 0 ≤ _; omega, below_on HB1.out b2, hzB⟩
  clear hma b2 hB hg HB1
  go_wp2_with fail
  refine (new_any w2).mono ?_
  rintro e w3 ⟨rfl, hma, b2⟩
  obtain ⟨B2, hB⟩ : ∃ B, w2.heap.size = B := ⟨_, rfl⟩
  rw [hB] at hma ⊢
  obtain ⟨g2, hg⟩ : ∃ g, B2 + 1 = g := ⟨_, rfl⟩
  rw [hg] at hma ⊢
  have HT3 : Hid (T2 B1 g1 B2 g2 w w3 0 0 st0 st0 B1 1 B2 1) := by
    have hl := HTA.out.ma.lt
    refine ⟨HTA.out.on b2 HTA.out.bel.size, ⟨hma, by show 1 ≤ 0 + 1; omega, by show 0 ≤ _; omega, (HTA.out.on b2 HTA.out.bel.size).bel, by rw [← hB]; exact HTA.out.bel.size⟩, by omega⟩
  clear hma b2 hB hg hzB HTA
  go_wp2_with fail
  refine (awake_any w3).mono ?_
  rintro e w4 ⟨rfl, b4⟩
  have HT4 : Hid (T2 B1 g1 B2 g2 w w4 0 0 st0 st0 B1 1 B2 1) := HT3.out.on b4
  clear b4 HT3
  go_wp2_with fail
  go_loopw [38] (fun i wr => ∃ (k : Nat) (sa sb : St) (b1 cap1 b2 cap2 : Nat), k ≤ n1 ∧ i = .int .i64 (k : Nat) ∧ Hid (T2 B1 g1 B2 g2 w wr k k sa sb b1 cap1 b2 cap2) ∧ Hid (TwoT sa sb ∧ OkE sa ∧ OkE sb)) (fun i _ => n1 - (intOf i).toNat)
  case atStart => exact ⟨0, _, _, _, _, _, _, by omega, rfl, HT4.out, ⟨rfl, rfl⟩, okE_new, okE_new⟩
  case round =>
    obtain ⟨k, sa, sb, b1, cap1, b2, cap2, hk, rfl, HT, HO⟩ := hrel
    by_cases hlt : k < n1
    · have hlz : (k : Int) < (n1 : Int) := by omega
      obtain ⟨c, hcc⟩ : ∃ c, cs[k]? = some c := ⟨_, List.getElem?_eq_getElem (by rw [HN1.out]; exact hlt)⟩
      obtain ⟨cb, off, rfl, hcb, c0, c1, c2, c3⟩ := (HCA.out.below (fun x hx => HT.out.a.bel.block x hx)) k c hcc
      obtain ⟨wr2, hV⟩ : ∃ V, wr.alloc (.cells #[.string c.key, .int .u64 (c.seq : Nat), .string c.val, .bool c.gone] 33) = V := ⟨_, rfl⟩
      have HT0 : Hid (T2 B1 g1 B2 g2 w wr2 k k sa sb b1 cap1 b2 cap2) := by rw [Hid, ← hV]; exact HT.out.on (below_new _ _)
      have hcx : CB wr2 wr.heap.size c := by rw [← hV]; exact block_alloc_at _ _
      obtain ⟨xc, hxc⟩ : ∃ xc, wr.heap.size = xc := ⟨_, rfl⟩
      rw [hxc] at hcx
      have HNE : Hid ((g1 ≠ xc ∧ b1 ≠ xc) ∧ (g2 ≠ xc ∧ b2 ≠ xc)) := by
        have h1 := HT.out.a.ma.lt
        have h2 := HT.out.b.ma.lt
        rw [Hid, ← hxc]
        omega
      have HCD : Hid (CB wr2.drew xc c) := hcx
      have HTD : Hid (T2 B1 g1 B2 g2 w wr2.drew k k sa sb b1 cap1 b2 cap2) := HT0.out.on (Below.refl _ _).drew
      have HX0 : Hid (∀ V b g, KM g b wr2.drew V → g ≠ xc ∧ b ≠ xc → V.cell? ⟨xc, 0, none⟩ = some (.string c.key) ∧ V.cell? ⟨xc, 1, none⟩ = some (.int .u64 ((c.seq : Nat) : Int)) ∧ V.cell? ⟨xc, 2, none⟩ = some (.string c.val) ∧ V.cell? ⟨xc, 3, none⟩ = some (.bool c.gone)) := fun V b g hk hn => CB.cells (x := xc) ((hk.block xc HCD.out.lt (Ne.symm hn.1) (Ne.symm hn.2)).trans HCD.out)
      have HPA : Hid (∀ _ : Unit, _) := fun _ => put_any B1 g1 b1 cap1 sa c 1 wr2.drew HTD.out.a.ma (by have := HTD.out.a.nk; omega) HTD.out.a.sz
      simp only [clV] at HPA
      have HV : Hid _ := hV
      have HXC : Hid _ := hxc
      have HTI : Hid (Below w.heap.size w wr2) := HT0.out.a.bel
      have HKL : Hid (k < 2000000) := by rw [Hid]; omega
      have hS0 := CB.cells HCD.out
      clear hcc hcb hV hxc hcx HT HT0
      by_cases hm0 : m = 0
      · have hmz : ¬ (0 : Int) < ((m : Nat) : Int) := by omega
        clear hm0
        have hhb : (1 : Int) ≤ 1 ∧ (1 : Int) ≤ 12 := by decide
        have HRQ : Hid (putR c 1 sb = putR c 1 sa) := (two_putR HO.out.1 c (by decide) (by decide) hhb.1 hhb.2).symm
        have HNX : Hid (TwoT (putS c 1 sa) (putS c 1 sb) ∧ OkE (putS c 1 sa) ∧ OkE (putS c 1 sb)) := ⟨two_put HO.out.1 c (by decide) (by decide) hhb.1 hhb.2, okE_put HO.out.2.1 c 1, okE_put HO.out.2.2 c 1⟩
        have HPB : Hid (∀ V b1' c1', T2 B1 g1 B2 g2 w V (k + 1) k (putS c 1 sa) sb b1' c1' b2 cap2 → Calls Try.prog 12 #[.pointer (some ⟨g2, 0, none⟩), .agg #[.string c.key, .int .u64 ((c.seq : Nat) : Int), .string c.val, .bool c.gone], .int .i64 1] V fun e w' => e = .returned (.int .i64 ((putR c 1 sa : Nat) : Int)) ∧ ∃ b' cap', MA B2 w' g2 b' cap' (putS c 1 sb) ∧ KM g2 b2 V w' ∧ (b' = b2 ∨ V.heap.size ≤ b')) := fun V b1' c1' hT => by
          have h := put_any B2 g2 b2 cap2 sb c 1 V hT.b.ma (by have := hT.b.nk; have := HKL.out; omega) hT.b.sz
          rw [HRQ.out] at h
          exact h
        clear hhb
        go_wp2_with fail
        rw [HV.out, HXC.out]
        clear c0 c1 c2 c3
        refine wp_region_held_drew (S := fun V => V.cell? ⟨xc, 0, none⟩ = some (.string c.key) ∧ V.cell? ⟨xc, 1, none⟩ = some (.int .u64 ((c.seq : Nat) : Int)) ∧ V.cell? ⟨xc, 2, none⟩ = some (.string c.val) ∧ V.cell? ⟨xc, 3, none⟩ = some (.bool c.gone)) (by kernel_rfl) hS0 (fun hHeld => ?_)
        refine wpAnyH_take (i := 0) (oi := ({ dst := some 57, op := Op.move (Operand.tmp 9), type := 23, pos := "law.go:180", after := #[], guard := none } : Oper)) (v := ?_) rfl (by kernel_rfl) (by kernel_rfl) (by kernel_rfl) (fun _ _ _ h => h) (Or.inl ⟨by rfl, ?_⟩) (by assumption) ?_
        rotate_left
        · (intro w hSw; (try dsimp only at hSw); go_simp; try with_reducible rfl)
        try simp only [Act.put, List.setIfInBounds_toArray, List.set_cons_zero, List.set_cons_succ]
        refine wpAnyH_take (i := 1) (oi := ({ dst := some 58, op := Op.load 33 (Operand.tmp 12), type := 33, pos := "law.go:180", after := #[], guard := none } : Oper)) (v := ?_) rfl (by kernel_rfl) (by kernel_rfl) (by kernel_rfl) (fun _ _ _ h => h) (Or.inl ⟨by rfl, ?_⟩) (by assumption) ?_
        rotate_left
        · (intro w hSw; (try dsimp only at hSw); go_simp; try with_reducible rfl)
        try simp only [Act.put, List.setIfInBounds_toArray, List.set_cons_zero, List.set_cons_succ]
        refine wpAnyH_take (i := 3) (oi := ({ dst := some 60, op := Op.move (Operand.tmp 10), type := 23, pos := "law.go:180", after := #[], guard := none } : Oper)) (v := ?_) rfl (by kernel_rfl) (by kernel_rfl) (by kernel_rfl) (fun _ _ _ h => h) (Or.inl ⟨by rfl, ?_⟩) (by assumption) ?_
        rotate_left
        · (intro w hSw; (try dsimp only at hSw); go_simp; try with_reducible rfl)
        try simp only [Act.put, List.setIfInBounds_toArray, List.set_cons_zero, List.set_cons_succ]
        refine wpAnyH_take (i := 4) (oi := ({ dst := some 61, op := Op.load 33 (Operand.tmp 12), type := 33, pos := "law.go:180", after := #[], guard := none } : Oper)) (v := ?_) rfl (by kernel_rfl) (by kernel_rfl) (by kernel_rfl) (fun _ _ _ h => h) (Or.inl ⟨by rfl, ?_⟩) (by assumption) ?_
        rotate_left
        · (intro w hSw; (try dsimp only at hSw); go_simp; try with_reducible rfl)
        try simp only [Act.put, List.setIfInBounds_toArray, List.set_cons_zero, List.set_cons_succ]
        refine wpAnyH_take (i := 5) (oi := ({ dst := some 62, op := Op.move (Operand.tmp 13), type := 3, pos := "law.go:180", after := #[], guard := none } : Oper)) (v := ?_) rfl (by kernel_rfl) (by kernel_rfl) (by kernel_rfl) (fun _ _ _ h => h) (Or.inl ⟨by rfl, ?_⟩) (by assumption) ?_
        rotate_left
        · (intro w hSw; (try dsimp only at hSw); go_simp; try with_reducible rfl)
        try simp only [Act.put, List.setIfInBounds_toArray, List.set_cons_zero, List.set_cons_succ]
        refine wpAnyH_ready (rs := [2]) (by kernel_rfl) (by simp) ?_
        refine AllReadyH.cons rfl (fun K hK => ?_) AllReadyH.nil
        go_simp
        go_wp2_with (go_at_call 12; refine (HPA.out ()).mono ?_; rintro e w6 ⟨rfl, b1', c1', ma6, km6, bb6⟩; have HT6 : Hid (T2 B1 g1 B2 g2 w w6 (k + 1) k (putS c 1 sa) sb b1' c1' b2 cap2) := HTD.out.pa c 1 ma6 km6 bb6; have hS6 := HX0.out w6 b1 g1 km6 HNE.out.1; have HLX6 : Hid (xc < w6.heap.size) := Nat.lt_of_lt_of_le HCD.out.lt km6.size; have HC6 : Hid (CB w6 xc c) := (km6.block xc HCD.out.lt (Ne.symm HNE.out.1.1) (Ne.symm HNE.out.1.2)).trans HCD.out; clear ma6 km6 bb6)
        refine hK.out _ _ (by assumption) (fun hHeld => ?_)
        clear hK K
        refine wpAnyH_ready (rs := [6]) (by kernel_rfl) (by simp) ?_
        refine AllReadyH.cons rfl (fun K hK => ?_) AllReadyH.nil
        go_simp
        go_wp2_with (go_at_call 12; refine (HPB.out w6 _ _ HT6.out).mono ?_; rintro e w7 ⟨rfl, b2', c2', ma7, km7, bb7⟩; have HT7 : Hid (T2 B1 g1 B2 g2 w w7 (k + 1) (k + 1) (putS c 1 sa) (putS c 1 sb) b1' c1' b2' c2') := HT6.out.pb c 1 ma7 km7 bb7; have hS7 := CB.cells (x := xc) ((km7.block xc HC6.out.lt (Ne.symm HNE.out.2.1) (Ne.symm HNE.out.2.2)).trans HC6.out); clear ma7 km7 bb7)
        refine hK.out _ _ (by assumption) (fun hHeld => ?_)
        clear hK K
        refine wpAnyH_take (i := 7) (oi := ({ dst := some 64, op := Op.binOp BinOp.neq 36 (Operand.tmp 59) (Operand.tmp 63) 36, type := 4, pos := "law.go:180", after := #[{ on := 2, ground := Ground.data }, { on := 6, ground := Ground.data }], guard := none } : Oper)) (v := ?_) rfl (by kernel_rfl) (by kernel_rfl) (by kernel_rfl) (fun _ _ _ h => h) (Or.inl ⟨by rfl, ?_⟩) (by assumption) ?_
        rotate_left
        · (intro w hSw; (try dsimp only at hSw); go_simp; try with_reducible rfl)
        try simp only [Act.put, List.setIfInBounds_toArray, List.set_cons_zero, List.set_cons_succ]
        refine wpAnyH_done (by kernel_rfl) ?_ _
        go_wp2_with fail
        go_roundw
        case rel => exact ⟨k + 1, _, _, _, _, _, _, by omega, by go_num, HT7.out, HNX.out⟩
        case measure => simp [intOf]; omega
      · have hmz : (0 : Int) < ((m : Nat) : Int) := by omega
        have HM0 : Hid (m ≠ 0) := hm0
        have hkm : (k % m) < m := Nat.mod_lt _ (by omega)
        obtain ⟨v, hv⟩ : ∃ v, hs[k % m]? = some v := ⟨_, List.getElem?_eq_getElem (by rw [HNM.out]; exact hkm)⟩
        obtain ⟨hb, hoff, rfl, _, hcell⟩ := (HHA.out.below (fun x hx => (HTI.out).block x hx)) (k % m) v hv
        have hcell2 : wr2.cell? ⟨hb, hoff + k % m, none⟩ = some (.int .i64 v) := hcell
        rw [← HV.out] at hcell2
        clear hm0 hcell
        obtain ⟨q, hq⟩ : ∃ q, wrap64 (v.tmod 12 + 1) = q := ⟨_, rfl⟩
        have hqb : q ≤ 12 := by
          have := tmod12 v
          rw [← hq]
          unfold wrap64
          omega
        by_cases hq1 : q < 1
        · have hhb : (1 : Int) ≤ 1 ∧ (1 : Int) ≤ 12 := by decide
          clear hqb
          have HRQ : Hid (putR c 1 sb = putR c 1 sa) := (two_putR HO.out.1 c (by decide) (by decide) hhb.1 hhb.2).symm
          have HNX : Hid (TwoT (putS c 1 sa) (putS c 1 sb) ∧ OkE (putS c 1 sa) ∧ OkE (putS c 1 sb)) := ⟨two_put HO.out.1 c (by decide) (by decide) hhb.1 hhb.2, okE_put HO.out.2.1 c 1, okE_put HO.out.2.2 c 1⟩
          have HPB : Hid (∀ V b1' c1', T2 B1 g1 B2 g2 w V (k + 1) k (putS c 1 sa) sb b1' c1' b2 cap2 → Calls Try.prog 12 #[.pointer (some ⟨g2, 0, none⟩), .agg #[.string c.key, .int .u64 ((c.seq : Nat) : Int), .string c.val, .bool c.gone], .int .i64 1] V fun e w' => e = .returned (.int .i64 ((putR c 1 sa : Nat) : Int)) ∧ ∃ b' cap', MA B2 w' g2 b' cap' (putS c 1 sb) ∧ KM g2 b2 V w' ∧ (b' = b2 ∨ V.heap.size ≤ b')) := fun V b1' c1' hT => by
            have h := put_any B2 g2 b2 cap2 sb c 1 V hT.b.ma (by have := hT.b.nk; have := HKL.out; omega) hT.b.sz
            rw [HRQ.out] at h
            exact h
          clear hhb
          go_wp2_with fail
          rw [HV.out, HXC.out]
          clear c0 c1 c2 c3
          refine wp_region_held_drew (S := fun V => V.cell? ⟨xc, 0, none⟩ = some (.string c.key) ∧ V.cell? ⟨xc, 1, none⟩ = some (.int .u64 ((c.seq : Nat) : Int)) ∧ V.cell? ⟨xc, 2, none⟩ = some (.string c.val) ∧ V.cell? ⟨xc, 3, none⟩ = some (.bool c.gone)) (by kernel_rfl) hS0 (fun hHeld => ?_)
          refine wpAnyH_take (i := 0) (oi := ({ dst := some 57, op := Op.move (Operand.tmp 9), type := 23, pos := "law.go:180", after := #[], guard := none } : Oper)) (v := ?_) rfl (by kernel_rfl) (by kernel_rfl) (by kernel_rfl) (fun _ _ _ h => h) (Or.inl ⟨by rfl, ?_⟩) (by assumption) ?_
          rotate_left
          · (intro w hSw; (try dsimp only at hSw); go_simp; try with_reducible rfl)
          try simp only [Act.put, List.setIfInBounds_toArray, List.set_cons_zero, List.set_cons_succ]
          refine wpAnyH_take (i := 1) (oi := ({ dst := some 58, op := Op.load 33 (Operand.tmp 12), type := 33, pos := "law.go:180", after := #[], guard := none } : Oper)) (v := ?_) rfl (by kernel_rfl) (by kernel_rfl) (by kernel_rfl) (fun _ _ _ h => h) (Or.inl ⟨by rfl, ?_⟩) (by assumption) ?_
          rotate_left
          · (intro w hSw; (try dsimp only at hSw); go_simp; try with_reducible rfl)
          try simp only [Act.put, List.setIfInBounds_toArray, List.set_cons_zero, List.set_cons_succ]
          refine wpAnyH_take (i := 3) (oi := ({ dst := some 60, op := Op.move (Operand.tmp 10), type := 23, pos := "law.go:180", after := #[], guard := none } : Oper)) (v := ?_) rfl (by kernel_rfl) (by kernel_rfl) (by kernel_rfl) (fun _ _ _ h => h) (Or.inl ⟨by rfl, ?_⟩) (by assumption) ?_
          rotate_left
          · (intro w hSw; (try dsimp only at hSw); go_simp; try with_reducible rfl)
          try simp only [Act.put, List.setIfInBounds_toArray, List.set_cons_zero, List.set_cons_succ]
          refine wpAnyH_take (i := 4) (oi := ({ dst := some 61, op := Op.load 33 (Operand.tmp 12), type := 33, pos := "law.go:180", after := #[], guard := none } : Oper)) (v := ?_) rfl (by kernel_rfl) (by kernel_rfl) (by kernel_rfl) (fun _ _ _ h => h) (Or.inl ⟨by rfl, ?_⟩) (by assumption) ?_
          rotate_left
          · (intro w hSw; (try dsimp only at hSw); go_simp; try with_reducible rfl)
          try simp only [Act.put, List.setIfInBounds_toArray, List.set_cons_zero, List.set_cons_succ]
          refine wpAnyH_take (i := 5) (oi := ({ dst := some 62, op := Op.move (Operand.tmp 13), type := 3, pos := "law.go:180", after := #[], guard := none } : Oper)) (v := ?_) rfl (by kernel_rfl) (by kernel_rfl) (by kernel_rfl) (fun _ _ _ h => h) (Or.inl ⟨by rfl, ?_⟩) (by assumption) ?_
          rotate_left
          · (intro w hSw; (try dsimp only at hSw); go_simp; try with_reducible rfl)
          try simp only [Act.put, List.setIfInBounds_toArray, List.set_cons_zero, List.set_cons_succ]
          refine wpAnyH_ready (rs := [2]) (by kernel_rfl) (by simp) ?_
          refine AllReadyH.cons rfl (fun K hK => ?_) AllReadyH.nil
          go_simp
          go_wp2_with (go_at_call 12; refine (HPA.out ()).mono ?_; rintro e w6 ⟨rfl, b1', c1', ma6, km6, bb6⟩; have HT6 : Hid (T2 B1 g1 B2 g2 w w6 (k + 1) k (putS c 1 sa) sb b1' c1' b2 cap2) := HTD.out.pa c 1 ma6 km6 bb6; have hS6 := HX0.out w6 b1 g1 km6 HNE.out.1; have HLX6 : Hid (xc < w6.heap.size) := Nat.lt_of_lt_of_le HCD.out.lt km6.size; have HC6 : Hid (CB w6 xc c) := (km6.block xc HCD.out.lt (Ne.symm HNE.out.1.1) (Ne.symm HNE.out.1.2)).trans HCD.out; clear ma6 km6 bb6)
          refine hK.out _ _ (by assumption) (fun hHeld => ?_)
          clear hK K
          refine wpAnyH_ready (rs := [6]) (by kernel_rfl) (by simp) ?_
          refine AllReadyH.cons rfl (fun K hK => ?_) AllReadyH.nil
          go_simp
          go_wp2_with (go_at_call 12; refine (HPB.out w6 _ _ HT6.out).mono ?_; rintro e w7 ⟨rfl, b2', c2', ma7, km7, bb7⟩; have HT7 : Hid (T2 B1 g1 B2 g2 w w7 (k + 1) (k + 1) (putS c 1 sa) (putS c 1 sb) b1' c1' b2' c2') := HT6.out.pb c 1 ma7 km7 bb7; have hS7 := CB.cells (x := xc) ((km7.block xc HC6.out.lt (Ne.symm HNE.out.2.1) (Ne.symm HNE.out.2.2)).trans HC6.out); clear ma7 km7 bb7)
          refine hK.out _ _ (by assumption) (fun hHeld => ?_)
          clear hK K
          refine wpAnyH_take (i := 7) (oi := ({ dst := some 64, op := Op.binOp BinOp.neq 36 (Operand.tmp 59) (Operand.tmp 63) 36, type := 4, pos := "law.go:180", after := #[{ on := 2, ground := Ground.data }, { on := 6, ground := Ground.data }], guard := none } : Oper)) (v := ?_) rfl (by kernel_rfl) (by kernel_rfl) (by kernel_rfl) (fun _ _ _ h => h) (Or.inl ⟨by rfl, ?_⟩) (by assumption) ?_
          rotate_left
          · (intro w hSw; (try dsimp only at hSw); go_simp; try with_reducible rfl)
          try simp only [Act.put, List.setIfInBounds_toArray, List.set_cons_zero, List.set_cons_succ]
          refine wpAnyH_done (by kernel_rfl) ?_ _
          go_wp2_with fail
          go_roundw
          case rel => exact ⟨k + 1, _, _, _, _, _, _, by omega, by go_num, HT7.out, HNX.out⟩
          case measure => simp [intOf]; omega
        · have hhb : 1 ≤ q ∧ q ≤ 12 := by omega
          clear hqb
          have HRQ : Hid (putR c q sb = putR c 1 sa) := (two_putR HO.out.1 c (by decide) (by decide) hhb.1 hhb.2).symm
          have HNX : Hid (TwoT (putS c 1 sa) (putS c q sb) ∧ OkE (putS c 1 sa) ∧ OkE (putS c q sb)) := ⟨two_put HO.out.1 c (by decide) (by decide) hhb.1 hhb.2, okE_put HO.out.2.1 c 1, okE_put HO.out.2.2 c q⟩
          have HPB : Hid (∀ V b1' c1', T2 B1 g1 B2 g2 w V (k + 1) k (putS c 1 sa) sb b1' c1' b2 cap2 → Calls Try.prog 12 #[.pointer (some ⟨g2, 0, none⟩), .agg #[.string c.key, .int .u64 ((c.seq : Nat) : Int), .string c.val, .bool c.gone], .int .i64 q] V fun e w' => e = .returned (.int .i64 ((putR c 1 sa : Nat) : Int)) ∧ ∃ b' cap', MA B2 w' g2 b' cap' (putS c q sb) ∧ KM g2 b2 V w' ∧ (b' = b2 ∨ V.heap.size ≤ b')) := fun V b1' c1' hT => by
            have h := put_any B2 g2 b2 cap2 sb c q V hT.b.ma (by have := hT.b.nk; have := HKL.out; omega) hT.b.sz
            rw [HRQ.out] at h
            exact h
          clear hhb
          go_wp2_with fail
          rw [HV.out, HXC.out]
          clear c0 c1 c2 c3
          refine wp_region_held_drew (S := fun V => V.cell? ⟨xc, 0, none⟩ = some (.string c.key) ∧ V.cell? ⟨xc, 1, none⟩ = some (.int .u64 ((c.seq : Nat) : Int)) ∧ V.cell? ⟨xc, 2, none⟩ = some (.string c.val) ∧ V.cell? ⟨xc, 3, none⟩ = some (.bool c.gone)) (by kernel_rfl) hS0 (fun hHeld => ?_)
          refine wpAnyH_take (i := 0) (oi := ({ dst := some 57, op := Op.move (Operand.tmp 9), type := 23, pos := "law.go:180", after := #[], guard := none } : Oper)) (v := ?_) rfl (by kernel_rfl) (by kernel_rfl) (by kernel_rfl) (fun _ _ _ h => h) (Or.inl ⟨by rfl, ?_⟩) (by assumption) ?_
          rotate_left
          · (intro w hSw; (try dsimp only at hSw); go_simp; try with_reducible rfl)
          try simp only [Act.put, List.setIfInBounds_toArray, List.set_cons_zero, List.set_cons_succ]
          refine wpAnyH_take (i := 1) (oi := ({ dst := some 58, op := Op.load 33 (Operand.tmp 12), type := 33, pos := "law.go:180", after := #[], guard := none } : Oper)) (v := ?_) rfl (by kernel_rfl) (by kernel_rfl) (by kernel_rfl) (fun _ _ _ h => h) (Or.inl ⟨by rfl, ?_⟩) (by assumption) ?_
          rotate_left
          · (intro w hSw; (try dsimp only at hSw); go_simp; try with_reducible rfl)
          try simp only [Act.put, List.setIfInBounds_toArray, List.set_cons_zero, List.set_cons_succ]
          refine wpAnyH_take (i := 3) (oi := ({ dst := some 60, op := Op.move (Operand.tmp 10), type := 23, pos := "law.go:180", after := #[], guard := none } : Oper)) (v := ?_) rfl (by kernel_rfl) (by kernel_rfl) (by kernel_rfl) (fun _ _ _ h => h) (Or.inl ⟨by rfl, ?_⟩) (by assumption) ?_
          rotate_left
          · (intro w hSw; (try dsimp only at hSw); go_simp; try with_reducible rfl)
          try simp only [Act.put, List.setIfInBounds_toArray, List.set_cons_zero, List.set_cons_succ]
          refine wpAnyH_take (i := 4) (oi := ({ dst := some 61, op := Op.load 33 (Operand.tmp 12), type := 33, pos := "law.go:180", after := #[], guard := none } : Oper)) (v := ?_) rfl (by kernel_rfl) (by kernel_rfl) (by kernel_rfl) (fun _ _ _ h => h) (Or.inl ⟨by rfl, ?_⟩) (by assumption) ?_
          rotate_left
          · (intro w hSw; (try dsimp only at hSw); go_simp; try with_reducible rfl)
          try simp only [Act.put, List.setIfInBounds_toArray, List.set_cons_zero, List.set_cons_succ]
          refine wpAnyH_take (i := 5) (oi := ({ dst := some 62, op := Op.move (Operand.tmp 13), type := 3, pos := "law.go:180", after := #[], guard := none } : Oper)) (v := ?_) rfl (by kernel_rfl) (by kernel_rfl) (by kernel_rfl) (fun _ _ _ h => h) (Or.inl ⟨by rfl, ?_⟩) (by assumption) ?_
          rotate_left
          · (intro w hSw; (try dsimp only at hSw); go_simp; try with_reducible rfl)
          try simp only [Act.put, List.setIfInBounds_toArray, List.set_cons_zero, List.set_cons_succ]
          refine wpAnyH_ready (rs := [2]) (by kernel_rfl) (by simp) ?_
          refine AllReadyH.cons rfl (fun K hK => ?_) AllReadyH.nil
          go_simp
          go_wp2_with (go_at_call 12; refine (HPA.out ()).mono ?_; rintro e w6 ⟨rfl, b1', c1', ma6, km6, bb6⟩; have HT6 : Hid (T2 B1 g1 B2 g2 w w6 (k + 1) k (putS c 1 sa) sb b1' c1' b2 cap2) := HTD.out.pa c 1 ma6 km6 bb6; have hS6 := HX0.out w6 b1 g1 km6 HNE.out.1; have HLX6 : Hid (xc < w6.heap.size) := Nat.lt_of_lt_of_le HCD.out.lt km6.size; have HC6 : Hid (CB w6 xc c) := (km6.block xc HCD.out.lt (Ne.symm HNE.out.1.1) (Ne.symm HNE.out.1.2)).trans HCD.out; clear ma6 km6 bb6)
          refine hK.out _ _ (by assumption) (fun hHeld => ?_)
          clear hK K
          refine wpAnyH_ready (rs := [6]) (by kernel_rfl) (by simp) ?_
          refine AllReadyH.cons rfl (fun K hK => ?_) AllReadyH.nil
          go_simp
          go_wp2_with (go_at_call 12; refine (HPB.out w6 _ _ HT6.out).mono ?_; rintro e w7 ⟨rfl, b2', c2', ma7, km7, bb7⟩; have HT7 : Hid (T2 B1 g1 B2 g2 w w7 (k + 1) (k + 1) (putS c 1 sa) (putS c q sb) b1' c1' b2' c2') := HT6.out.pb c q ma7 km7 bb7; have hS7 := CB.cells (x := xc) ((km7.block xc HC6.out.lt (Ne.symm HNE.out.2.1) (Ne.symm HNE.out.2.2)).trans HC6.out); clear ma7 km7 bb7)
          refine hK.out _ _ (by assumption) (fun hHeld => ?_)
          clear hK K
          refine wpAnyH_take (i := 7) (oi := ({ dst := some 64, op := Op.binOp BinOp.neq 36 (Operand.tmp 59) (Operand.tmp 63) 36, type := 4, pos := "law.go:180", after := #[{ on := 2, ground := Ground.data }, { on := 6, ground := Ground.data }], guard := none } : Oper)) (v := ?_) rfl (by kernel_rfl) (by kernel_rfl) (by kernel_rfl) (fun _ _ _ h => h) (Or.inl ⟨by rfl, ?_⟩) (by assumption) ?_
          rotate_left
          · (intro w hSw; (try dsimp only at hSw); go_simp; try with_reducible rfl)
          try simp only [Act.put, List.setIfInBounds_toArray, List.set_cons_zero, List.set_cons_succ]
          refine wpAnyH_done (by kernel_rfl) ?_ _
          go_wp2_with fail
          go_roundw
          case rel => exact ⟨k + 1, _, _, _, _, _, _, by omega, by go_num, HT7.out, HNX.out⟩
          case measure => simp [intOf]; omega
    · obtain rfl : k = n1 := by omega
      have hlz : ¬ (k : Int) < (k : Int) := by omega
      have HLE : Hid (sa.E.length ≤ 2000000 ∧ sb.E.length ≤ 2000000) := by rw [Hid]; have := HT.out.a.nk; have := HT.out.a.ma.rep.size; have := HT.out.b.nk; have := HT.out.b.ma.rep.size; omega
      have hge := getE_eq key seq sa.E
      rw [HO.out.1.1, ← getE_eq] at hge
      obtain ⟨rc, f, hrc⟩ : ∃ rc f, getV (getE key seq sb.E) = .tuple #[clV rc, .bool f] := by
        cases getE key seq sb.E with
        | none => exact ⟨_, _, rfl⟩
        | some c => exact ⟨_, _, rfl⟩
      have HG1 : Hid (∀ W, T2 B1 g1 B2 g2 w W k k sa sb b1 cap1 b2 cap2 → Calls Try.prog 16 #[.pointer (some ⟨g1, 0, none⟩), .string key, .int .u64 (seq : Nat)] W fun e w' => e = .returned (.tuple #[.agg #[.string rc.key, .int .u64 ((rc.seq : Nat) : Int), .string rc.val, .bool rc.gone], .bool f]) ∧ Below W.heap.size W w') := fun W hT => by
        have h := get_any B1 g1 b1 cap1 sa key seq W hT.a.ma
        rw [hge, hrc] at h
        exact h
      have HG2 : Hid (∀ W, T2 B1 g1 B2 g2 w W k k sa sb b1 cap1 b2 cap2 → Calls Try.prog 16 #[.pointer (some ⟨g2, 0, none⟩), .string key, .int .u64 (seq : Nat)] W fun e w' => e = .returned (.tuple #[.agg #[.string rc.key, .int .u64 ((rc.seq : Nat) : Int), .string rc.val, .bool rc.gone], .bool f]) ∧ Below W.heap.size W w') := fun W hT => by
        have h := get_any B2 g2 b2 cap2 sb key seq W hT.b.ma
        rw [hrc] at h
        exact h
      clear hge hrc hlt hk
      go_wp2_with fail
      refine (HG1.out wr HT.out).mono ?_
      rintro e w5 ⟨rfl, b5⟩
      have HT5 : Hid (T2 B1 g1 B2 g2 w w5 k k sa sb b1 cap1 b2 cap2) := HT.out.on b5
      clear b5 HT HG1
      obtain ⟨x, hx⟩ : ∃ x, w5.heap.size = x := ⟨_, rfl⟩
      obtain ⟨V, hV⟩ : ∃ V, w5.alloc (.cells #[.string rc.key, .int .u64 ((rc.seq : Nat) : Int), .string rc.val, .bool rc.gone] 33) = V := ⟨_, rfl⟩
      have HTV : Hid (T2 B1 g1 B2 g2 w V k k sa sb b1 cap1 b2 cap2) := by rw [Hid, ← hV]; exact HT5.out.on (below_new _ _)
      have HCV : Hid (CB V x rc) := by rw [Hid, ← hV, ← hx]; exact block_alloc_at _ _
      have HV : Hid _ := hV
      have HXX : Hid _ := hx
      clear hV hx HT5
      go_wp2_with fail
      rw [HV.out, HXX.out]
      clear HV HXX
      refine (HG2.out V HTV.out).mono ?_
      rintro e w6 ⟨rfl, b6⟩
      have HT6 : Hid (T2 B1 g1 B2 g2 w w6 k k sa sb b1 cap1 b2 cap2) := HTV.out.on b6
      have HC6 : Hid (CB w6 x rc) := HCV.out.below b6
      clear b6 HTV HG2 HCV
      obtain ⟨y, hy⟩ : ∃ y, w6.heap.size = y := ⟨_, rfl⟩
      obtain ⟨V2, hV⟩ : ∃ V, w6.alloc (.cells #[.string rc.key, .int .u64 ((rc.seq : Nat) : Int), .string rc.val, .bool rc.gone] 33) = V := ⟨_, rfl⟩
      have HTV : Hid (T2 B1 g1 B2 g2 w V2 k k sa sb b1 cap1 b2 cap2) := by rw [Hid, ← hV]; exact HT6.out.on (below_new _ _)
      have HCX : Hid (CB V2 x rc) := by rw [Hid, ← hV]; exact HC6.out.below (below_new _ _)
      have HCY : Hid (CB V2 y rc) := by rw [Hid, ← hV, ← hy]; exact block_alloc_at _ _
      have HV : Hid _ := hV
      have HXX : Hid _ := hy
      clear hV hy HT6 HC6
      go_wp2_with fail
      rw [HV.out, HXX.out]
      clear HV HXX
      refine (callsIn_wide.1 (levels_in 8 (by omega) B2 g2 b2 cap2 sb V2 HTV.out.b.ma)).mono ?_
      rintro e w7 ⟨v7, rfl, hr7, b7⟩
      obtain ⟨la, lc, rfl, hia⟩ := ia_of_row hr7
      have HT7 : Hid (T2 B1 g1 B2 g2 w w7 k k sa sb b1 cap1 b2 cap2) := HTV.out.on b7
      have HC7 : Hid (CB w7 x rc ∧ CB w7 y rc) := ⟨HCX.out.below b7, HCY.out.below b7⟩
      obtain ⟨L, hL⟩ : ∃ L, levR sb.E = L := ⟨_, rfl⟩
      have HLV : Hid (levR sb.E = L) := hL
      rw [hL] at hia ⊢
      have HIA : Hid (IA w7 la L) := hia
      obtain ⟨nl, hnl⟩ : ∃ nl, L.length = nl := ⟨_, rfl⟩
      have HNL : Hid (L.length = nl) := hnl
      have hnl2 : nl ≤ 12 := by rw [← hnl, ← hL]; exact levR_len
      rw [hnl]
      clear hr7 b7 hia hL hnl HTV HCX HCY hlz
      go_wp2_with fail
      go_loopw [19] (fun i wr => ∃ k2 : Nat, 1 ≤ k2 ∧ (k2 ≤ nl ∨ k2 = 1) ∧ i = .int .i64 (k2 : Nat) ∧ Hid (Below w7.heap.size w7 wr)) (fun i _ => nl - (intOf i).toNat)
      case atStart => exact ⟨1, by omega, by omega, rfl, Below.refl _ _⟩
      case round =>
        obtain ⟨i, hi1, hi2, rfl, HBI⟩ := hrel
        by_cases hlt2 : i < nl
        · obtain ⟨j, rfl⟩ : ∃ j, i = j + 1 := ⟨i - 1, by omega⟩
          obtain ⟨p, q, hp, hq, hpq, hp1⟩ : ∃ p q, L[j]? = some p ∧ L[j + 1]? = some q ∧ q ≤ p ∧ 1 ≤ q := by
            have hl1 : j + 1 < (levR sb.E).length := by rw [HLV.out, HNL.out]; exact hlt2
            have e0 := levR_at (E := sb.E) (i := j) (by omega)
            have e1 := levR_at (E := sb.E) (i := j + 1) hl1
            rw [HLV.out] at e0 e1
            exact ⟨_, _, e0.1, e1.1, lvl_mono j sb.E, e1.2⟩
          obtain ⟨ib, io, rfl, hc0⟩ := HIA.out j p hp
          obtain ⟨ib', io', e, hc1⟩ := HIA.out (j + 1) q hq
          cases e
          obtain ⟨i, hij⟩ : ∃ i, j + 1 = i := ⟨_, rfl⟩
          rw [hij] at hc1 hlt2 hi1 hi2 ⊢
          have y0 : wr.cell? ⟨ib, io + j, none⟩ = some (.int .i64 ((p : Nat) : Int)) := (HBI.out.cell (p := ⟨ib, io + j, none⟩) (World.block_lt_of_cell? _ _ hc0)).trans hc0
          have y1 : wr.cell? ⟨ib, io + i, none⟩ = some (.int .i64 ((q : Nat) : Int)) := (HBI.out.cell (p := ⟨ib, io + i, none⟩) (World.block_lt_of_cell? _ _ hc1)).trans hc1
          have hjz : ((i : Nat) : Int) - 1 = ((j : Nat) : Int) := by omega
          have hwj : IntKind.i64.wrap ((j : Nat) : Int) = ((j : Nat) : Int) := by rw [IntKind.wrap_i64]; omega
          have hwj2 : wrap64 ((j : Nat) : Int) = ((j : Nat) : Int) := by unfold wrap64; omega
          have hiz : ((i : Nat) : Int) < ((nl : Nat) : Int) := by omega
          have hjl : ((j : Nat) : Int) < ((nl : Nat) : Int) := by omega
          have hd1 : decide (((p : Nat) : Int) < ((q : Nat) : Int)) = false := decide_eq_false (by omega)
          have hd2 : decide (((q : Nat) : Int) < 1) = false := decide_eq_false (by omega)
          have hn1 : ¬ p < q := by omega
          have hn2 : ¬ q = 0 := by omega
          have hn3 : ¬ q < 1 := by omega
          have HIJ : Hid (j + 1 = i ∧ 1 ≤ i) := ⟨hij, hi1⟩
          clear hp hq hpq hp1 hc0 hc1 hij hi1 hi2
          have hS0 : wr.drew.cell? ⟨ib, io + j, none⟩ = some (.int .i64 ((p : Nat) : Int)) ∧ wr.drew.cell? ⟨ib, io + i, none⟩ = some (.int .i64 ((q : Nat) : Int)) := ⟨y0, y1⟩
          have HBN : Hid (Below w7.heap.size w7 wr.drew) := HBI.out.drew
          clear y0 y1
          go_wp2_with fail
          refine wp_region_held_drew (S := fun V => V.cell? ⟨ib, io + j, none⟩ = some (.int .i64 ((p : Nat) : Int)) ∧ V.cell? ⟨ib, io + i, none⟩ = some (.int .i64 ((q : Nat) : Int))) (by kernel_rfl) hS0 (fun hHeld => ?_)
          refine wpAnyH_take (i := 0) (oi := ({ dst := some 88, op := Op.move (Operand.tmp 18), type := 28, pos := "law.go:188", after := #[], guard := none } : Oper)) (v := ?_) rfl (by kernel_rfl) (by kernel_rfl) (by kernel_rfl) (fun _ _ _ h => h) (Or.inl ⟨by rfl, ?_⟩) (by assumption) ?_
          rotate_left
          · (intro w hSw; (try dsimp only at hSw); go_simp; try with_reducible rfl)
          try simp only [Act.put, List.setIfInBounds_toArray, List.set_cons_zero, List.set_cons_succ]
          refine wpAnyH_take (i := 1) (oi := ({ dst := some 89, op := Op.move (Operand.tmp 19), type := 3, pos := "law.go:188", after := #[], guard := none } : Oper)) (v := ?_) rfl (by kernel_rfl) (by kernel_rfl) (by kernel_rfl) (fun _ _ _ h => h) (Or.inl ⟨by rfl, ?_⟩) (by assumption) ?_
          rotate_left
          · (intro w hSw; (try dsimp only at hSw); go_simp; try with_reducible rfl)
          try simp only [Act.put, List.setIfInBounds_toArray, List.set_cons_zero, List.set_cons_succ]
          refine wpAnyH_take (i := 2) (oi := ({ dst := some 90, op := Op.indexAddr 28 (Operand.tmp 88) (Operand.tmp 89), type := 0, pos := "law.go:188", after := #[{ on := 0, ground := Ground.data }, { on := 1, ground := Ground.data }], guard := none } : Oper)) (v := ?_) rfl (by kernel_rfl) (by kernel_rfl) (by kernel_rfl) (fun _ _ _ h => h) (Or.inl ⟨by rfl, ?_⟩) (by assumption) ?_
          rotate_left
          · (intro w hSw; (try dsimp only at hSw); go_simp; try with_reducible rfl)
          try simp only [Act.put, List.setIfInBounds_toArray, List.set_cons_zero, List.set_cons_succ]
          refine wpAnyH_take (i := 3) (oi := ({ dst := some 91, op := Op.load 3 (Operand.tmp 90), type := 3, pos := "law.go:188", after := #[{ on := 2, ground := Ground.data }], guard := none } : Oper)) (v := ?_) rfl (by kernel_rfl) (by kernel_rfl) (by kernel_rfl) (fun _ _ _ h => h) (Or.inl ⟨by rfl, ?_⟩) (by assumption) ?_
          rotate_left
          · (intro w hSw; (try dsimp only at hSw); go_simp; try with_reducible rfl)
          try simp only [Act.put, List.setIfInBounds_toArray, List.set_cons_zero, List.set_cons_succ]
          refine wpAnyH_take (i := 4) (oi := ({ dst := some 92, op := Op.move (Operand.tmp 18), type := 28, pos := "law.go:188", after := #[], guard := none } : Oper)) (v := ?_) rfl (by kernel_rfl) (by kernel_rfl) (by kernel_rfl) (fun _ _ _ h => h) (Or.inl ⟨by rfl, ?_⟩) (by assumption) ?_
          rotate_left
          · (intro w hSw; (try dsimp only at hSw); go_simp; try with_reducible rfl)
          try simp only [Act.put, List.setIfInBounds_toArray, List.set_cons_zero, List.set_cons_succ]
          refine wpAnyH_take (i := 5) (oi := ({ dst := some 93, op := Op.move (Operand.tmp 19), type := 3, pos := "law.go:188", after := #[], guard := none } : Oper)) (v := ?_) rfl (by kernel_rfl) (by kernel_rfl) (by kernel_rfl) (fun _ _ _ h => h) (Or.inl ⟨by rfl, ?_⟩) (by assumption) ?_
          rotate_left
          · (intro w hSw; (try dsimp only at hSw); go_simp; try with_reducible rfl)
          try simp only [Act.put, List.setIfInBounds_toArray, List.set_cons_zero, List.set_cons_succ]
          refine wpAnyH_take (i := 6) (oi := ({ dst := some 94, op := Op.binOp BinOp.sub 3 (Operand.tmp 93) (Operand.const (Value.int IntKind.i64 1)) 3, type := 3, pos := "law.go:188", after := #[{ on := 5, ground := Ground.data }], guard := none } : Oper)) (v := ?_) rfl (by kernel_rfl) (by kernel_rfl) (by kernel_rfl) (fun _ _ _ h => h) (Or.inl ⟨by rfl, ?_⟩) (by assumption) ?_
          rotate_left
          · (intro w hSw; (try dsimp only at hSw); go_simp; try with_reducible rfl)
          try simp only [Act.put, List.setIfInBounds_toArray, List.set_cons_zero, List.set_cons_succ]
          refine wpAnyH_take (i := 7) (oi := ({ dst := some 95, op := Op.indexAddr 28 (Operand.tmp 92) (Operand.tmp 94), type := 0, pos := "law.go:188", after := #[{ on := 4, ground := Ground.data }, { on := 6, ground := Ground.data }], guard := none } : Oper)) (v := ?_) rfl (by kernel_rfl) (by kernel_rfl) (by kernel_rfl) (fun _ _ _ h => h) (Or.inl ⟨by rfl, ?_⟩) (by assumption) ?_
          rotate_left
          · (intro w hSw; (try dsimp only at hSw); go_simp; try with_reducible rfl)
          try simp only [Act.put, List.setIfInBounds_toArray, List.set_cons_zero, List.set_cons_succ]
          refine wpAnyH_take (i := 8) (oi := ({ dst := some 96, op := Op.load 3 (Operand.tmp 95), type := 3, pos := "law.go:188", after := #[{ on := 7, ground := Ground.data }], guard := none } : Oper)) (v := ?_) rfl (by kernel_rfl) (by kernel_rfl) (by kernel_rfl) (fun _ _ _ h => h) (Or.inl ⟨by rfl, ?_⟩) (by assumption) ?_
          rotate_left
          · (intro w hSw; (try dsimp only at hSw); go_simp; try with_reducible rfl)
          try simp only [Act.put, List.setIfInBounds_toArray, List.set_cons_zero, List.set_cons_succ]
          refine wpAnyH_take (i := 9) (oi := ({ dst := some 97, op := Op.binOp BinOp.gtr 3 (Operand.tmp 91) (Operand.tmp 96) 3, type := 4, pos := "law.go:188", after := #[{ on := 3, ground := Ground.data }, { on := 8, ground := Ground.data }], guard := none } : Oper)) (v := ?_) rfl (by kernel_rfl) (by kernel_rfl) (by kernel_rfl) (fun _ _ _ h => h) (Or.inl ⟨by rfl, ?_⟩) (by assumption) ?_
          rotate_left
          · (intro w hSw; (try dsimp only at hSw); go_simp; try with_reducible rfl)
          try simp only [Act.put, List.setIfInBounds_toArray, List.set_cons_zero, List.set_cons_succ]
          refine wpAnyH_take (i := 10) (oi := ({ dst := some 98, op := Op.move (Operand.tmp 97), type := 4, pos := "law.go:188", after := #[{ on := 9, ground := Ground.data }], guard := none } : Oper)) (v := ?_) rfl (by kernel_rfl) (by kernel_rfl) (by kernel_rfl) (fun _ _ _ h => h) (Or.inl ⟨by rfl, ?_⟩) (by assumption) ?_
          rotate_left
          · (intro w hSw; (try dsimp only at hSw); go_simp; try with_reducible rfl)
          try simp only [Act.put, List.setIfInBounds_toArray, List.set_cons_zero, List.set_cons_succ]
          refine wpAnyH_take (i := 11) (oi := ({ dst := some 99, op := Op.move (Operand.tmp 18), type := 28, pos := "law.go:188", after := #[{ on := 10, ground := Ground.guard }], guard := some (10, false) } : Oper)) (v := ?_) rfl (by kernel_rfl) (by kernel_rfl) (by kernel_rfl) (fun _ _ _ h => h) (Or.inl ⟨by rfl, ?_⟩) (by assumption) ?_
          rotate_left
          · (intro w hSw; (try dsimp only at hSw); go_simp; try with_reducible rfl)
          try simp only [Act.put, List.setIfInBounds_toArray, List.set_cons_zero, List.set_cons_succ]
          refine wpAnyH_take (i := 12) (oi := ({ dst := some 100, op := Op.move (Operand.tmp 19), type := 3, pos := "law.go:188", after := #[{ on := 10, ground := Ground.guard }], guard := some (10, false) } : Oper)) (v := ?_) rfl (by kernel_rfl) (by kernel_rfl) (by kernel_rfl) (fun _ _ _ h => h) (Or.inl ⟨by rfl, ?_⟩) (by assumption) ?_
          rotate_left
          · (intro w hSw; (try dsimp only at hSw); go_simp; try with_reducible rfl)
          try simp only [Act.put, List.setIfInBounds_toArray, List.set_cons_zero, List.set_cons_succ]
          refine wpAnyH_take (i := 13) (oi := ({ dst := some 101, op := Op.indexAddr 28 (Operand.tmp 99) (Operand.tmp 100), type := 0, pos := "law.go:188", after := #[{ on := 11, ground := Ground.data }, { on := 12, ground := Ground.data }, { on := 10, ground := Ground.guard }], guard := some (10, false) } : Oper)) (v := ?_) rfl (by kernel_rfl) (by kernel_rfl) (by kernel_rfl) (fun _ _ _ h => h) (Or.inl ⟨by rfl, ?_⟩) (by assumption) ?_
          rotate_left
          · (intro w hSw; (try dsimp only at hSw); go_simp; try with_reducible rfl)
          try simp only [Act.put, List.setIfInBounds_toArray, List.set_cons_zero, List.set_cons_succ]
          refine wpAnyH_take (i := 14) (oi := ({ dst := some 102, op := Op.load 3 (Operand.tmp 101), type := 3, pos := "law.go:188", after := #[{ on := 13, ground := Ground.data }, { on := 10, ground := Ground.guard }], guard := some (10, false) } : Oper)) (v := ?_) rfl (by kernel_rfl) (by kernel_rfl) (by kernel_rfl) (fun _ _ _ h => h) (Or.inl ⟨by rfl, ?_⟩) (by assumption) ?_
          rotate_left
          · (intro w hSw; (try dsimp only at hSw); go_simp; try with_reducible rfl)
          try simp only [Act.put, List.setIfInBounds_toArray, List.set_cons_zero, List.set_cons_succ]
          refine wpAnyH_take (i := 15) (oi := ({ dst := some 103, op := Op.binOp BinOp.lss 3 (Operand.tmp 102) (Operand.const (Value.int IntKind.i64 1)) 3, type := 4, pos := "law.go:188", after := #[{ on := 14, ground := Ground.data }, { on := 10, ground := Ground.guard }], guard := some (10, false) } : Oper)) (v := ?_) rfl (by kernel_rfl) (by kernel_rfl) (by kernel_rfl) (fun _ _ _ h => h) (Or.inl ⟨by rfl, ?_⟩) (by assumption) ?_
          rotate_left
          · (intro w hSw; (try dsimp only at hSw); go_simp; try with_reducible rfl)
          try simp only [Act.put, List.setIfInBounds_toArray, List.set_cons_zero, List.set_cons_succ]
          refine wpAnyH_take (i := 16) (oi := ({ dst := some 104, op := Op.pick (Operand.tmp 98) (Operand.const (Value.bool true)) (Operand.tmp 103), type := 4, pos := "law.go:188", after := #[{ on := 10, ground := Ground.data }, { on := 15, ground := Ground.data }], guard := none } : Oper)) (v := ?_) rfl (by kernel_rfl) (by kernel_rfl) (by kernel_rfl) (fun _ _ _ h => h) (Or.inl ⟨by rfl, ?_⟩) (by assumption) ?_
          rotate_left
          · (intro w hSw; (try dsimp only at hSw); go_simp; try with_reducible rfl)
          try simp only [Act.put, List.setIfInBounds_toArray, List.set_cons_zero, List.set_cons_succ]
          refine wpAnyH_done (by kernel_rfl) ?_ _
          clear hd1 hd2 hn1 hn2 hn3
          go_wp2_with fail
          go_roundw
          case rel => exact ⟨i + 1, by omega, by omega, by go_num, HBN.out⟩
          case measure => simp [intOf]; omega
        · have hiz : ¬ ((i : Nat) : Int) < ((nl : Nat) : Int) := by omega
          have HT8 : Hid (T2 B1 g1 B2 g2 w wr k k sa sb b1 cap1 b2 cap2) := HT7.out.on HBI.out
          have HC8 : Hid (CB wr x rc ∧ CB wr y rc) := ⟨HC7.out.1.below HBI.out, HC7.out.2.below HBI.out⟩
          have HI8 : Hid (∀ j v, L[j]? = some v → ∃ b off, la = some ⟨b, off, none⟩ ∧ wr.cell? ⟨b, off + j, none⟩ = some (.int .i64 ((v : Nat) : Int))) := fun j v hj => by
            obtain ⟨b, off, e, c⟩ := HIA.out j v hj
            exact ⟨b, off, e, (HBI.out.cell (p := ⟨b, off + j, none⟩) (World.block_lt_of_cell? _ _ c)).trans c⟩
          have HNI : Hid ((nl = 0 ↔ sb.E.length = 0) ∧ (0 < nl → L[0]? = some sb.E.length)) := by
            have h := levR_nil HT8.out.b.ma.rep
            rw [HLV.out, HNL.out] at h
            exact h
          have hLL : scanL ⟨#[]⟩ ⟨#[]⟩ sa.E = scanL ⟨#[]⟩ ⟨#[]⟩ sb.E := by rw [scan_all HO.out.2.1, scan_all HO.out.2.2, HO.out.1.1]
          obtain ⟨LL, hL2⟩ : ∃ LL, scanL ⟨#[]⟩ ⟨#[]⟩ sb.E = LL := ⟨_, rfl⟩
          have hLn : LL.length < 1000000000000000 := by have := scan_len HT8.out.b.ma.rep ⟨#[]⟩ ⟨#[]⟩; rw [hL2] at this; have := HLE.out.2; omega
          rw [hL2] at hLL
          have HK1 : Hid (∀ V, T2 B1 g1 B2 g2 w V k k sa sb b1 cap1 b2 cap2 → Calls Try.prog 19 #[.pointer (some ⟨g1, 0, none⟩)] V fun e w' => ∃ a c, e = .returned (.slice a LL.length c) ∧ CA w'.heap.size w' a LL ∧ Below V.heap.size V w') := fun V hT => by
            have h := cells_any B1 g1 b1 cap1 sa V hT.a.ma
            rw [hLL] at h
            exact h.mono (fun e w' ⟨v, e1, e2, e3⟩ => by obtain ⟨a, c, rfl, _, h5⟩ := ca_row e2; exact ⟨a, c, e1, h5, e3⟩)
          have HK2 : Hid (∀ V, T2 B1 g1 B2 g2 w V k k sa sb b1 cap1 b2 cap2 → Calls Try.prog 19 #[.pointer (some ⟨g2, 0, none⟩)] V fun e w' => ∃ a c, e = .returned (.slice a LL.length c) ∧ CA w'.heap.size w' a LL ∧ Below V.heap.size V w') := fun V hT => by
            have h := cells_any B2 g2 b2 cap2 sb V hT.b.ma
            rw [hL2] at h
            exact h.mono (fun e w' ⟨v, e1, e2, e3⟩ => by obtain ⟨a, c, rfl, _, h5⟩ := ca_row e2; exact ⟨a, c, e1, h5, e3⟩)
          have HSE : Hid (∀ V a b c d, CA V.heap.size V a LL → CA V.heap.size V b LL → Calls Try.prog 18 #[.slice a LL.length c, .slice b LL.length d] V fun e w' => e = .returned (.bool true) ∧ Below V.heap.size V w') := fun V a b c d h1 h2 => (same_eq a b LL.length c d LL V h1 h2 rfl hLn).mono (fun e w' ⟨e1, q, e2⟩ => ⟨e1, by rw [e2]; exact ⟨rfl, rfl, rfl, Nat.le_refl _, fun _ _ => rfl⟩⟩)
          have HZ1 : Hid (∀ V, T2 B1 g1 B2 g2 w V k k sa sb b1 cap1 b2 cap2 → Calls Try.prog 20 #[.pointer (some ⟨g1, 0, none⟩)] V fun e w' => e = .returned (.int .i64 ((sb.size : Nat) : Int)) ∧ Below V.heap.size V w') := fun V hT => by
            have h := size_any B1 g1 b1 cap1 sa V hT.a.ma
            rw [HO.out.1.2] at h
            exact h.mono (fun e w' ⟨e1, e2⟩ => ⟨e1, by rw [e2]; exact Below.refl _ _⟩)
          have HZ2 : Hid (∀ V, T2 B1 g1 B2 g2 w V k k sa sb b1 cap1 b2 cap2 → Calls Try.prog 20 #[.pointer (some ⟨g2, 0, none⟩)] V fun e w' => e = .returned (.int .i64 ((sb.size : Nat) : Int)) ∧ Below V.heap.size V w') := fun V hT =>
            (size_any B2 g2 b2 cap2 sb V hT.b.ma).mono (fun e w' ⟨e1, e2⟩ => ⟨e1, by rw [e2]; exact Below.refl _ _⟩)
          have HLN : Hid (∀ V, T2 B1 g1 B2 g2 w V k k sa sb b1 cap1 b2 cap2 → Calls Try.prog 21 #[.pointer (some ⟨g2, 0, none⟩)] V fun e w' => e = .returned (.int .i64 ((sb.E.length : Nat) : Int)) ∧ Below V.heap.size V w') := fun V hT =>
            (len_any B2 g2 b2 cap2 sb V hT.b.ma).mono (fun e w' ⟨e1, e2⟩ => ⟨e1, by rw [e2]; exact Below.refl _ _⟩)
          have HT9 : Hid (T2 B1 g1 B2 g2 w wr.drew k k sa sb b1 cap1 b2 cap2) := HT8.out.on (Below.refl _ _).drew
          have HXY : Hid (∀ V, Below wr.drew.heap.size wr.drew V → CB V x rc ∧ CB V y rc) := fun V hV => ⟨CB.below (W := wr.drew) HC8.out.1 hV, CB.below (W := wr.drew) HC8.out.2 hV⟩
          have HSX : Hid (∀ V, Below wr.drew.heap.size wr.drew V → (V.cell? ⟨x, 0, none⟩ = some (.string rc.key) ∧ V.cell? ⟨x, 1, none⟩ = some (.int .u64 ((rc.seq : Nat) : Int)) ∧ V.cell? ⟨x, 2, none⟩ = some (.string rc.val) ∧ V.cell? ⟨x, 3, none⟩ = some (.bool rc.gone)) ∧ (V.cell? ⟨y, 0, none⟩ = some (.string rc.key) ∧ V.cell? ⟨y, 1, none⟩ = some (.int .u64 ((rc.seq : Nat) : Int)) ∧ V.cell? ⟨y, 2, none⟩ = some (.string rc.val) ∧ V.cell? ⟨y, 3, none⟩ = some (.bool rc.gone))) := fun V hV => ⟨CB.cells (HXY.out V hV).1, CB.cells (HXY.out V hV).2⟩
          clear hLL hL2 hLn hi1 hi2 hlt2 HBI HT7 HC7 HIA HLV HLE
          by_cases hn0 : nl = 0
          · have hE0 := HNI.out.1.1 hn0
            rw [hE0] at HLN
            subst hn0
            have hS0 := HSX.out _ (Below.refl _ _)
            clear hE0
            go_wp2_with fail
            refine wp_region_held_drew (S := fun V => (V.cell? ⟨x, 0, none⟩ = some (.string rc.key) ∧ V.cell? ⟨x, 1, none⟩ = some (.int .u64 ((rc.seq : Nat) : Int)) ∧ V.cell? ⟨x, 2, none⟩ = some (.string rc.val) ∧ V.cell? ⟨x, 3, none⟩ = some (.bool rc.gone)) ∧ (V.cell? ⟨y, 0, none⟩ = some (.string rc.key) ∧ V.cell? ⟨y, 1, none⟩ = some (.int .u64 ((rc.seq : Nat) : Int)) ∧ V.cell? ⟨y, 2, none⟩ = some (.string rc.val) ∧ V.cell? ⟨y, 3, none⟩ = some (.bool rc.gone))) (by kernel_rfl) hS0 (fun hHeld => ?_)
            refine wpAnyH_take (i := 0) (oi := ({ dst := some 105, op := Op.load 33 (Operand.tmp 14), type := 33, pos := "law.go:192", after := #[], guard := none } : Oper)) (v := ?_) rfl (by kernel_rfl) (by kernel_rfl) (by kernel_rfl) (fun _ _ _ h => h) (Or.inl ⟨by rfl, ?_⟩) (by assumption) ?_
            rotate_left
            · (intro w hSw; (try dsimp only at hSw); go_simp; try with_reducible rfl)
            try simp only [Act.put, List.setIfInBounds_toArray, List.set_cons_zero, List.set_cons_succ]
            refine wpAnyH_take (i := 1) (oi := ({ dst := some 106, op := Op.load 33 (Operand.tmp 16), type := 33, pos := "law.go:192", after := #[], guard := none } : Oper)) (v := ?_) rfl (by kernel_rfl) (by kernel_rfl) (by kernel_rfl) (fun _ _ _ h => h) (Or.inl ⟨by rfl, ?_⟩) (by assumption) ?_
            rotate_left
            · (intro w hSw; (try dsimp only at hSw); go_simp; try with_reducible rfl)
            try simp only [Act.put, List.setIfInBounds_toArray, List.set_cons_zero, List.set_cons_succ]
            refine wpAnyH_take (i := 2) (oi := ({ dst := some 107, op := Op.binOp BinOp.eql 33 (Operand.tmp 105) (Operand.tmp 106) 33, type := 4, pos := "law.go:192", after := #[{ on := 0, ground := Ground.data }, { on := 1, ground := Ground.data }], guard := none } : Oper)) (v := ?_) rfl (by kernel_rfl) (by kernel_rfl) (by kernel_rfl) (fun _ _ _ h => h) (Or.inl ⟨by rfl, ?_⟩) (by assumption) ?_
            rotate_left
            · (intro w hSw; (try dsimp only at hSw); go_simp; try with_reducible rfl)
            try simp only [Act.put, List.setIfInBounds_toArray, List.set_cons_zero, List.set_cons_succ]
            refine wpAnyH_take (i := 3) (oi := ({ dst := some 108, op := Op.move (Operand.tmp 107), type := 4, pos := "law.go:192", after := #[{ on := 2, ground := Ground.data }], guard := none } : Oper)) (v := ?_) rfl (by kernel_rfl) (by kernel_rfl) (by kernel_rfl) (fun _ _ _ h => h) (Or.inl ⟨by rfl, ?_⟩) (by assumption) ?_
            rotate_left
            · (intro w hSw; (try dsimp only at hSw); go_simp; try with_reducible rfl)
            try simp only [Act.put, List.setIfInBounds_toArray, List.set_cons_zero, List.set_cons_succ]
            refine wpAnyH_take (i := 4) (oi := ({ dst := some 109, op := Op.move (Operand.tmp 15), type := 4, pos := "law.go:192", after := #[{ on := 3, ground := Ground.guard }], guard := some (3, true) } : Oper)) (v := ?_) rfl (by kernel_rfl) (by kernel_rfl) (by kernel_rfl) (fun _ _ _ h => h) (Or.inl ⟨by rfl, ?_⟩) (by assumption) ?_
            rotate_left
            · (intro w hSw; (try dsimp only at hSw); go_simp; try with_reducible rfl)
            try simp only [Act.put, List.setIfInBounds_toArray, List.set_cons_zero, List.set_cons_succ]
            refine wpAnyH_take (i := 5) (oi := ({ dst := some 110, op := Op.move (Operand.tmp 17), type := 4, pos := "law.go:192", after := #[{ on := 3, ground := Ground.guard }], guard := some (3, true) } : Oper)) (v := ?_) rfl (by kernel_rfl) (by kernel_rfl) (by kernel_rfl) (fun _ _ _ h => h) (Or.inl ⟨by rfl, ?_⟩) (by assumption) ?_
            rotate_left
            · (intro w hSw; (try dsimp only at hSw); go_simp; try with_reducible rfl)
            try simp only [Act.put, List.setIfInBounds_toArray, List.set_cons_zero, List.set_cons_succ]
            refine wpAnyH_take (i := 6) (oi := ({ dst := some 111, op := Op.binOp BinOp.eql 4 (Operand.tmp 109) (Operand.tmp 110) 4, type := 4, pos := "law.go:192", after := #[{ on := 4, ground := Ground.data }, { on := 5, ground := Ground.data }, { on := 3, ground := Ground.guard }], guard := some (3, true) } : Oper)) (v := ?_) rfl (by kernel_rfl) (by kernel_rfl) (by kernel_rfl) (fun _ _ _ h => h) (Or.inl ⟨by rfl, ?_⟩) (by assumption) ?_
            rotate_left
            · (intro w hSw; (try dsimp only at hSw); go_simp; try with_reducible rfl)
            try simp only [Act.put, List.setIfInBounds_toArray, List.set_cons_zero, List.set_cons_succ]
            refine wpAnyH_take (i := 7) (oi := ({ dst := some 112, op := Op.pick (Operand.tmp 108) (Operand.tmp 111) (Operand.const (Value.bool false)), type := 4, pos := "law.go:192", after := #[{ on := 3, ground := Ground.data }, { on := 6, ground := Ground.data }], guard := none } : Oper)) (v := ?_) rfl (by kernel_rfl) (by kernel_rfl) (by kernel_rfl) (fun _ _ _ h => h) (Or.inl ⟨by rfl, ?_⟩) (by assumption) ?_
            rotate_left
            · (intro w hSw; (try dsimp only at hSw); go_simp; try with_reducible rfl)
            try simp only [Act.put, List.setIfInBounds_toArray, List.set_cons_zero, List.set_cons_succ]
            refine wpAnyH_take (i := 8) (oi := ({ dst := some 113, op := Op.move (Operand.tmp 112), type := 4, pos := "law.go:192", after := #[{ on := 7, ground := Ground.data }, { on := 3, ground := Ground.chain }], guard := none } : Oper)) (v := ?_) rfl (by kernel_rfl) (by kernel_rfl) (by kernel_rfl) (fun _ _ _ h => h) (Or.inl ⟨by rfl, ?_⟩) (by assumption) ?_
            rotate_left
            · (intro w hSw; (try dsimp only at hSw); go_simp; try with_reducible rfl)
            try simp only [Act.put, List.setIfInBounds_toArray, List.set_cons_zero, List.set_cons_succ]
            refine wpAnyH_take (i := 9) (oi := ({ dst := some 114, op := Op.move (Operand.tmp 9), type := 23, pos := "law.go:192", after := #[{ on := 8, ground := Ground.guard }], guard := some (8, true) } : Oper)) (v := ?_) rfl (by kernel_rfl) (by kernel_rfl) (by kernel_rfl) (fun _ _ _ h => h) (Or.inl ⟨by rfl, ?_⟩) (by assumption) ?_
            rotate_left
            · (intro w hSw; (try dsimp only at hSw); go_simp; try with_reducible rfl)
            try simp only [Act.put, List.setIfInBounds_toArray, List.set_cons_zero, List.set_cons_succ]
            refine wpAnyH_take (i := 11) (oi := ({ dst := some 116, op := Op.move (Operand.tmp 10), type := 23, pos := "law.go:192", after := #[{ on := 8, ground := Ground.guard }], guard := some (8, true) } : Oper)) (v := ?_) rfl (by kernel_rfl) (by kernel_rfl) (by kernel_rfl) (fun _ _ _ h => h) (Or.inl ⟨by rfl, ?_⟩) (by assumption) ?_
            rotate_left
            · (intro w hSw; (try dsimp only at hSw); go_simp; try with_reducible rfl)
            try simp only [Act.put, List.setIfInBounds_toArray, List.set_cons_zero, List.set_cons_succ]
            refine wpAnyH_ready (rs := [10]) (by kernel_rfl) (by simp) ?_
            refine AllReadyH.cons rfl (fun K hK => ?_) AllReadyH.nil
            go_simp
            go_wp2_with (go_at_call 19; refine (HK1.out _ HT9.out).mono ?_; rintro e v10 ⟨ra, rac, rfl, hra, bb10⟩; have q10 : Below wr.drew.heap.size wr.drew v10 := bb10; have HT10 : Hid (T2 B1 g1 B2 g2 w v10 k k sa sb b1 cap1 b2 cap2) := HT9.out.on bb10; have Q10 : Hid (Below wr.drew.heap.size wr.drew v10) := q10; have HRA10 : Hid (CA v10.heap.size v10 ra LL) := hra; clear hra; have hS10 := HSX.out _ q10; clear q10 bb10)
            refine hK.out _ _ (by assumption) (fun hHeld => ?_)
            clear hK K
            refine wpAnyH_ready (rs := [12]) (by kernel_rfl) (by simp) ?_
            refine AllReadyH.cons rfl (fun K hK => ?_) AllReadyH.nil
            go_simp
            go_wp2_with (go_at_call 19; refine (HK2.out _ HT10.out).mono ?_; rintro e v12 ⟨rb, rbc, rfl, hrb, bb12⟩; have q12 : Below wr.drew.heap.size wr.drew v12 := Q10.out.trans (bb12.mono Q10.out.size); have HT12 : Hid (T2 B1 g1 B2 g2 w v12 k k sa sb b1 cap1 b2 cap2) := HT10.out.on bb12; have Q12 : Hid (Below wr.drew.heap.size wr.drew v12) := q12; have HRB12 : Hid (CA v12.heap.size v12 rb LL) := hrb; have HRA12 : Hid (CA v12.heap.size v12 ra LL) := (HRA10.out.below (fun b hb => bb12.block b hb)).up bb12.size; clear hrb; have hS12 := HSX.out _ q12; clear q12 bb12)
            refine hK.out _ _ (by assumption) (fun hHeld => ?_)
            clear hK K
            refine wpAnyH_ready (rs := [13]) (by kernel_rfl) (by simp) ?_
            refine AllReadyH.cons rfl (fun K hK => ?_) AllReadyH.nil
            go_simp
            go_wp2_with (go_at_call 18; refine (HSE.out _ ra rb rac rbc HRA12.out HRB12.out).mono ?_; rintro e v13 ⟨rfl, bb13⟩; have q13 : Below wr.drew.heap.size wr.drew v13 := Q12.out.trans (bb13.mono Q12.out.size); have HT13 : Hid (T2 B1 g1 B2 g2 w v13 k k sa sb b1 cap1 b2 cap2) := HT12.out.on bb13; have Q13 : Hid (Below wr.drew.heap.size wr.drew v13) := q13; have hS13 := HSX.out _ q13; clear q13 bb13)
            refine hK.out _ _ (by assumption) (fun hHeld => ?_)
            clear hK K
            refine wpAnyH_take (i := 14) (oi := ({ dst := some 119, op := Op.pick (Operand.tmp 113) (Operand.tmp 118) (Operand.const (Value.bool false)), type := 4, pos := "law.go:192", after := #[{ on := 8, ground := Ground.data }, { on := 13, ground := Ground.data }], guard := none } : Oper)) (v := ?_) rfl (by kernel_rfl) (by kernel_rfl) (by kernel_rfl) (fun _ _ _ h => h) (Or.inl ⟨by rfl, ?_⟩) (by assumption) ?_
            rotate_left
            · (intro w hSw; (try dsimp only at hSw); go_simp; try with_reducible rfl)
            try simp only [Act.put, List.setIfInBounds_toArray, List.set_cons_zero, List.set_cons_succ]
            refine wpAnyH_take (i := 15) (oi := ({ dst := some 120, op := Op.move (Operand.tmp 119), type := 4, pos := "law.go:192", after := #[{ on := 14, ground := Ground.data }, { on := 13, ground := Ground.chain }], guard := none } : Oper)) (v := ?_) rfl (by kernel_rfl) (by kernel_rfl) (by kernel_rfl) (fun _ _ _ h => h) (Or.inl ⟨by rfl, ?_⟩) (by assumption) ?_
            rotate_left
            · (intro w hSw; (try dsimp only at hSw); go_simp; try with_reducible rfl)
            try simp only [Act.put, List.setIfInBounds_toArray, List.set_cons_zero, List.set_cons_succ]
            refine wpAnyH_take (i := 16) (oi := ({ dst := some 121, op := Op.move (Operand.tmp 9), type := 23, pos := "law.go:192", after := #[{ on := 15, ground := Ground.guard }], guard := some (15, true) } : Oper)) (v := ?_) rfl (by kernel_rfl) (by kernel_rfl) (by kernel_rfl) (fun _ _ _ h => h) (Or.inl ⟨by rfl, ?_⟩) (by assumption) ?_
            rotate_left
            · (intro w hSw; (try dsimp only at hSw); go_simp; try with_reducible rfl)
            try simp only [Act.put, List.setIfInBounds_toArray, List.set_cons_zero, List.set_cons_succ]
            refine wpAnyH_take (i := 18) (oi := ({ dst := some 123, op := Op.move (Operand.tmp 10), type := 23, pos := "law.go:192", after := #[{ on := 15, ground := Ground.guard }], guard := some (15, true) } : Oper)) (v := ?_) rfl (by kernel_rfl) (by kernel_rfl) (by kernel_rfl) (fun _ _ _ h => h) (Or.inl ⟨by rfl, ?_⟩) (by assumption) ?_
            rotate_left
            · (intro w hSw; (try dsimp only at hSw); go_simp; try with_reducible rfl)
            try simp only [Act.put, List.setIfInBounds_toArray, List.set_cons_zero, List.set_cons_succ]
            refine wpAnyH_ready (rs := [17]) (by kernel_rfl) (by simp) ?_
            refine AllReadyH.cons rfl (fun K hK => ?_) AllReadyH.nil
            go_simp
            go_wp2_with (go_at_call 20; refine (HZ1.out _ HT13.out).mono ?_; rintro e v17 ⟨rfl, bb17⟩; have q17 : Below wr.drew.heap.size wr.drew v17 := Q13.out.trans (bb17.mono Q13.out.size); have HT17 : Hid (T2 B1 g1 B2 g2 w v17 k k sa sb b1 cap1 b2 cap2) := HT13.out.on bb17; have Q17 : Hid (Below wr.drew.heap.size wr.drew v17) := q17; have hS17 := HSX.out _ q17; clear q17 bb17)
            refine hK.out _ _ (by assumption) (fun hHeld => ?_)
            clear hK K
            refine wpAnyH_ready (rs := [19]) (by kernel_rfl) (by simp) ?_
            refine AllReadyH.cons rfl (fun K hK => ?_) AllReadyH.nil
            go_simp
            go_wp2_with (go_at_call 20; refine (HZ2.out _ HT17.out).mono ?_; rintro e v19 ⟨rfl, bb19⟩; have q19 : Below wr.drew.heap.size wr.drew v19 := Q17.out.trans (bb19.mono Q17.out.size); have HT19 : Hid (T2 B1 g1 B2 g2 w v19 k k sa sb b1 cap1 b2 cap2) := HT17.out.on bb19; have Q19 : Hid (Below wr.drew.heap.size wr.drew v19) := q19; have hS19 := HSX.out _ q19; clear q19 bb19)
            refine hK.out _ _ (by assumption) (fun hHeld => ?_)
            clear hK K
            refine wpAnyH_take (i := 20) (oi := ({ dst := some 125, op := Op.binOp BinOp.eql 3 (Operand.tmp 122) (Operand.tmp 124) 3, type := 4, pos := "law.go:192", after := #[{ on := 17, ground := Ground.data }, { on := 19, ground := Ground.data }, { on := 15, ground := Ground.guard }], guard := some (15, true) } : Oper)) (v := ?_) rfl (by kernel_rfl) (by kernel_rfl) (by kernel_rfl) (fun _ _ _ h => h) (Or.inl ⟨by rfl, ?_⟩) (by assumption) ?_
            rotate_left
            · (intro w hSw; (try dsimp only at hSw); go_simp; try with_reducible rfl)
            try simp only [Act.put, List.setIfInBounds_toArray, List.set_cons_zero, List.set_cons_succ]
            refine wpAnyH_take (i := 21) (oi := ({ dst := some 126, op := Op.pick (Operand.tmp 120) (Operand.tmp 125) (Operand.const (Value.bool false)), type := 4, pos := "law.go:192", after := #[{ on := 15, ground := Ground.data }, { on := 20, ground := Ground.data }], guard := none } : Oper)) (v := ?_) rfl (by kernel_rfl) (by kernel_rfl) (by kernel_rfl) (fun _ _ _ h => h) (Or.inl ⟨by rfl, ?_⟩) (by assumption) ?_
            rotate_left
            · (intro w hSw; (try dsimp only at hSw); go_simp; try with_reducible rfl)
            try simp only [Act.put, List.setIfInBounds_toArray, List.set_cons_zero, List.set_cons_succ]
            refine wpAnyH_take (i := 22) (oi := ({ dst := some 127, op := Op.move (Operand.tmp 126), type := 4, pos := "law.go:192", after := #[{ on := 21, ground := Ground.data }, { on := 19, ground := Ground.chain }], guard := none } : Oper)) (v := ?_) rfl (by kernel_rfl) (by kernel_rfl) (by kernel_rfl) (fun _ _ _ h => h) (Or.inl ⟨by rfl, ?_⟩) (by assumption) ?_
            rotate_left
            · (intro w hSw; (try dsimp only at hSw); go_simp; try with_reducible rfl)
            try simp only [Act.put, List.setIfInBounds_toArray, List.set_cons_zero, List.set_cons_succ]
            refine wpAnyH_take (i := 23) (oi := ({ dst := some 128, op := Op.move (Operand.tmp 18), type := 28, pos := "law.go:192", after := #[{ on := 22, ground := Ground.guard }], guard := some (22, true) } : Oper)) (v := ?_) rfl (by kernel_rfl) (by kernel_rfl) (by kernel_rfl) (fun _ _ _ h => h) (Or.inl ⟨by rfl, ?_⟩) (by assumption) ?_
            rotate_left
            · (intro w hSw; (try dsimp only at hSw); go_simp; try with_reducible rfl)
            try simp only [Act.put, List.setIfInBounds_toArray, List.set_cons_zero, List.set_cons_succ]
            refine wpAnyH_take (i := 24) (oi := ({ dst := some 129, op := Op.call { callee := Callee.builtin Builtin.len, args := #[Operand.tmp 128], argTypes := #[28] }, type := 3, pos := "law.go:192", after := #[{ on := 23, ground := Ground.data }, { on := 22, ground := Ground.guard }], guard := some (22, true) } : Oper)) (v := ?_) rfl (by kernel_rfl) (by kernel_rfl) (by kernel_rfl) (fun _ _ _ h => h) (Or.inl ⟨by rfl, ?_⟩) (by assumption) ?_
            rotate_left
            · (intro w hSw; (try dsimp only at hSw); go_simp; try with_reducible rfl)
            try simp only [Act.put, List.setIfInBounds_toArray, List.set_cons_zero, List.set_cons_succ]
            refine wpAnyH_take (i := 25) (oi := ({ dst := some 130, op := Op.binOp BinOp.eql 3 (Operand.tmp 129) (Operand.const (Value.int IntKind.i64 0)) 3, type := 4, pos := "law.go:192", after := #[{ on := 24, ground := Ground.data }, { on := 22, ground := Ground.guard }], guard := some (22, true) } : Oper)) (v := ?_) rfl (by kernel_rfl) (by kernel_rfl) (by kernel_rfl) (fun _ _ _ h => h) (Or.inl ⟨by rfl, ?_⟩) (by assumption) ?_
            rotate_left
            · (intro w hSw; (try dsimp only at hSw); go_simp; try with_reducible rfl)
            try simp only [Act.put, List.setIfInBounds_toArray, List.set_cons_zero, List.set_cons_succ]
            refine wpAnyH_take (i := 26) (oi := ({ dst := some 131, op := Op.move (Operand.tmp 10), type := 23, pos := "law.go:192", after := #[{ on := 22, ground := Ground.guard }], guard := some (22, true) } : Oper)) (v := ?_) rfl (by kernel_rfl) (by kernel_rfl) (by kernel_rfl) (fun _ _ _ h => h) (Or.inl ⟨by rfl, ?_⟩) (by assumption) ?_
            rotate_left
            · (intro w hSw; (try dsimp only at hSw); go_simp; try with_reducible rfl)
            try simp only [Act.put, List.setIfInBounds_toArray, List.set_cons_zero, List.set_cons_succ]
            refine wpAnyH_ready (rs := [27]) (by kernel_rfl) (by simp) ?_
            refine AllReadyH.cons rfl (fun K hK => ?_) AllReadyH.nil
            go_simp
            go_wp2_with (go_at_call 21; refine (HLN.out _ HT19.out).mono ?_; rintro e v27 ⟨rfl, bb27⟩; have q27 : Below wr.drew.heap.size wr.drew v27 := Q19.out.trans (bb27.mono Q19.out.size); have HT27 : Hid (T2 B1 g1 B2 g2 w v27 k k sa sb b1 cap1 b2 cap2) := HT19.out.on bb27; have Q27 : Hid (Below wr.drew.heap.size wr.drew v27) := q27; have hS27 := HSX.out _ q27; clear q27 bb27)
            refine hK.out _ _ (by assumption) (fun hHeld => ?_)
            clear hK K
            refine wpAnyH_take (i := 28) (oi := ({ dst := some 133, op := Op.binOp BinOp.eql 3 (Operand.tmp 132) (Operand.const (Value.int IntKind.i64 0)) 3, type := 4, pos := "law.go:192", after := #[{ on := 27, ground := Ground.data }, { on := 22, ground := Ground.guard }], guard := some (22, true) } : Oper)) (v := ?_) rfl (by kernel_rfl) (by kernel_rfl) (by kernel_rfl) (fun _ _ _ h => h) (Or.inl ⟨by rfl, ?_⟩) (by assumption) ?_
            rotate_left
            · (intro w hSw; (try dsimp only at hSw); go_simp; try with_reducible rfl)
            try simp only [Act.put, List.setIfInBounds_toArray, List.set_cons_zero, List.set_cons_succ]
            refine wpAnyH_take (i := 29) (oi := ({ dst := some 134, op := Op.binOp BinOp.eql 4 (Operand.tmp 130) (Operand.tmp 133) 4, type := 4, pos := "law.go:192", after := #[{ on := 25, ground := Ground.data }, { on := 28, ground := Ground.data }, { on := 22, ground := Ground.guard }], guard := some (22, true) } : Oper)) (v := ?_) rfl (by kernel_rfl) (by kernel_rfl) (by kernel_rfl) (fun _ _ _ h => h) (Or.inl ⟨by rfl, ?_⟩) (by assumption) ?_
            rotate_left
            · (intro w hSw; (try dsimp only at hSw); go_simp; try with_reducible rfl)
            try simp only [Act.put, List.setIfInBounds_toArray, List.set_cons_zero, List.set_cons_succ]
            refine wpAnyH_take (i := 30) (oi := ({ dst := some 135, op := Op.pick (Operand.tmp 127) (Operand.tmp 134) (Operand.const (Value.bool false)), type := 4, pos := "law.go:192", after := #[{ on := 22, ground := Ground.data }, { on := 29, ground := Ground.data }], guard := none } : Oper)) (v := ?_) rfl (by kernel_rfl) (by kernel_rfl) (by kernel_rfl) (fun _ _ _ h => h) (Or.inl ⟨by rfl, ?_⟩) (by assumption) ?_
            rotate_left
            · (intro w hSw; (try dsimp only at hSw); go_simp; try with_reducible rfl)
            try simp only [Act.put, List.setIfInBounds_toArray, List.set_cons_zero, List.set_cons_succ]
            refine wpAnyH_take (i := 31) (oi := ({ dst := some 136, op := Op.move (Operand.tmp 135), type := 4, pos := "law.go:192", after := #[{ on := 30, ground := Ground.data }, { on := 27, ground := Ground.chain }], guard := none } : Oper)) (v := ?_) rfl (by kernel_rfl) (by kernel_rfl) (by kernel_rfl) (fun _ _ _ h => h) (Or.inl ⟨by rfl, ?_⟩) (by assumption) ?_
            rotate_left
            · (intro w hSw; (try dsimp only at hSw); go_simp; try with_reducible rfl)
            try simp only [Act.put, List.setIfInBounds_toArray, List.set_cons_zero, List.set_cons_succ]
            refine wpAnyH_take (i := 32) (oi := ({ dst := some 137, op := Op.move (Operand.tmp 18), type := 28, pos := "law.go:192", after := #[{ on := 31, ground := Ground.guard }], guard := some (31, true) } : Oper)) (v := ?_) rfl (by kernel_rfl) (by kernel_rfl) (by kernel_rfl) (fun _ _ _ h => h) (Or.inl ⟨by rfl, ?_⟩) (by assumption) ?_
            rotate_left
            · (intro w hSw; (try dsimp only at hSw); go_simp; try with_reducible rfl)
            try simp only [Act.put, List.setIfInBounds_toArray, List.set_cons_zero, List.set_cons_succ]
            refine wpAnyH_take (i := 33) (oi := ({ dst := some 138, op := Op.call { callee := Callee.builtin Builtin.len, args := #[Operand.tmp 137], argTypes := #[28] }, type := 3, pos := "law.go:192", after := #[{ on := 32, ground := Ground.data }, { on := 31, ground := Ground.guard }], guard := some (31, true) } : Oper)) (v := ?_) rfl (by kernel_rfl) (by kernel_rfl) (by kernel_rfl) (fun _ _ _ h => h) (Or.inl ⟨by rfl, ?_⟩) (by assumption) ?_
            rotate_left
            · (intro w hSw; (try dsimp only at hSw); go_simp; try with_reducible rfl)
            try simp only [Act.put, List.setIfInBounds_toArray, List.set_cons_zero, List.set_cons_succ]
            refine wpAnyH_take (i := 34) (oi := ({ dst := some 139, op := Op.binOp BinOp.eql 3 (Operand.tmp 138) (Operand.const (Value.int IntKind.i64 0)) 3, type := 4, pos := "law.go:192", after := #[{ on := 33, ground := Ground.data }, { on := 31, ground := Ground.guard }], guard := some (31, true) } : Oper)) (v := ?_) rfl (by kernel_rfl) (by kernel_rfl) (by kernel_rfl) (fun _ _ _ h => h) (Or.inl ⟨by rfl, ?_⟩) (by assumption) ?_
            rotate_left
            · (intro w hSw; (try dsimp only at hSw); go_simp; try with_reducible rfl)
            try simp only [Act.put, List.setIfInBounds_toArray, List.set_cons_zero, List.set_cons_succ]
            refine wpAnyH_take (i := 35) (oi := ({ dst := some 140, op := Op.move (Operand.tmp 139), type := 4, pos := "law.go:192", after := #[{ on := 34, ground := Ground.data }, { on := 31, ground := Ground.chain }, { on := 31, ground := Ground.guard }], guard := some (31, true) } : Oper)) (v := ?_) rfl (by kernel_rfl) (by kernel_rfl) (by kernel_rfl) (fun _ _ _ h => h) (Or.inl ⟨by rfl, ?_⟩) (by assumption) ?_
            rotate_left
            · (intro w hSw; (try dsimp only at hSw); go_simp; try with_reducible rfl)
            try simp only [Act.put, List.setIfInBounds_toArray, List.set_cons_zero, List.set_cons_succ]
            refine wpAnyH_take (i := 36) (oi := ({ dst := some 141, op := Op.move (Operand.tmp 18), type := 28, pos := "law.go:192", after := #[{ on := 35, ground := Ground.guard }], guard := some (35, false) } : Oper)) (v := undef) rfl (by kernel_rfl) (by kernel_rfl) (by kernel_rfl) (fun _ _ _ h => h) (Or.inr ⟨by rfl, rfl⟩) (by assumption) ?_
            try simp only [Act.put, List.setIfInBounds_toArray, List.set_cons_zero, List.set_cons_succ]
            refine wpAnyH_take (i := 37) (oi := ({ dst := some 142, op := Op.indexAddr 28 (Operand.tmp 141) (Operand.const (Value.int IntKind.i64 0)), type := 0, pos := "law.go:192", after := #[{ on := 36, ground := Ground.data }, { on := 35, ground := Ground.guard }], guard := some (35, false) } : Oper)) (v := undef) rfl (by kernel_rfl) (by kernel_rfl) (by kernel_rfl) (fun _ _ _ h => h) (Or.inr ⟨by rfl, rfl⟩) (by assumption) ?_
            try simp only [Act.put, List.setIfInBounds_toArray, List.set_cons_zero, List.set_cons_succ]
            refine wpAnyH_take (i := 38) (oi := ({ dst := some 143, op := Op.load 3 (Operand.tmp 142), type := 3, pos := "law.go:192", after := #[{ on := 37, ground := Ground.data }, { on := 35, ground := Ground.guard }], guard := some (35, false) } : Oper)) (v := undef) rfl (by kernel_rfl) (by kernel_rfl) (by kernel_rfl) (fun _ _ _ h => h) (Or.inr ⟨by rfl, rfl⟩) (by assumption) ?_
            try simp only [Act.put, List.setIfInBounds_toArray, List.set_cons_zero, List.set_cons_succ]
            refine wpAnyH_take (i := 39) (oi := ({ dst := some 144, op := Op.move (Operand.tmp 10), type := 23, pos := "law.go:192", after := #[{ on := 35, ground := Ground.guard }], guard := some (35, false) } : Oper)) (v := undef) rfl (by kernel_rfl) (by kernel_rfl) (by kernel_rfl) (fun _ _ _ h => h) (Or.inr ⟨by rfl, rfl⟩) (by assumption) ?_
            try simp only [Act.put, List.setIfInBounds_toArray, List.set_cons_zero, List.set_cons_succ]
            refine wpAnyH_take (i := 40) (oi := ({ dst := some 145, op := Op.call { callee := Callee.value (Operand.func 21), args := #[Operand.tmp 144], argTypes := #[23] }, type := 3, pos := "law.go:192", after := #[{ on := 39, ground := Ground.data }, { on := 35, ground := Ground.chain }, { on := 35, ground := Ground.guard }], guard := some (35, false) } : Oper)) (v := undef) rfl (by kernel_rfl) (by kernel_rfl) (by kernel_rfl) (fun _ _ _ h => h) (Or.inr ⟨by rfl, rfl⟩) (by assumption) ?_
            try simp only [Act.put, List.setIfInBounds_toArray, List.set_cons_zero, List.set_cons_succ]
            refine wpAnyH_take (i := 41) (oi := ({ dst := some 146, op := Op.binOp BinOp.eql 3 (Operand.tmp 143) (Operand.tmp 145) 3, type := 4, pos := "law.go:192", after := #[{ on := 38, ground := Ground.data }, { on := 40, ground := Ground.data }, { on := 35, ground := Ground.guard }], guard := some (35, false) } : Oper)) (v := undef) rfl (by kernel_rfl) (by kernel_rfl) (by kernel_rfl) (fun _ _ _ h => h) (Or.inr ⟨by rfl, rfl⟩) (by assumption) ?_
            try simp only [Act.put, List.setIfInBounds_toArray, List.set_cons_zero, List.set_cons_succ]
            refine wpAnyH_take (i := 42) (oi := ({ dst := some 147, op := Op.pick (Operand.tmp 140) (Operand.const (Value.bool true)) (Operand.tmp 146), type := 4, pos := "law.go:192", after := #[{ on := 35, ground := Ground.data }, { on := 41, ground := Ground.data }, { on := 31, ground := Ground.guard }], guard := some (31, true) } : Oper)) (v := ?_) rfl (by kernel_rfl) (by kernel_rfl) (by kernel_rfl) (fun _ _ _ h => h) (Or.inl ⟨by rfl, ?_⟩) (by assumption) ?_
            rotate_left
            · (intro w hSw; (try dsimp only at hSw); go_simp; try with_reducible rfl)
            try simp only [Act.put, List.setIfInBounds_toArray, List.set_cons_zero, List.set_cons_succ]
            refine wpAnyH_take (i := 43) (oi := ({ dst := some 148, op := Op.pick (Operand.tmp 136) (Operand.tmp 147) (Operand.const (Value.bool false)), type := 4, pos := "law.go:192", after := #[{ on := 31, ground := Ground.data }, { on := 42, ground := Ground.data }], guard := none } : Oper)) (v := ?_) rfl (by kernel_rfl) (by kernel_rfl) (by kernel_rfl) (fun _ _ _ h => h) (Or.inl ⟨by rfl, ?_⟩) (by assumption) ?_
            rotate_left
            · (intro w hSw; (try dsimp only at hSw); go_simp; try with_reducible rfl)
            try simp only [Act.put, List.setIfInBounds_toArray, List.set_cons_zero, List.set_cons_succ]
            refine wpAnyH_take (i := 44) (oi := ({ dst := some 6, op := Op.assign (Operand.tmp 148), type := 4, pos := "law.go:192", after := #[{ on := 43, ground := Ground.data }, { on := 40, ground := Ground.chain }, { on := 0, ground := Ground.phase }, { on := 1, ground := Ground.phase }, { on := 2, ground := Ground.phase }, { on := 3, ground := Ground.phase }, { on := 4, ground := Ground.phase }, { on := 5, ground := Ground.phase }, { on := 6, ground := Ground.phase }, { on := 7, ground := Ground.phase }, { on := 8, ground := Ground.phase }, { on := 9, ground := Ground.phase }, { on := 10, ground := Ground.phase }, { on := 11, ground := Ground.phase }, { on := 12, ground := Ground.phase }, { on := 13, ground := Ground.phase }, { on := 14, ground := Ground.phase }, { on := 15, ground := Ground.phase }, { on := 16, ground := Ground.phase }, { on := 17, ground := Ground.phase }, { on := 18, ground := Ground.phase }, { on := 19, ground := Ground.phase }, { on := 20, ground := Ground.phase }, { on := 21, ground := Ground.phase }, { on := 22, ground := Ground.phase }, { on := 23, ground := Ground.phase }, { on := 24, ground := Ground.phase }, { on := 25, ground := Ground.phase }, { on := 26, ground := Ground.phase }, { on := 27, ground := Ground.phase }, { on := 28, ground := Ground.phase }, { on := 29, ground := Ground.phase }, { on := 30, ground := Ground.phase }, { on := 31, ground := Ground.phase }, { on := 32, ground := Ground.phase }, { on := 33, ground := Ground.phase }, { on := 34, ground := Ground.phase }, { on := 35, ground := Ground.phase }, { on := 36, ground := Ground.phase }, { on := 37, ground := Ground.phase }, { on := 38, ground := Ground.phase }, { on := 39, ground := Ground.phase }, { on := 40, ground := Ground.phase }, { on := 41, ground := Ground.phase }, { on := 42, ground := Ground.phase }, { on := 43, ground := Ground.phase }], guard := none } : Oper)) (v := ?_) rfl (by kernel_rfl) (by kernel_rfl) (by kernel_rfl) (fun _ _ _ h => h) (Or.inl ⟨by rfl, ?_⟩) (by assumption) ?_
            rotate_left
            · (intro w hSw; (try dsimp only at hSw); go_simp; try with_reducible rfl)
            try simp only [Act.put, List.setIfInBounds_toArray, List.set_cons_zero, List.set_cons_succ]
            refine wpAnyH_done (by kernel_rfl) ?_ _
            go_wp2_with fail
            go_ret
            exact ⟨by first | rfl | simp, HT27.out.a.bel⟩
          · have hnz : ((nl : Nat) : Int) ≠ 0 := by omega
            obtain ⟨N, hN⟩ : ∃ N, sb.E.length = N := ⟨_, rfl⟩
            have hNz : ((N : Nat) : Int) ≠ 0 := by have := HNI.out.1; omega
            obtain ⟨ib, io, rfl, _⟩ := HI8.out 0 _ (HNI.out.2 (by omega))
            have HSI : Hid (∀ V, Below wr.drew.heap.size wr.drew V → V.cell? ⟨ib, io, none⟩ = some (.int .i64 ((N : Nat) : Int))) := fun V hV => by
              obtain ⟨ib', io', e, c⟩ := HI8.out 0 _ (HNI.out.2 (by omega))
              cases e
              rw [hN] at c
              have c : wr.drew.cell? ⟨ib, io, none⟩ = some (.int .i64 ((N : Nat) : Int)) := c
              exact (hV.cell (p := ⟨ib, io, none⟩) (World.block_lt_of_cell? _ _ c)).trans c
            rw [hN] at HLN
            have hS0 := And.intro (HSX.out _ (Below.refl _ _)) (HSI.out _ (Below.refl _ _))
            have hlz0 : (0 : Int) < ((nl : Nat) : Int) := by omega
            have hN0 : ¬ N = 0 := by omega
            have hlN : 0 < nl := by omega
            have hz3 : (((nl : Nat) : Int) == 0) = false := by simpa using hn0
            have hz4 : (((N : Nat) : Int) == 0) = false := by simpa using hN0
            have hz5 : (nl == 0) = false := by simpa using hn0
            have hz6 : (N == 0) = false := by simpa using hN0
            clear hN
            go_wp2_with fail
            refine wp_region_held_drew (S := fun V => ((V.cell? ⟨x, 0, none⟩ = some (.string rc.key) ∧ V.cell? ⟨x, 1, none⟩ = some (.int .u64 ((rc.seq : Nat) : Int)) ∧ V.cell? ⟨x, 2, none⟩ = some (.string rc.val) ∧ V.cell? ⟨x, 3, none⟩ = some (.bool rc.gone)) ∧ (V.cell? ⟨y, 0, none⟩ = some (.string rc.key) ∧ V.cell? ⟨y, 1, none⟩ = some (.int .u64 ((rc.seq : Nat) : Int)) ∧ V.cell? ⟨y, 2, none⟩ = some (.string rc.val) ∧ V.cell? ⟨y, 3, none⟩ = some (.bool rc.gone))) ∧ V.cell? ⟨ib, io, none⟩ = some (.int .i64 ((N : Nat) : Int))) (by kernel_rfl) hS0 (fun hHeld => ?_)
            refine wpAnyH_take (i := 0) (oi := ({ dst := some 105, op := Op.load 33 (Operand.tmp 14), type := 33, pos := "law.go:192", after := #[], guard := none } : Oper)) (v := ?_) rfl (by kernel_rfl) (by kernel_rfl) (by kernel_rfl) (fun _ _ _ h => h) (Or.inl ⟨by rfl, ?_⟩) (by assumption) ?_
            rotate_left
            · (intro w hSw; (try dsimp only at hSw); go_simp; try with_reducible rfl)
            try simp only [Act.put, List.setIfInBounds_toArray, List.set_cons_zero, List.set_cons_succ]
            refine wpAnyH_take (i := 1) (oi := ({ dst := some 106, op := Op.load 33 (Operand.tmp 16), type := 33, pos := "law.go:192", after := #[], guard := none } : Oper)) (v := ?_) rfl (by kernel_rfl) (by kernel_rfl) (by kernel_rfl) (fun _ _ _ h => h) (Or.inl ⟨by rfl, ?_⟩) (by assumption) ?_
            rotate_left
            · (intro w hSw; (try dsimp only at hSw); go_simp; try with_reducible rfl)
            try simp only [Act.put, List.setIfInBounds_toArray, List.set_cons_zero, List.set_cons_succ]
            refine wpAnyH_take (i := 2) (oi := ({ dst := some 107, op := Op.binOp BinOp.eql 33 (Operand.tmp 105) (Operand.tmp 106) 33, type := 4, pos := "law.go:192", after := #[{ on := 0, ground := Ground.data }, { on := 1, ground := Ground.data }], guard := none } : Oper)) (v := ?_) rfl (by kernel_rfl) (by kernel_rfl) (by kernel_rfl) (fun _ _ _ h => h) (Or.inl ⟨by rfl, ?_⟩) (by assumption) ?_
            rotate_left
            · (intro w hSw; (try dsimp only at hSw); go_simp; try with_reducible rfl)
            try simp only [Act.put, List.setIfInBounds_toArray, List.set_cons_zero, List.set_cons_succ]
            refine wpAnyH_take (i := 3) (oi := ({ dst := some 108, op := Op.move (Operand.tmp 107), type := 4, pos := "law.go:192", after := #[{ on := 2, ground := Ground.data }], guard := none } : Oper)) (v := ?_) rfl (by kernel_rfl) (by kernel_rfl) (by kernel_rfl) (fun _ _ _ h => h) (Or.inl ⟨by rfl, ?_⟩) (by assumption) ?_
            rotate_left
            · (intro w hSw; (try dsimp only at hSw); go_simp; try with_reducible rfl)
            try simp only [Act.put, List.setIfInBounds_toArray, List.set_cons_zero, List.set_cons_succ]
            refine wpAnyH_take (i := 4) (oi := ({ dst := some 109, op := Op.move (Operand.tmp 15), type := 4, pos := "law.go:192", after := #[{ on := 3, ground := Ground.guard }], guard := some (3, true) } : Oper)) (v := ?_) rfl (by kernel_rfl) (by kernel_rfl) (by kernel_rfl) (fun _ _ _ h => h) (Or.inl ⟨by rfl, ?_⟩) (by assumption) ?_
            rotate_left
            · (intro w hSw; (try dsimp only at hSw); go_simp; try with_reducible rfl)
            try simp only [Act.put, List.setIfInBounds_toArray, List.set_cons_zero, List.set_cons_succ]
            refine wpAnyH_take (i := 5) (oi := ({ dst := some 110, op := Op.move (Operand.tmp 17), type := 4, pos := "law.go:192", after := #[{ on := 3, ground := Ground.guard }], guard := some (3, true) } : Oper)) (v := ?_) rfl (by kernel_rfl) (by kernel_rfl) (by kernel_rfl) (fun _ _ _ h => h) (Or.inl ⟨by rfl, ?_⟩) (by assumption) ?_
            rotate_left
            · (intro w hSw; (try dsimp only at hSw); go_simp; try with_reducible rfl)
            try simp only [Act.put, List.setIfInBounds_toArray, List.set_cons_zero, List.set_cons_succ]
            refine wpAnyH_take (i := 6) (oi := ({ dst := some 111, op := Op.binOp BinOp.eql 4 (Operand.tmp 109) (Operand.tmp 110) 4, type := 4, pos := "law.go:192", after := #[{ on := 4, ground := Ground.data }, { on := 5, ground := Ground.data }, { on := 3, ground := Ground.guard }], guard := some (3, true) } : Oper)) (v := ?_) rfl (by kernel_rfl) (by kernel_rfl) (by kernel_rfl) (fun _ _ _ h => h) (Or.inl ⟨by rfl, ?_⟩) (by assumption) ?_
            rotate_left
            · (intro w hSw; (try dsimp only at hSw); go_simp; try with_reducible rfl)
            try simp only [Act.put, List.setIfInBounds_toArray, List.set_cons_zero, List.set_cons_succ]
            refine wpAnyH_take (i := 7) (oi := ({ dst := some 112, op := Op.pick (Operand.tmp 108) (Operand.tmp 111) (Operand.const (Value.bool false)), type := 4, pos := "law.go:192", after := #[{ on := 3, ground := Ground.data }, { on := 6, ground := Ground.data }], guard := none } : Oper)) (v := ?_) rfl (by kernel_rfl) (by kernel_rfl) (by kernel_rfl) (fun _ _ _ h => h) (Or.inl ⟨by rfl, ?_⟩) (by assumption) ?_
            rotate_left
            · (intro w hSw; (try dsimp only at hSw); go_simp; try with_reducible rfl)
            try simp only [Act.put, List.setIfInBounds_toArray, List.set_cons_zero, List.set_cons_succ]
            refine wpAnyH_take (i := 8) (oi := ({ dst := some 113, op := Op.move (Operand.tmp 112), type := 4, pos := "law.go:192", after := #[{ on := 7, ground := Ground.data }, { on := 3, ground := Ground.chain }], guard := none } : Oper)) (v := ?_) rfl (by kernel_rfl) (by kernel_rfl) (by kernel_rfl) (fun _ _ _ h => h) (Or.inl ⟨by rfl, ?_⟩) (by assumption) ?_
            rotate_left
            · (intro w hSw; (try dsimp only at hSw); go_simp; try with_reducible rfl)
            try simp only [Act.put, List.setIfInBounds_toArray, List.set_cons_zero, List.set_cons_succ]
            refine wpAnyH_take (i := 9) (oi := ({ dst := some 114, op := Op.move (Operand.tmp 9), type := 23, pos := "law.go:192", after := #[{ on := 8, ground := Ground.guard }], guard := some (8, true) } : Oper)) (v := ?_) rfl (by kernel_rfl) (by kernel_rfl) (by kernel_rfl) (fun _ _ _ h => h) (Or.inl ⟨by rfl, ?_⟩) (by assumption) ?_
            rotate_left
            · (intro w hSw; (try dsimp only at hSw); go_simp; try with_reducible rfl)
            try simp only [Act.put, List.setIfInBounds_toArray, List.set_cons_zero, List.set_cons_succ]
            refine wpAnyH_take (i := 11) (oi := ({ dst := some 116, op := Op.move (Operand.tmp 10), type := 23, pos := "law.go:192", after := #[{ on := 8, ground := Ground.guard }], guard := some (8, true) } : Oper)) (v := ?_) rfl (by kernel_rfl) (by kernel_rfl) (by kernel_rfl) (fun _ _ _ h => h) (Or.inl ⟨by rfl, ?_⟩) (by assumption) ?_
            rotate_left
            · (intro w hSw; (try dsimp only at hSw); go_simp; try with_reducible rfl)
            try simp only [Act.put, List.setIfInBounds_toArray, List.set_cons_zero, List.set_cons_succ]
            refine wpAnyH_ready (rs := [10]) (by kernel_rfl) (by simp) ?_
            refine AllReadyH.cons rfl (fun K hK => ?_) AllReadyH.nil
            go_simp
            go_wp2_with (go_at_call 19; refine (HK1.out _ HT9.out).mono ?_; rintro e v10 ⟨ra, rac, rfl, hra, bb10⟩; have q10 : Below wr.drew.heap.size wr.drew v10 := bb10; have HT10 : Hid (T2 B1 g1 B2 g2 w v10 k k sa sb b1 cap1 b2 cap2) := HT9.out.on bb10; have Q10 : Hid (Below wr.drew.heap.size wr.drew v10) := q10; have HRA10 : Hid (CA v10.heap.size v10 ra LL) := hra; clear hra; have hS10 := And.intro (HSX.out _ q10) (HSI.out _ q10); clear q10 bb10)
            refine hK.out _ _ (by assumption) (fun hHeld => ?_)
            clear hK K
            refine wpAnyH_ready (rs := [12]) (by kernel_rfl) (by simp) ?_
            refine AllReadyH.cons rfl (fun K hK => ?_) AllReadyH.nil
            go_simp
            go_wp2_with (go_at_call 19; refine (HK2.out _ HT10.out).mono ?_; rintro e v12 ⟨rb, rbc, rfl, hrb, bb12⟩; have q12 : Below wr.drew.heap.size wr.drew v12 := Q10.out.trans (bb12.mono Q10.out.size); have HT12 : Hid (T2 B1 g1 B2 g2 w v12 k k sa sb b1 cap1 b2 cap2) := HT10.out.on bb12; have Q12 : Hid (Below wr.drew.heap.size wr.drew v12) := q12; have HRB12 : Hid (CA v12.heap.size v12 rb LL) := hrb; have HRA12 : Hid (CA v12.heap.size v12 ra LL) := (HRA10.out.below (fun b hb => bb12.block b hb)).up bb12.size; clear hrb; have hS12 := And.intro (HSX.out _ q12) (HSI.out _ q12); clear q12 bb12)
            refine hK.out _ _ (by assumption) (fun hHeld => ?_)
            clear hK K
            refine wpAnyH_ready (rs := [13]) (by kernel_rfl) (by simp) ?_
            refine AllReadyH.cons rfl (fun K hK => ?_) AllReadyH.nil
            go_simp
            go_wp2_with (go_at_call 18; refine (HSE.out _ ra rb rac rbc HRA12.out HRB12.out).mono ?_; rintro e v13 ⟨rfl, bb13⟩; have q13 : Below wr.drew.heap.size wr.drew v13 := Q12.out.trans (bb13.mono Q12.out.size); have HT13 : Hid (T2 B1 g1 B2 g2 w v13 k k sa sb b1 cap1 b2 cap2) := HT12.out.on bb13; have Q13 : Hid (Below wr.drew.heap.size wr.drew v13) := q13; have hS13 := And.intro (HSX.out _ q13) (HSI.out _ q13); clear q13 bb13)
            refine hK.out _ _ (by assumption) (fun hHeld => ?_)
            clear hK K
            refine wpAnyH_take (i := 14) (oi := ({ dst := some 119, op := Op.pick (Operand.tmp 113) (Operand.tmp 118) (Operand.const (Value.bool false)), type := 4, pos := "law.go:192", after := #[{ on := 8, ground := Ground.data }, { on := 13, ground := Ground.data }], guard := none } : Oper)) (v := ?_) rfl (by kernel_rfl) (by kernel_rfl) (by kernel_rfl) (fun _ _ _ h => h) (Or.inl ⟨by rfl, ?_⟩) (by assumption) ?_
            rotate_left
            · (intro w hSw; (try dsimp only at hSw); go_simp; try with_reducible rfl)
            try simp only [Act.put, List.setIfInBounds_toArray, List.set_cons_zero, List.set_cons_succ]
            refine wpAnyH_take (i := 15) (oi := ({ dst := some 120, op := Op.move (Operand.tmp 119), type := 4, pos := "law.go:192", after := #[{ on := 14, ground := Ground.data }, { on := 13, ground := Ground.chain }], guard := none } : Oper)) (v := ?_) rfl (by kernel_rfl) (by kernel_rfl) (by kernel_rfl) (fun _ _ _ h => h) (Or.inl ⟨by rfl, ?_⟩) (by assumption) ?_
            rotate_left
            · (intro w hSw; (try dsimp only at hSw); go_simp; try with_reducible rfl)
            try simp only [Act.put, List.setIfInBounds_toArray, List.set_cons_zero, List.set_cons_succ]
            refine wpAnyH_take (i := 16) (oi := ({ dst := some 121, op := Op.move (Operand.tmp 9), type := 23, pos := "law.go:192", after := #[{ on := 15, ground := Ground.guard }], guard := some (15, true) } : Oper)) (v := ?_) rfl (by kernel_rfl) (by kernel_rfl) (by kernel_rfl) (fun _ _ _ h => h) (Or.inl ⟨by rfl, ?_⟩) (by assumption) ?_
            rotate_left
            · (intro w hSw; (try dsimp only at hSw); go_simp; try with_reducible rfl)
            try simp only [Act.put, List.setIfInBounds_toArray, List.set_cons_zero, List.set_cons_succ]
            refine wpAnyH_take (i := 18) (oi := ({ dst := some 123, op := Op.move (Operand.tmp 10), type := 23, pos := "law.go:192", after := #[{ on := 15, ground := Ground.guard }], guard := some (15, true) } : Oper)) (v := ?_) rfl (by kernel_rfl) (by kernel_rfl) (by kernel_rfl) (fun _ _ _ h => h) (Or.inl ⟨by rfl, ?_⟩) (by assumption) ?_
            rotate_left
            · (intro w hSw; (try dsimp only at hSw); go_simp; try with_reducible rfl)
            try simp only [Act.put, List.setIfInBounds_toArray, List.set_cons_zero, List.set_cons_succ]
            refine wpAnyH_ready (rs := [17]) (by kernel_rfl) (by simp) ?_
            refine AllReadyH.cons rfl (fun K hK => ?_) AllReadyH.nil
            go_simp
            go_wp2_with (go_at_call 20; refine (HZ1.out _ HT13.out).mono ?_; rintro e v17 ⟨rfl, bb17⟩; have q17 : Below wr.drew.heap.size wr.drew v17 := Q13.out.trans (bb17.mono Q13.out.size); have HT17 : Hid (T2 B1 g1 B2 g2 w v17 k k sa sb b1 cap1 b2 cap2) := HT13.out.on bb17; have Q17 : Hid (Below wr.drew.heap.size wr.drew v17) := q17; have hS17 := And.intro (HSX.out _ q17) (HSI.out _ q17); clear q17 bb17)
            refine hK.out _ _ (by assumption) (fun hHeld => ?_)
            clear hK K
            refine wpAnyH_ready (rs := [19]) (by kernel_rfl) (by simp) ?_
            refine AllReadyH.cons rfl (fun K hK => ?_) AllReadyH.nil
            go_simp
            go_wp2_with (go_at_call 20; refine (HZ2.out _ HT17.out).mono ?_; rintro e v19 ⟨rfl, bb19⟩; have q19 : Below wr.drew.heap.size wr.drew v19 := Q17.out.trans (bb19.mono Q17.out.size); have HT19 : Hid (T2 B1 g1 B2 g2 w v19 k k sa sb b1 cap1 b2 cap2) := HT17.out.on bb19; have Q19 : Hid (Below wr.drew.heap.size wr.drew v19) := q19; have hS19 := And.intro (HSX.out _ q19) (HSI.out _ q19); clear q19 bb19)
            refine hK.out _ _ (by assumption) (fun hHeld => ?_)
            clear hK K
            refine wpAnyH_take (i := 20) (oi := ({ dst := some 125, op := Op.binOp BinOp.eql 3 (Operand.tmp 122) (Operand.tmp 124) 3, type := 4, pos := "law.go:192", after := #[{ on := 17, ground := Ground.data }, { on := 19, ground := Ground.data }, { on := 15, ground := Ground.guard }], guard := some (15, true) } : Oper)) (v := ?_) rfl (by kernel_rfl) (by kernel_rfl) (by kernel_rfl) (fun _ _ _ h => h) (Or.inl ⟨by rfl, ?_⟩) (by assumption) ?_
            rotate_left
            · (intro w hSw; (try dsimp only at hSw); go_simp; try with_reducible rfl)
            try simp only [Act.put, List.setIfInBounds_toArray, List.set_cons_zero, List.set_cons_succ]
            refine wpAnyH_take (i := 21) (oi := ({ dst := some 126, op := Op.pick (Operand.tmp 120) (Operand.tmp 125) (Operand.const (Value.bool false)), type := 4, pos := "law.go:192", after := #[{ on := 15, ground := Ground.data }, { on := 20, ground := Ground.data }], guard := none } : Oper)) (v := ?_) rfl (by kernel_rfl) (by kernel_rfl) (by kernel_rfl) (fun _ _ _ h => h) (Or.inl ⟨by rfl, ?_⟩) (by assumption) ?_
            rotate_left
            · (intro w hSw; (try dsimp only at hSw); go_simp; try with_reducible rfl)
            try simp only [Act.put, List.setIfInBounds_toArray, List.set_cons_zero, List.set_cons_succ]
            refine wpAnyH_take (i := 22) (oi := ({ dst := some 127, op := Op.move (Operand.tmp 126), type := 4, pos := "law.go:192", after := #[{ on := 21, ground := Ground.data }, { on := 19, ground := Ground.chain }], guard := none } : Oper)) (v := ?_) rfl (by kernel_rfl) (by kernel_rfl) (by kernel_rfl) (fun _ _ _ h => h) (Or.inl ⟨by rfl, ?_⟩) (by assumption) ?_
            rotate_left
            · (intro w hSw; (try dsimp only at hSw); go_simp; try with_reducible rfl)
            try simp only [Act.put, List.setIfInBounds_toArray, List.set_cons_zero, List.set_cons_succ]
            refine wpAnyH_take (i := 23) (oi := ({ dst := some 128, op := Op.move (Operand.tmp 18), type := 28, pos := "law.go:192", after := #[{ on := 22, ground := Ground.guard }], guard := some (22, true) } : Oper)) (v := ?_) rfl (by kernel_rfl) (by kernel_rfl) (by kernel_rfl) (fun _ _ _ h => h) (Or.inl ⟨by rfl, ?_⟩) (by assumption) ?_
            rotate_left
            · (intro w hSw; (try dsimp only at hSw); go_simp; try with_reducible rfl)
            try simp only [Act.put, List.setIfInBounds_toArray, List.set_cons_zero, List.set_cons_succ]
            refine wpAnyH_take (i := 24) (oi := ({ dst := some 129, op := Op.call { callee := Callee.builtin Builtin.len, args := #[Operand.tmp 128], argTypes := #[28] }, type := 3, pos := "law.go:192", after := #[{ on := 23, ground := Ground.data }, { on := 22, ground := Ground.guard }], guard := some (22, true) } : Oper)) (v := ?_) rfl (by kernel_rfl) (by kernel_rfl) (by kernel_rfl) (fun _ _ _ h => h) (Or.inl ⟨by rfl, ?_⟩) (by assumption) ?_
            rotate_left
            · (intro w hSw; (try dsimp only at hSw); go_simp; try with_reducible rfl)
            try simp only [Act.put, List.setIfInBounds_toArray, List.set_cons_zero, List.set_cons_succ]
            refine wpAnyH_take (i := 25) (oi := ({ dst := some 130, op := Op.binOp BinOp.eql 3 (Operand.tmp 129) (Operand.const (Value.int IntKind.i64 0)) 3, type := 4, pos := "law.go:192", after := #[{ on := 24, ground := Ground.data }, { on := 22, ground := Ground.guard }], guard := some (22, true) } : Oper)) (v := ?_) rfl (by kernel_rfl) (by kernel_rfl) (by kernel_rfl) (fun _ _ _ h => h) (Or.inl ⟨by rfl, ?_⟩) (by assumption) ?_
            rotate_left
            · (intro w hSw; (try dsimp only at hSw); go_simp; try with_reducible rfl)
            try simp only [Act.put, List.setIfInBounds_toArray, List.set_cons_zero, List.set_cons_succ]
            refine wpAnyH_take (i := 26) (oi := ({ dst := some 131, op := Op.move (Operand.tmp 10), type := 23, pos := "law.go:192", after := #[{ on := 22, ground := Ground.guard }], guard := some (22, true) } : Oper)) (v := ?_) rfl (by kernel_rfl) (by kernel_rfl) (by kernel_rfl) (fun _ _ _ h => h) (Or.inl ⟨by rfl, ?_⟩) (by assumption) ?_
            rotate_left
            · (intro w hSw; (try dsimp only at hSw); go_simp; try with_reducible rfl)
            try simp only [Act.put, List.setIfInBounds_toArray, List.set_cons_zero, List.set_cons_succ]
            refine wpAnyH_ready (rs := [27]) (by kernel_rfl) (by simp) ?_
            refine AllReadyH.cons rfl (fun K hK => ?_) AllReadyH.nil
            go_simp
            go_wp2_with (go_at_call 21; refine (HLN.out _ HT19.out).mono ?_; rintro e v27 ⟨rfl, bb27⟩; have q27 : Below wr.drew.heap.size wr.drew v27 := Q19.out.trans (bb27.mono Q19.out.size); have HT27 : Hid (T2 B1 g1 B2 g2 w v27 k k sa sb b1 cap1 b2 cap2) := HT19.out.on bb27; have Q27 : Hid (Below wr.drew.heap.size wr.drew v27) := q27; have hS27 := And.intro (HSX.out _ q27) (HSI.out _ q27); clear q27 bb27)
            refine hK.out _ _ (by assumption) (fun hHeld => ?_)
            clear hK K
            refine wpAnyH_take (i := 28) (oi := ({ dst := some 133, op := Op.binOp BinOp.eql 3 (Operand.tmp 132) (Operand.const (Value.int IntKind.i64 0)) 3, type := 4, pos := "law.go:192", after := #[{ on := 27, ground := Ground.data }, { on := 22, ground := Ground.guard }], guard := some (22, true) } : Oper)) (v := ?_) rfl (by kernel_rfl) (by kernel_rfl) (by kernel_rfl) (fun _ _ _ h => h) (Or.inl ⟨by rfl, ?_⟩) (by assumption) ?_
            rotate_left
            · (intro w hSw; (try dsimp only at hSw); go_simp; try with_reducible rfl)
            try simp only [Act.put, List.setIfInBounds_toArray, List.set_cons_zero, List.set_cons_succ]
            refine wpAnyH_take (i := 29) (oi := ({ dst := some 134, op := Op.binOp BinOp.eql 4 (Operand.tmp 130) (Operand.tmp 133) 4, type := 4, pos := "law.go:192", after := #[{ on := 25, ground := Ground.data }, { on := 28, ground := Ground.data }, { on := 22, ground := Ground.guard }], guard := some (22, true) } : Oper)) (v := ?_) rfl (by kernel_rfl) (by kernel_rfl) (by kernel_rfl) (fun _ _ _ h => h) (Or.inl ⟨by rfl, ?_⟩) (by assumption) ?_
            rotate_left
            · (intro w hSw; (try dsimp only at hSw); go_simp; try with_reducible rfl)
            try simp only [Act.put, List.setIfInBounds_toArray, List.set_cons_zero, List.set_cons_succ]
            refine wpAnyH_take (i := 30) (oi := ({ dst := some 135, op := Op.pick (Operand.tmp 127) (Operand.tmp 134) (Operand.const (Value.bool false)), type := 4, pos := "law.go:192", after := #[{ on := 22, ground := Ground.data }, { on := 29, ground := Ground.data }], guard := none } : Oper)) (v := ?_) rfl (by kernel_rfl) (by kernel_rfl) (by kernel_rfl) (fun _ _ _ h => h) (Or.inl ⟨by rfl, ?_⟩) (by assumption) ?_
            rotate_left
            · (intro w hSw; (try dsimp only at hSw); go_simp; try with_reducible rfl)
            try simp only [Act.put, List.setIfInBounds_toArray, List.set_cons_zero, List.set_cons_succ]
            refine wpAnyH_take (i := 31) (oi := ({ dst := some 136, op := Op.move (Operand.tmp 135), type := 4, pos := "law.go:192", after := #[{ on := 30, ground := Ground.data }, { on := 27, ground := Ground.chain }], guard := none } : Oper)) (v := ?_) rfl (by kernel_rfl) (by kernel_rfl) (by kernel_rfl) (fun _ _ _ h => h) (Or.inl ⟨by rfl, ?_⟩) (by assumption) ?_
            rotate_left
            · (intro w hSw; (try dsimp only at hSw); go_simp; try with_reducible rfl)
            try simp only [Act.put, List.setIfInBounds_toArray, List.set_cons_zero, List.set_cons_succ]
            refine wpAnyH_take (i := 32) (oi := ({ dst := some 137, op := Op.move (Operand.tmp 18), type := 28, pos := "law.go:192", after := #[{ on := 31, ground := Ground.guard }], guard := some (31, true) } : Oper)) (v := ?_) rfl (by kernel_rfl) (by kernel_rfl) (by kernel_rfl) (fun _ _ _ h => h) (Or.inl ⟨by rfl, ?_⟩) (by assumption) ?_
            rotate_left
            · (intro w hSw; (try dsimp only at hSw); go_simp; try with_reducible rfl)
            try simp only [Act.put, List.setIfInBounds_toArray, List.set_cons_zero, List.set_cons_succ]
            refine wpAnyH_take (i := 33) (oi := ({ dst := some 138, op := Op.call { callee := Callee.builtin Builtin.len, args := #[Operand.tmp 137], argTypes := #[28] }, type := 3, pos := "law.go:192", after := #[{ on := 32, ground := Ground.data }, { on := 31, ground := Ground.guard }], guard := some (31, true) } : Oper)) (v := ?_) rfl (by kernel_rfl) (by kernel_rfl) (by kernel_rfl) (fun _ _ _ h => h) (Or.inl ⟨by rfl, ?_⟩) (by assumption) ?_
            rotate_left
            · (intro w hSw; (try dsimp only at hSw); go_simp; try with_reducible rfl)
            try simp only [Act.put, List.setIfInBounds_toArray, List.set_cons_zero, List.set_cons_succ]
            refine wpAnyH_take (i := 34) (oi := ({ dst := some 139, op := Op.binOp BinOp.eql 3 (Operand.tmp 138) (Operand.const (Value.int IntKind.i64 0)) 3, type := 4, pos := "law.go:192", after := #[{ on := 33, ground := Ground.data }, { on := 31, ground := Ground.guard }], guard := some (31, true) } : Oper)) (v := ?_) rfl (by kernel_rfl) (by kernel_rfl) (by kernel_rfl) (fun _ _ _ h => h) (Or.inl ⟨by rfl, ?_⟩) (by assumption) ?_
            rotate_left
            · (intro w hSw; (try dsimp only at hSw); go_simp; try with_reducible rfl)
            try simp only [Act.put, List.setIfInBounds_toArray, List.set_cons_zero, List.set_cons_succ]
            refine wpAnyH_take (i := 35) (oi := ({ dst := some 140, op := Op.move (Operand.tmp 139), type := 4, pos := "law.go:192", after := #[{ on := 34, ground := Ground.data }, { on := 31, ground := Ground.chain }, { on := 31, ground := Ground.guard }], guard := some (31, true) } : Oper)) (v := ?_) rfl (by kernel_rfl) (by kernel_rfl) (by kernel_rfl) (fun _ _ _ h => h) (Or.inl ⟨by rfl, ?_⟩) (by assumption) ?_
            rotate_left
            · (intro w hSw; (try dsimp only at hSw); go_simp; try with_reducible rfl)
            try simp only [Act.put, List.setIfInBounds_toArray, List.set_cons_zero, List.set_cons_succ]
            refine wpAnyH_take (i := 36) (oi := ({ dst := some 141, op := Op.move (Operand.tmp 18), type := 28, pos := "law.go:192", after := #[{ on := 35, ground := Ground.guard }], guard := some (35, false) } : Oper)) (v := ?_) rfl (by kernel_rfl) (by kernel_rfl) (by kernel_rfl) (fun _ _ _ h => h) (Or.inl ⟨by rfl, ?_⟩) (by assumption) ?_
            rotate_left
            · (intro w hSw; (try dsimp only at hSw); go_simp; try with_reducible rfl)
            try simp only [Act.put, List.setIfInBounds_toArray, List.set_cons_zero, List.set_cons_succ]
            refine wpAnyH_take (i := 37) (oi := ({ dst := some 142, op := Op.indexAddr 28 (Operand.tmp 141) (Operand.const (Value.int IntKind.i64 0)), type := 0, pos := "law.go:192", after := #[{ on := 36, ground := Ground.data }, { on := 35, ground := Ground.guard }], guard := some (35, false) } : Oper)) (v := ?_) rfl (by kernel_rfl) (by kernel_rfl) (by kernel_rfl) (fun _ _ _ h => h) (Or.inl ⟨by rfl, ?_⟩) (by assumption) ?_
            rotate_left
            · (intro w hSw; (try dsimp only at hSw); go_simp; try with_reducible rfl)
            try simp only [Act.put, List.setIfInBounds_toArray, List.set_cons_zero, List.set_cons_succ]
            refine wpAnyH_take (i := 38) (oi := ({ dst := some 143, op := Op.load 3 (Operand.tmp 142), type := 3, pos := "law.go:192", after := #[{ on := 37, ground := Ground.data }, { on := 35, ground := Ground.guard }], guard := some (35, false) } : Oper)) (v := ?_) rfl (by kernel_rfl) (by kernel_rfl) (by kernel_rfl) (fun _ _ _ h => h) (Or.inl ⟨by rfl, ?_⟩) (by assumption) ?_
            rotate_left
            · (intro w hSw; (try dsimp only at hSw); go_simp; try with_reducible rfl)
            try simp only [Act.put, List.setIfInBounds_toArray, List.set_cons_zero, List.set_cons_succ]
            refine wpAnyH_take (i := 39) (oi := ({ dst := some 144, op := Op.move (Operand.tmp 10), type := 23, pos := "law.go:192", after := #[{ on := 35, ground := Ground.guard }], guard := some (35, false) } : Oper)) (v := ?_) rfl (by kernel_rfl) (by kernel_rfl) (by kernel_rfl) (fun _ _ _ h => h) (Or.inl ⟨by rfl, ?_⟩) (by assumption) ?_
            rotate_left
            · (intro w hSw; (try dsimp only at hSw); go_simp; try with_reducible rfl)
            try simp only [Act.put, List.setIfInBounds_toArray, List.set_cons_zero, List.set_cons_succ]
            refine wpAnyH_ready (rs := [40]) (by kernel_rfl) (by simp) ?_
            refine AllReadyH.cons rfl (fun K hK => ?_) AllReadyH.nil
            go_simp
            go_wp2_with (go_at_call 21; refine (HLN.out _ HT27.out).mono ?_; rintro e v40 ⟨rfl, bb40⟩; have q40 : Below wr.drew.heap.size wr.drew v40 := Q27.out.trans (bb40.mono Q27.out.size); have HT40 : Hid (T2 B1 g1 B2 g2 w v40 k k sa sb b1 cap1 b2 cap2) := HT27.out.on bb40; have Q40 : Hid (Below wr.drew.heap.size wr.drew v40) := q40; have hS40 := And.intro (HSX.out _ q40) (HSI.out _ q40); clear q40 bb40)
            refine hK.out _ _ (by assumption) (fun hHeld => ?_)
            clear hK K
            refine wpAnyH_take (i := 41) (oi := ({ dst := some 146, op := Op.binOp BinOp.eql 3 (Operand.tmp 143) (Operand.tmp 145) 3, type := 4, pos := "law.go:192", after := #[{ on := 38, ground := Ground.data }, { on := 40, ground := Ground.data }, { on := 35, ground := Ground.guard }], guard := some (35, false) } : Oper)) (v := ?_) rfl (by kernel_rfl) (by kernel_rfl) (by kernel_rfl) (fun _ _ _ h => h) (Or.inl ⟨by rfl, ?_⟩) (by assumption) ?_
            rotate_left
            · (intro w hSw; (try dsimp only at hSw); go_simp; try with_reducible rfl)
            try simp only [Act.put, List.setIfInBounds_toArray, List.set_cons_zero, List.set_cons_succ]
            refine wpAnyH_take (i := 42) (oi := ({ dst := some 147, op := Op.pick (Operand.tmp 140) (Operand.const (Value.bool true)) (Operand.tmp 146), type := 4, pos := "law.go:192", after := #[{ on := 35, ground := Ground.data }, { on := 41, ground := Ground.data }, { on := 31, ground := Ground.guard }], guard := some (31, true) } : Oper)) (v := ?_) rfl (by kernel_rfl) (by kernel_rfl) (by kernel_rfl) (fun _ _ _ h => h) (Or.inl ⟨by rfl, ?_⟩) (by assumption) ?_
            rotate_left
            · (intro w hSw; (try dsimp only at hSw); go_simp; try with_reducible rfl)
            try simp only [Act.put, List.setIfInBounds_toArray, List.set_cons_zero, List.set_cons_succ]
            refine wpAnyH_take (i := 43) (oi := ({ dst := some 148, op := Op.pick (Operand.tmp 136) (Operand.tmp 147) (Operand.const (Value.bool false)), type := 4, pos := "law.go:192", after := #[{ on := 31, ground := Ground.data }, { on := 42, ground := Ground.data }], guard := none } : Oper)) (v := ?_) rfl (by kernel_rfl) (by kernel_rfl) (by kernel_rfl) (fun _ _ _ h => h) (Or.inl ⟨by rfl, ?_⟩) (by assumption) ?_
            rotate_left
            · (intro w hSw; (try dsimp only at hSw); go_simp; try with_reducible rfl)
            try simp only [Act.put, List.setIfInBounds_toArray, List.set_cons_zero, List.set_cons_succ]
            refine wpAnyH_take (i := 44) (oi := ({ dst := some 6, op := Op.assign (Operand.tmp 148), type := 4, pos := "law.go:192", after := #[{ on := 43, ground := Ground.data }, { on := 40, ground := Ground.chain }, { on := 0, ground := Ground.phase }, { on := 1, ground := Ground.phase }, { on := 2, ground := Ground.phase }, { on := 3, ground := Ground.phase }, { on := 4, ground := Ground.phase }, { on := 5, ground := Ground.phase }, { on := 6, ground := Ground.phase }, { on := 7, ground := Ground.phase }, { on := 8, ground := Ground.phase }, { on := 9, ground := Ground.phase }, { on := 10, ground := Ground.phase }, { on := 11, ground := Ground.phase }, { on := 12, ground := Ground.phase }, { on := 13, ground := Ground.phase }, { on := 14, ground := Ground.phase }, { on := 15, ground := Ground.phase }, { on := 16, ground := Ground.phase }, { on := 17, ground := Ground.phase }, { on := 18, ground := Ground.phase }, { on := 19, ground := Ground.phase }, { on := 20, ground := Ground.phase }, { on := 21, ground := Ground.phase }, { on := 22, ground := Ground.phase }, { on := 23, ground := Ground.phase }, { on := 24, ground := Ground.phase }, { on := 25, ground := Ground.phase }, { on := 26, ground := Ground.phase }, { on := 27, ground := Ground.phase }, { on := 28, ground := Ground.phase }, { on := 29, ground := Ground.phase }, { on := 30, ground := Ground.phase }, { on := 31, ground := Ground.phase }, { on := 32, ground := Ground.phase }, { on := 33, ground := Ground.phase }, { on := 34, ground := Ground.phase }, { on := 35, ground := Ground.phase }, { on := 36, ground := Ground.phase }, { on := 37, ground := Ground.phase }, { on := 38, ground := Ground.phase }, { on := 39, ground := Ground.phase }, { on := 40, ground := Ground.phase }, { on := 41, ground := Ground.phase }, { on := 42, ground := Ground.phase }, { on := 43, ground := Ground.phase }], guard := none } : Oper)) (v := ?_) rfl (by kernel_rfl) (by kernel_rfl) (by kernel_rfl) (fun _ _ _ h => h) (Or.inl ⟨by rfl, ?_⟩) (by assumption) ?_
            rotate_left
            · (intro w hSw; (try dsimp only at hSw); go_simp; try with_reducible rfl)
            try simp only [Act.put, List.setIfInBounds_toArray, List.set_cons_zero, List.set_cons_succ]
            refine wpAnyH_done (by kernel_rfl) ?_ _
            go_wp2_with fail
            go_ret
            exact ⟨by first | rfl | simp, HT40.out.a.bel⟩
end Go.Proofs.Ytdgmjmohfpjlnaa
