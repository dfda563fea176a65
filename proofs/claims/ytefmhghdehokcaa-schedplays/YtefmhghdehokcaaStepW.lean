/-
  A step of a loop whose task wakes a channel.
-/
import Derived.Test.YtefmhghdehokcaaOne
namespace Go.Proofs.Ytefmhghdehokcaa
open Go.RowKit
set_option maxRecDepth 100000 in
set_option maxHeartbeats 8000000 in
/-- A step whose task wakes a channel. -/
theorem step_wake (p n i j : Nat) (pick xw : Int) (vp vs vw vd : Value) (ak : Option Addr) (nk ck st fu fu' : Nat) (now now1 : Int) (ws : List Int) (tks : List Tk) (t : Tk) (d : Bool) (wt : Int) (w : World) (P : World → World → Value → Prop)
    (hp : w.heap[p]? = some (.cells #[vp, .slice ak nk ck, vs, vw, .int .i64 (st : Nat), .int .u64 now, vd, .int .u64 (fu : Nat)] 83 (0, 0)))
    (hst : (nk ≤ st ∧ now1 = now) ∨ (st < nk ∧ ∃ b off x, ak = some ⟨b, off, none⟩ ∧ b < p ∧ w.cell? ⟨b, off + st, none⟩ = some (.int .i64 x) ∧ 0 ≤ x ∧ x < 2147483648 ∧ 0 ≤ now ∧ now < 1000000000000000 ∧ now1 = now + x)) (hstl : st < 100000000000000000) (hw : w.ownsRow (p + 1) 3 1 vw n (ws.map iV)) (hts : w.ownsRow (p + 1) 86 1 vs n (tks.map tkV)) (hn : n ≤ 100) (hpk : 0 ≤ pick)
    (hj : pick.tmod ((readyL ws).length : Int) = (j : Int)) (hij : (readyL ws)[j]? = some i) (hti : tks[i]? = some t)
    (HT : ∀ W1, Kb (fun b => b = p) w W1 → W1.heap[p]? = some (.cells #[vp, .slice ak nk ck, vs, vw, .int .i64 (st : Nat), .int .u64 now1, vd, .int .u64 (fu : Nat)] 83 (0, 0)) → Calls Try.prog 24 #[.pointer (some ⟨t.q, 0, none⟩), .pointer (some ⟨p, 5, none⟩)] W1 fun r w2 => ∃ gk, r = .returned (.agg #[.bool d, .int .i64 wt, .slice (some ⟨gk, 0, none⟩) 1 1]) ∧ W1.heap.size ≤ gk ∧ w2.cell? ⟨gk, 0, none⟩ = some (.int .i64 xw) ∧ ∃ vd', P W1 w2 vd')
    (hP : ∀ W1 w2 vd', P W1 w2 vd' → w2.heap[p]? = some (.cells #[vp, .slice ak nk ck, vs, vw, .int .i64 (st : Nat), .int .u64 now1, vd', .int .u64 (fu' : Nat)] 83 (0, 0)) ∧ w2.ownsRow (p + 1) 3 1 vw n (ws.map iV) ∧ W1.heap.size ≤ w2.heap.size ∧ (∀ b : Nat, w.heap.size ≤ b → b < W1.heap.size → w2.heap[b]? = W1.heap[b]?)) :
    Calls Try.prog 18 #[.pointer (some ⟨p, 0, none⟩), .int .i64 pick] w fun r w' => r = .returned (.tuple #[.int .i64 (i : Nat), .bool true]) ∧
      ∃ W1 w2 vd', Kb (fun b => b = p) w W1 ∧ P W1 w2 vd' ∧ w'.heap[p]? = some (.cells #[vp, .slice ak nk ck, vs, vw, .int .i64 ((st + 1 : Nat) : Int), .int .u64 now1, vd', .int .u64 (fu' : Nat)] 83 (0, 0)) ∧ w'.ownsRow (p + 1) 3 1 vw n (((wakeL xw ws).set i (restI d wt)).map iV) ∧ Kb (fun b => b = p ∨ vw.ownBlock = some b ∨ (w.heap.size ≤ b ∧ b < W1.heap.size)) w2 w' := by
  obtain ⟨aw, cw, rfl⟩ := row_form hw
  obtain ⟨ats, cs, rfl⟩ := row_form hts
  have hwn : ws.length = n := by have := hw.1; rw [List.length_map] at this; omega
  have HWL : Hid (∀ g, (Value.slice aw n cw).ownBlock = some g → g < w.heap.size) := fun g e => (hw.lt g e).2
  have hi : i < n := by
    have := List.mem_of_getElem? hij
    simp only [readyL, readyTo, List.mem_filter, List.mem_range] at this
    omega
  obtain ⟨m, hm⟩ : ∃ m, (readyL ws).length = m := ⟨_, rfl⟩
  have hjm : j < m := by rw [← hm]; exact (List.getElem?_eq_some_iff.1 hij).1
  have HRD : Hid (Calls Try.prog 19 #[.pointer (some ⟨p, 0, none⟩)] w fun r w' => ∃ v, r = .returned v ∧ w'.ownsRow w.heap.size 3 1 v m ((readyL ws).map nI) ∧ Below w.heap.size w w') := by
    have := ready_any p n ws vp (.slice ak nk ck) (.slice ats n cs) (.slice aw n cw) _ _ _ _ (p + 1) w hp hw hn
    rw [hm] at this
    exact this
  obtain ⟨gs, rfl, hgs, hcs⟩ := row_cell hts (j := i) (x := tkV t) (by rw [List.getElem?_map, hti]; rfl)
  simp only [tkV] at hcs
  have hgss := World.block_lt_of_cell? w _ hcs
  have hps := (Array.getElem?_eq_some_iff.1 hp).1
  rw [hm] at hj
  have HIJ : Hid _ := hij
  have HP0 : Hid _ := hp
  have HHT : Hid _ := HT
  have HHP : Hid _ := hP
  have HCS : Hid _ := hcs
  have hpk' : decide (pick < 0) = false := decide_eq_false (by omega)
  have hm0 : ((m : Int) == 0) = false := by simp; omega
  clear HT hP hw hts hij hti hp hcs hm
  have hms := meth_step t.q
  go_enter Try.func18, Try.ntmps18
  go_wp2_with fail
  refine (HRD.out).mono ?_
  rintro e w1 ⟨v1, rfl, o1, b1⟩
  obtain ⟨a1, c1, rfl⟩ := row_form o1
  obtain ⟨g1, rfl, hg1, hc1⟩ := row_cell o1 (j := j) (x := .int .i64 (i : Nat)) (by rw [List.getElem?_map, HIJ.out]; rfl)
  have hp1 := (b1.block p hps).trans HP0.out
  have cp : ∀ k v, #[vp, .slice ak nk ck, .slice (some ⟨gs, 0, none⟩) n cs, .slice aw n cw, .int .i64 (st : Nat), .int .u64 now, vd, .int .u64 (fu : Nat)][k]? = some v → w1.cell? ⟨p, k, none⟩ = some v := fun k v h => (cells_of_block hp1 k).trans h
  have cp1 := cp 1 _ rfl
  have cp4 := cp 4 _ rfl
  have HB1 : Hid _ := b1
  have HP1 : Hid _ := hp1
  have HC1 : Hid (w1.cell? ⟨g1, j, none⟩ = some (.int .i64 (i : Nat))) := hc1
  have hj2 : pick % (m : Int) = (j : Int) := by rw [← Int.tmod_eq_emod_of_nonneg hpk]; exact hj
  have hjI : (j : Int) < (m : Int) := by omega
  have hiI : (i : Int) < (n : Int) := by omega
  have HG1 : Hid (w.heap.size ≤ g1) := hg1
  have HST : Hid _ := hst
  clear o1 hp1 cp HRD b1 hc1 hst hg1
  go_wp2_with fail
  go_quiet (fail)
  obtain ⟨W5, hW5⟩ : ∃ W5, w1.drewN nq = W5 := ⟨_, rfl⟩
  have hh5 : ∀ b : Nat, W5.heap[b]? = w1.heap[b]? := fun b => by rw [← hW5]; rfl
  have B5 : Below w.heap.size w W5 := by rw [← hW5]; exact HB1.out.trans ((belD _ _).mono HB1.out.size)
  rw [hW5]
  have hp5 := (hh5 p).trans HP1.out
  have HC5 : Hid (W5.cell? ⟨g1, j, none⟩ = some (.int .i64 (i : Nat))) := by
    have := HC1.out
    simp only [Hid, World.cell?] at this ⊢
    rw [hh5 g1]
    exact this
  have c51 : W5.cell? ⟨p, 1, none⟩ = some (.slice ak nk ck) := by have := cells_of_block hp5 1; simpa using this
  have c54 : W5.cell? ⟨p, 4, none⟩ = some (.int .i64 (st : Nat)) := by have := cells_of_block hp5 4; simpa using this
  have c55 : W5.cell? ⟨p, 5, none⟩ = some (.int .u64 now) := by have := cells_of_block hp5 5; simpa using this
  have f55 : W5.frozen? ⟨p, 5, none⟩ = false := by simp [World.frozen?, hp5]
  have HP5 : Hid _ := hp5
  have HB5 : Hid _ := B5
  clear hW5 hh5 hp5 B5 HB1 HP1 HC1 cp1 cp4
  go_upto_if 29 with fail
  go_cut [6] from 11 (fun s6 wx => s6 = .slice (some ⟨g1, 0, none⟩) m c1 ∧ Hid (Kb (fun b => b = p) w wx ∧ wx.heap[p]? = some (.cells #[vp, .slice ak nk ck, .slice (some ⟨gs, 0, none⟩) n cs, .slice aw n cw, .int .i64 (st : Nat), .int .u64 now1, vd, .int .u64 (fu : Nat)] 83 (0, 0)) ∧ wx.cell? ⟨g1, j, none⟩ = some (.int .i64 (i : Nat))))
  case first =>
    rcases HST.out with ⟨h1, rfl⟩ | ⟨h1, b, off, x, rfl, hb, hx, hx0, hx1, hn0, hn1, rfl⟩
    · have hstk : decide ((st : Int) < (nk : Int)) = false := decide_eq_false (by omega)
      go_wp2_with fail
      go_meet
      case rel => exact ⟨rfl, Kb.of_below HB5.out, HP5.out, HC5.out⟩
    · have hstk : decide ((st : Int) < (nk : Int)) = true := decide_eq_true (by omega)
      have hstI : (st : Int) < (nk : Int) := by omega
      have hx5 : W5.cell? ⟨b, off + st, none⟩ = some (.int .i64 x) := (HB5.out.cell (p := ⟨b, off + st, none⟩) (by show b < w.heap.size; omega)).trans hx
      have e1 : IntKind.u64.wrap x = x := by simp [IntKind.wrap, IntKind.bits, IntKind.signed]; omega
      have e2 : IntKind.u64.wrap (now + x) = now + x := by simp [IntKind.wrap, IntKind.bits, IntKind.signed]; omega
      go_wp2_with fail
      go_big_region
      go_wp2_with fail
      go_meet
      case rel =>
        have k5 : Kb (fun b => b = p) w W5 := Kb.of_below HB5.out
        refine ⟨rfl, (k5.setCell rfl _ _).drew, block_set HP5.out 5 _, ?_⟩
        have h6 := HC5.out
        have h7 : (W5.setCell ⟨p, 5, none⟩ (.int .u64 (now + x))).drew.heap[g1]? = W5.heap[g1]? := Below.heap_setCell _ _ _ _ (by show g1 ≠ p; have := HG1.out; omega)
        simp only [World.cell?] at h6 ⊢
        rw [h7]
        exact h6
  case rest =>
  obtain ⟨rfl, HW2⟩ := hcut
  obtain ⟨W2, hW2⟩ : ∃ W2, wc = W2 := ⟨_, rfl⟩
  rw [hW2]
  rw [hW2] at HW2
  obtain ⟨B2, hp2, hc2'⟩ := HW2.out
  have cp2 : W2.cell? ⟨p, 2, none⟩ = some (.slice (some ⟨gs, 0, none⟩) n cs) := by have := cells_of_block hp2 2; simpa using this
  have hcs2 : W2.cell? ⟨gs, i, none⟩ = some (.iface 58 (.pointer (some ⟨t.q, 0, none⟩))) := by
    have := HCS.out
    simp only [World.cell?] at this ⊢
    rw [B2.block gs hgss (by omega)]
    exact this
  have hc2 : W2.cell? ⟨g1, j, none⟩ = some (.int .i64 (i : Nat)) := hc2'
  have HC : Hid _ := HHT.out W2.drew B2.drew hp2
  have HCb : Hid _ := HHT.out (W2.alloc (.cells #[.bool false, .int .i64 0, .slice none 0 0] 64)).drew (B2.alloc _).drew ((Below.heap_alloc _ _ _ (by have := B2.size; omega)).trans hp2)
  have HB2 : Hid _ := B2
  have hs2 := B2.size
  have AL2 : ∀ (ad : Addr) v, ad.block < W2.heap.size → W2.cell? ad = some v → (W2.alloc (.cells #[.bool false, .int .i64 0, .slice none 0 0] 64)).cell? ad = some v := fun ad v h1 h2 => (((Below.refl W2.heap.size W2).alloc (Nat.le_refl _) _).cell (p := ad) h1).trans h2
  have cp2b := AL2 ⟨p, 2, none⟩ _ (by show p < W2.heap.size; omega) cp2
  have hgs2 : gs < W2.heap.size := Nat.lt_of_lt_of_le hgss hs2
  have hcs2b := AL2 ⟨gs, i, none⟩ _ hgs2 hcs2
  have HZ : Hid (∀ w3 vd', P (W2.alloc (.cells #[.bool false, .int .i64 0, .slice none 0 0] 64)).drew w3 vd' → w3.heap[W2.heap.size]? = some (.cells #[.bool false, .int .i64 0, .slice none 0 0] 64 (0, 0))) := fun w3 vd' h => by
    obtain ⟨_, _, _, h4⟩ := HHP.out _ _ _ h
    exact (h4 _ hs2 (by show W2.heap.size < (W2.alloc _).heap.size; simp)).trans (World.alloc_heap_new _ _)
  have HF : Hid (∀ w3 : World, w3.heap[W2.heap.size]? = some (.cells #[.bool false, .int .i64 0, .slice none 0 0] 64 (0, 0)) → w3.cell? ⟨W2.heap.size, 0, none⟩ = some (.bool false) ∧ w3.cell? ⟨W2.heap.size, 1, none⟩ = some (.int .i64 0) ∧ w3.cell? ⟨W2.heap.size, 2, none⟩ = some (.slice none 0 0) ∧ (∀ o, w3.frozen? ⟨W2.heap.size, o, none⟩ = false)) := fun w3 h => by
    have e0 := cells_of_block h 0
    have e1 := cells_of_block h 1
    have e2 := cells_of_block h 2
    exact ⟨by simpa using e0, by simpa using e1, by simpa using e2, fun o => by simp [World.frozen?, h]⟩
  clear hW2 hp2 B2 AL2 hc2' HW2 HST HB5 HP5 HC5
  go_upto_region 7 with fail
  go_cut [8] from 11 (fun s8 wx => ∃ M W1 w3 vd' gk, s8 = .pointer (some ⟨M, 0, none⟩) ∧ Hid (Kb (fun b => b = p) w W1 ∧ P W1 w3 vd' ∧ wx.heap[M]? = some (.cells #[.bool d, .int .i64 wt, .slice (some ⟨gk, 0, none⟩) 1 1] 64 (0, 0)) ∧ w.heap.size ≤ M ∧ (M < W1.heap.size ∨ w3.heap.size ≤ M) ∧ Kb (fun b => b = M) w3 wx ∧ W1.heap.size ≤ gk ∧ w3.cell? ⟨gk, 0, none⟩ = some (.int .i64 xw)))
  case first =>
    go_region_with (first
      | (go_at_call 24; refine Calls.mono HC.out ?_; rintro r w3 ⟨gk, rfl, hgW, hgx, vd', hPw⟩)
      | (go_at_call 24; refine Calls.mono HCb.out ?_; rintro r w3 ⟨gk, rfl, hgW, hgx, vd', hPw⟩; have hz := HZ.out _ _ hPw; obtain ⟨f0, f1, f2, f3⟩ := HF.out _ hz; have g0 := f3 0; have g1 := f3 1; have g2 := f3 2))
    all_goals
      go_wp2_with fail
      go_meet
    case rel =>
      have h4 := (HHP.out _ _ _ hPw).2.2.1
      have h7 : W2.drew.heap.size = W2.heap.size := rfl
      exact ⟨w3.heap.size, W2.drew, w3, vd', gk, rfl, HB2.out.drew, hPw, World.alloc_heap_new _ _, by omega, Or.inr (Nat.le_refl _), kb_alloc _ _ _, hgW, hgx⟩
    all_goals exact ⟨W2.heap.size, (W2.alloc (.cells #[.bool false, .int .i64 0, .slice none 0 0] 64)).drew, w3, vd', gk, rfl, (HB2.out.alloc _).drew, hPw, three_put hz _ _ _, hs2, Or.inl (by show W2.heap.size < (W2.alloc _).heap.size; simp), kb_three _ _ _ _ _, hgW, hgx⟩
  case rest =>
  obtain ⟨M, W1, w3, vd', gk, rfl, HX⟩ := hcut
  obtain ⟨bW1, hPw, hM, hMs, hM2, kM, hgW, hgx⟩ := HX.out
  have hgs3 : gk < w3.heap.size := World.block_lt_of_cell? w3 _ hgx
  have hgc : wc.cell? ⟨gk, 0, none⟩ = some (.int .i64 xw) := by
    have hb := kM.block gk hgs3 (by omega)
    simp only [World.cell?] at hgx ⊢
    rw [hb]
    exact hgx
  obtain ⟨hp3, ho3, hs3, _⟩ := HHP.out _ _ _ hPw
  have hps3 : p < w3.heap.size := (Array.getElem?_eq_some_iff.1 hp3).1
  have hpc := (kM.block p hps3 (by omega)).trans hp3
  have hoc : wc.ownsRow (p + 1) 3 1 (.slice aw n cw) n (ws.map iV) := owns_same ho3 (fun g e => kM.block g (ho3.lt g e).2 (fun e2 => by have := HWL.out g e; omega))
  have HWK : Hid (Calls Try.prog 20 #[.pointer (some ⟨p, 0, none⟩), .int .i64 xw] wc fun r w' => r = .returned (.int .i64 (wakeN xw ws : Nat)) ∧ w'.ownsRow (p + 1) 3 1 (.slice aw n cw) n ((wakeL xw ws).map iV) ∧ Kb (fun b => (Value.slice aw n cw).ownBlock = some b) wc w') := wake_any p n xw ws _ _ _ _ _ _ _ _ (p + 1) wc hpc hoc (by omega) hn
  have m2 := cells_of_block hM 2
  simp only [List.getElem?_toArray, List.getElem?_cons_succ, List.getElem?_cons_zero] at m2
  have HHM0 : Hid (wc.heap[M]? = some (.cells #[.bool d, .int .i64 wt, .slice (some ⟨gk, 0, none⟩) 1 1] 64 (0, 0))) := hM
  have HPC0 : Hid (wc.heap[p]? = some (.cells #[vp, .slice ak nk ck, .slice (some ⟨gs, 0, none⟩) n cs, .slice aw n cw, .int .i64 (st : Nat), .int .u64 now1, vd', .int .u64 (fu' : Nat)] 83 (0, 0))) := hpc
  have HOC0 : Hid (wc.ownsRow (p + 1) 3 1 (.slice aw n cw) n (ws.map iV)) := hoc
  have HKM0 : Hid (Kb (fun b => b = M) w3 wc) := kM
  have HPW : Hid (P W1 w3 vd') := hPw
  have HBW : Hid (Kb (fun b => b = p) w W1) := bW1
  clear hM hpc hoc kM hPw bW1 HX hp3 ho3 hgx
  go_wp2_with fail
  refine wp_loop_rounds 2 ?_
  rw [rounds_succ]
  go_wp2_with fail
  refine Calls.mono HWK.out ?_
  rintro r w4 ⟨rfl, o4, k4⟩
  have hMb : ¬ (Value.slice aw n cw).ownBlock = some M := row_type HOC0.out HHM0.out (by decide)
  have hpb : ¬ (Value.slice aw n cw).ownBlock = some p := fun e => by have := (World.ownsRow.lt HOC0.out p e).1; omega
  have hM := (k4.block M (Array.getElem?_eq_some_iff.1 HHM0.out).1 hMb).trans HHM0.out
  have hpc := (k4.block p (Array.getElem?_eq_some_iff.1 HPC0.out).1 hpb).trans HPC0.out
  have hoc := o4
  have kM : Kb (fun b => b = M ∨ (Value.slice aw n cw).ownBlock = some b) w3 w4 := ((HKM0.out).mono (S' := fun b => b = M ∨ (Value.slice aw n cw).ownBlock = some b) (fun b e => Or.inl e)).trans k4 (fun b _ e => Or.inr e)
  have hwl : (wakeL xw ws).length = n := by rw [wakeL_len]; exact hwn
  obtain ⟨ws2, hws2⟩ : ∃ ws2, wakeL xw ws = ws2 := ⟨_, rfl⟩
  rw [hws2] at hoc hwl
  have HWS2 : Hid _ := hws2
  clear o4 k4 HWK hgc hws2 HKM0 HPC0 HOC0 HHM0 m2
  obtain ⟨gw, rfl, hgw, hcw⟩ := row_cell hoc (j := i) (x := .int .i64 (ws2.getD i 1)) (by rw [List.getElem?_map, getD_some (by omega)]; rfl)
  have m0 := cells_of_block hM 0
  have m1 := cells_of_block hM 1
  have m2 := cells_of_block hM 2
  simp only [List.getElem?_toArray, List.getElem?_cons_succ, List.getElem?_cons_zero] at m0 m1 m2
  have HHM : Hid _ := hM
  have HPC : Hid _ := hpc
  have HOC : Hid _ := hoc
  have HKM : Hid _ := kM
  have HWR : Hid (∀ W : World, Calls Try.prog 43 #[.agg #[.bool d, .int .i64 wt, .slice (some ⟨gk, 0, none⟩) 1 1]] W fun r w' => r = .returned (.int .i64 (restI d wt)) ∧ Below W.heap.size W w') := fun W => rest_any d wt _ W
  clear hM hpc hoc kM
  have cp3 : w4.cell? ⟨p, 3, none⟩ = some (.slice (some ⟨gw, 0, none⟩) n cw) := by have := cells_of_block HPC.out 3; simpa using this
  have hpcs : p < w4.heap.size := (Array.getElem?_eq_some_iff.1 HPC.out).1
  have HG : Hid (∀ w5, Below w4.heap.size w4 w5 → w5.cell? ⟨p, 3, none⟩ = some (.slice (some ⟨gw, 0, none⟩) n cw) ∧ w5.cell? ⟨gw, i, none⟩ = some (.int .i64 (ws2.getD i 1)) ∧ w5.frozen? ⟨gw, i, none⟩ = false ∧
      Hid ((w5.setCell ⟨gw, i, none⟩ (.int .i64 (restI d wt))).heap[p]? = some (.cells #[vp, .slice ak nk ck, .slice (some ⟨gs, 0, none⟩) n cs, .slice (some ⟨gw, 0, none⟩) n cw, .int .i64 (st : Nat), .int .u64 now1, vd', .int .u64 (fu' : Nat)] 83 (0, 0)) ∧ (w5.setCell ⟨gw, i, none⟩ (.int .i64 (restI d wt))).ownsRow (p + 1) 3 1 (.slice (some ⟨gw, 0, none⟩) n cw) n ((ws2.set i (restI d wt)).map iV) ∧ Kb (fun b => b = p ∨ (Value.slice (some ⟨gw, 0, none⟩) n cw).ownBlock = some b ∨ (w.heap.size ≤ b ∧ b < W1.heap.size)) w3 (w5.setCell ⟨gw, i, none⟩ (.int .i64 (restI d wt))))) := fun w5 b5 => by
    have ho5 : w5.ownsRow (p + 1) 3 1 (.slice (some ⟨gw, 0, none⟩) n cw) n (ws2.map iV) := owns_same HOC.out (fun g e => b5.block g (World.ownsRow.lt HOC.out g e).2)
    have hgws := (World.ownsRow.lt HOC.out gw rfl).2
    refine ⟨(b5.cell (p := ⟨p, 3, none⟩) hpcs).trans cp3, (b5.cell (p := ⟨gw, i, none⟩) hgws).trans hcw, World.ownsRow.frozenAt ho5 _, (Below.heap_setCell _ _ _ _ (by show p ≠ gw; omega)).trans ((b5.block p hpcs).trans HPC.out), ?_, ?_⟩
    · have := (World.ownsRow.stored ho5 i (.int .i64 (restI d wt))).1
      rw [List.map_set]
      exact this
    · have k1 : Kb (fun b => b = p ∨ (Value.slice (some ⟨gw, 0, none⟩) n cw).ownBlock = some b ∨ (w.heap.size ≤ b ∧ b < W1.heap.size)) w3 w4 := ⟨HKM.out.os, HKM.out.tape, HKM.out.output, HKM.out.size, fun b hb hn => HKM.out.block b hb (fun e => by
        rcases e with e | e
        · rcases hM2 with h | h
          · exact hn (Or.inr (Or.inr ⟨by omega, by omega⟩))
          · omega
        · exact hn (Or.inr (Or.inl e)))⟩
      exact (k1.trans (Kb.of_below (S := fun _ => False) b5) (fun _ _ e => e.elim)).setCell (Or.inr (Or.inl rfl)) _ _
  have hfw : w4.frozen? ⟨gw, i, none⟩ = false := World.ownsRow.frozenAt HOC.out _
  go_wp2_with fail
  rw [rounds_succ]
  go_wp2_with fail
  go_region_with (go_at_call 43; refine (HWR.out _).mono ?_; rintro r w5 ⟨rfl, b5⟩; obtain ⟨x3, xw, xf, HY⟩ := HG.out w5 ((Below.refl _ _).drew.trans b5))
  all_goals
    obtain ⟨Y, hY⟩ : ∃ Y, w5.setCell ⟨gw, i, none⟩ (.int .i64 (restI d wt)) = Y := ⟨_, rfl⟩
    rw [hY] at HY ⊢
    have y4 : Y.cell? ⟨p, 4, none⟩ = some (.int .i64 (st : Nat)) := by have := cells_of_block HY.out.1 4; simpa using this
    have z4 : Y.frozen? ⟨p, 4, none⟩ = false := by simp [World.frozen?, HY.out.1]
    clear hY x3 xw xf b5
    go_wp2_with fail
    go_ret2
    rw [HWS2.out]
    refine ⟨rfl, W1, w3, vd', HBW.out, HPW.out, block_set HY.out.1 4 _, owns_same HY.out.2.1 (fun g e => Below.heap_setCell _ _ _ _ ?_), HY.out.2.2.setCell (Or.inl rfl) _ _⟩
    show g ≠ p
    simp only [Value.ownBlock, Option.some.injEq] at e
    omega
end Go.Proofs.Ytefmhghdehokcaa
