/-
  The walk of HttpPipes.
-/
import Derived.Test.YthhhoppmbimeiaaDoorPip
namespace Go.Proofs.YthhhoppmbimeiaaDoor
open Go.RowKit
theorem all_le (l : List Rq) (k : Nat) : (allR (l.take k)).length ≤ (allR l).length := by
  have e : allR l = allR (l.take k) ++ allR (l.drop k) := by
    unfold allR okR
    rw [← List.flatMap_append, ← List.filter_append, List.take_append_drop]
  rw [e, List.length_append]
  omega
def restR (wl : List Rq) (k : Nat) (t : ByteArray) : ByteArray := bOf ((wl.drop k).flatMap (fun r => byts (prR r)) ++ byts t)
theorem rest_cons {wl : List Rq} {k : Nat} {x : Rq} (h : wl[k]? = some x) (t : ByteArray) : restR wl k t = prR x ++ restR wl (k + 1) t := by
  obtain ⟨hj, e⟩ := List.getElem?_eq_some_iff.1 h
  apply ext_list
  unfold restR
  rw [List.drop_eq_getElem_cons hj, e]
  simp [bOf, byts]
theorem rest_end {wl : List Rq} {k : Nat} (h : wl.length ≤ k) (t : ByteArray) : restR wl k t = t := by
  apply ext_list
  unfold restR
  rw [List.drop_eq_nil_of_le h]
  simp [bOf, byts]
set_option maxRecDepth 20000 in
set_option maxHeartbeats 8000000 in
theorem pipes_walk (a0 : Option Addr) (c0 : Nat) (l : List Rq) (behind : ByteArray) (m : Int) (w : World) (h : RA w a0 l) (hf : ∀ r ∈ l, FA w.heap.size w r.a r.fs) (hl : l.length ≤ 100000000) (hr : ∀ r ∈ l, rqSm r) (hall : (allR l).length ≤ 1000000000) (hbe : behind.size ≤ 140737488355328) (hm : w.cell? ⟨0, 0, none⟩ = some (.int .i64 m)) :
    Calls Tryd.prog 6 #[.slice a0 l.length c0, .string behind] w fun e w' => e = .returned (.bool true) ∧ Below w.heap.size w w' := by
  have HM : Hid (∀ W, Below w.heap.size w W → W.cell? ⟨0, 0, none⟩ = some (.int .i64 m)) := fun W b => mx_below hm b
  have H1 : Hid (∀ W, Below w.heap.size w W → _) := fun W b => lives_any m W (HM.out W b)
  have HRA : Hid (RA w a0 l) := h
  have HFR : Hid (∀ r ∈ l, FA w.heap.size w r.a r.fs) := hf
  have HSR : Hid (∀ r ∈ l, rqSm r) := hr
  have HP : Hid (∀ (r : Rq) (W : World), r ∈ l → Below w.heap.size w W → Calls Tryd.prog 17 #[rqV r] W fun e w' => e = .returned (.tuple #[.string (prR r), .int .i64 (ckR r)]) ∧ Below W.heap.size W w') := fun r W hrl b => by
    obtain ⟨s1, s2, s3, s4, s5, s6⟩ := HSR.out r hrl
    exact print_any r w.heap.size W (FA.below (HFR.out r hrl) (fun x hx => b.block x hx)) b.size s1 (by omega) (by omega) (by omega) s5 s6
  have HAL : Hid (∀ k, (allR (l.take k)).length ≤ 1000000000) := fun k => Nat.le_trans (all_le l k) hall
  have HPZ : Hid (∀ r ∈ l, (prR r).size ≤ 200000000) := fun r hrl => by
    obtain ⟨s1, s2, s3, s4, s5, s6⟩ := HSR.out r hrl
    unfold prR printR
    split
    · rw [size_app]; omega
    · exact Nat.zero_le _
  obtain ⟨n, hn⟩ : ∃ n, l.length = n := ⟨_, rfl⟩
  have HL : Hid _ := hn
  rw [hn] at hl ⊢
  clear h hf hr hm hall hn
  obtain ⟨i0, hi, hz⟩ := Option.map_eq_some_iff.1 infoRq
  simp only [Prod.mk.injEq] at hz
  obtain ⟨hz0, hz1, hz2⟩ := hz
  go_enter Tryd.func6, Tryd.ntmps6
  go_wp2_with fail
  refine (H1.out _ (Below.refl _ _)).mono ?_
  rintro e w1 ⟨rfl, b1⟩
  have HB1 : Hid (Below w.heap.size w w1) := b1
  clear b1
  go_wp2_with fail
  go_loopw [5, 6, 7] (fun s v i wr => ∃ (k N : Nat), k ≤ n ∧ s = .string (bOf (allR (l.take k))) ∧ i = .int .i64 (k : Nat) ∧ wr.ownsRow w1.heap.size 24 5 v N (flR (okR (l.take k))) ∧ Hid ((okR (l.take k)).length = N) ∧ Hid (N ≤ k) ∧ Hid (Below w1.heap.size w1 wr)) (fun _ _ i _ => n - (intOf i).toNat)
  case atStart => exact ⟨0, 0, by omega, by rw [List.take_zero]; rfl, rfl, by rw [List.take_zero]; exact World.ownsRow_nil _ _ _ _, by rw [Hid, List.take_zero]; rfl, Nat.le_refl _, Below.refl _ _⟩
  case round =>
    obtain ⟨k, N, hk, rfl, rfl, hown, HN, HNK, HBr⟩ := hrel
    obtain ⟨va, vc, rfl⟩ := row_form hown
    have HOW : Hid _ := hown
    clear hown
    have hsz : (bOf (allR (l.take k))).size ≤ 1000000000 := by rw [bOf_size]; exact HAL.out k
    have HBw : Hid (Below w.heap.size w wr) := HB1.out.trans (HBr.out.mono HB1.out.size)
    by_cases hlt : k < n
    · have hlz : (k : Int) < (n : Int) := by omega
      obtain ⟨x, hx⟩ : ∃ x, l[k]? = some x := ⟨l[k]'(by rw [HL.out]; exact hlt), List.getElem?_eq_getElem _⟩
      obtain ⟨b, off, rfl, _, x0, x1, x2, x3, x4⟩ := (HRA.out.below HBw.out) k x hx
      have HXL : Hid _ := HP.out x wr (List.mem_of_getElem? hx) HBw.out
      have hpz := HPZ.out x (List.mem_of_getElem? hx)
      have HT1 : Hid (okR (l.take (k + 1)) = okR (l.take k) ++ if ckR x = 0 then [x] else []) := okR_take hx
      have HT2 : Hid (allR (l.take (k + 1)) = allR (l.take k) ++ if ckR x = 0 then byts (prR x) else []) := allR_take hx
      have HRB : Hid (∀ V, Below wr.heap.size wr V → RA V (some ⟨b, off, none⟩) l) := fun V hV => (HRA.out.below HBw.out).below hV
      have HXK : Hid (l[k]? = some x) := hx
      obtain ⟨S, hS⟩ : ∃ S, bOf (allR (l.take k)) = S := ⟨_, rfl⟩
      have HS : Hid _ := hS
      rw [hS] at hsz ⊢
      have HX5 : Hid (rqV x = .agg #[.string x.met, .string x.tar, .slice x.a x.fs.length x.c, .string x.body, .bool x.shut]) := rfl
      rw [HX5.out] at HXL
      obtain ⟨P, hP⟩ : ∃ P, prR x = P := ⟨_, rfl⟩
      obtain ⟨T, hT⟩ : ∃ T, ckR x = T := ⟨_, rfl⟩
      rw [hP, hT] at HXL HT2
      rw [hP] at hpz
      rw [hT] at HT1
      obtain ⟨met, tar, ra, rc, fs, body, shut⟩ := x
      simp only at x0 x1 x2 x3 x4 HXL
      obtain ⟨F, hF⟩ : ∃ F, fs.length = F := ⟨_, rfl⟩
      have HF : Hid _ := hF
      rw [hF] at x2 HXL
      clear hx hS hP hT hF
      go_wp2_with fail
      refine Calls.mono HXL.out ?_
      rintro e w3 ⟨rfl, b3⟩
      obtain ⟨b', off', e', _, y0, y1, y2, y3, y4⟩ := (HRB.out _ b3) k _ HXK.out
      cases e'
      simp only at y0 y1 y2 y3 y4
      rw [HF.out] at y2
      have HB3 : Hid (Below w1.heap.size w1 w3) := HBr.out.trans (b3.mono HBr.out.size)
      have HO3 : Hid (w3.ownsRow w1.heap.size 24 5 (.slice va N vc) N (flR (okR (l.take k)))) := owns_on2 HOW.out b3
      clear b3 x0 x1 x2 x3 x4
      by_cases hT0 : T = 0
      · subst hT0
        have HSE : Hid (S ++ P = bOf (allR (l.take (k + 1)))) := by
          rw [Hid, HT2.out, if_pos rfl, ← HS.out]
          apply ext_list
          simp [bOf, byts]
        have HOE : Hid (okR (l.take (k + 1)) = okR (l.take k) ++ [(⟨met, tar, ra, rc, fs, body, shut⟩ : Rq)]) := by rw [Hid, HT1.out, if_pos rfl]
        have hra : Hid (∀ o, (w3.alloc o).ownsRow w1.heap.size 24 5 (.slice va N vc) N (flR (okR (l.take k)))) := fun o => World.ownsRow.alloc HO3.out o
        have hsz3 := HB3.out.size
        have hnk := HNK.out
        have q0 : ¬ 9223372036854775807 < S.size + P.size := by omega
        go_wp2_with (at_builtin; refine wpList_append_own _ rfl (.tmp 35) (.tmp 40) 41 rfl w1.heap.size 24 i0 zeroRq 5 80 Tryd.underlying41 hi hz0 hz1 hz2 rfl (by decide) _ _ _ rfl (hra.out _) ⟨_, 0, none⟩ 1 1 [.string met, .string tar, .slice ra F rc, .string body, .bool shut] rfl rfl (new_cells _ [.string met, .string tar, .slice ra F rc, .string body, .bool shut] _) (fun u hu => by simp only [List.mem_cons, List.not_mem_nil, or_false] at hu; rcases hu with rfl | rfl | rfl | rfl | rfl <;> rfl) (by unfold maxLen; omega) (by omega) (by simp; omega) ?_)
        intro v1 w5 hown1 hgrow _
        obtain ⟨a1, cap1, rfl⟩ := row_form hown1
        have HR5 : Hid (w5.ownsRow w1.heap.size 24 5 (.slice a1 (N + 1) cap1) (N + 1) (flR (okR (l.take (k + 1))))) := by
          rw [Hid, HOE.out, flR_app]
          have e : flR [(⟨met, tar, ra, rc, fs, body, shut⟩ : Rq)] = [.string met, .string tar, .slice ra F rc, .string body, .bool shut] := by rw [flR_cons]; show rqL _ ++ [] = _; rw [List.append_nil, rqL, HF.out]
          rw [e]
          exact hown1
        have HB5 : Hid (Below w1.heap.size w1 w5) := (HB3.out.alloc hsz3 _).grown hgrow (by simp; omega) (fun i hi => (World.ownsRow.lt HO3.out i hi).1)
        have HNN : Hid ((okR (l.take (k + 1))).length = N + 1) := by rw [Hid, HOE.out, List.length_append, HN.out]; rfl
        clear hown1 hgrow
        go_wp2_with fail
        go_roundw
        case rel => exact ⟨k + 1, N + 1, by omega, by rw [HSE.out], by go_num, HR5.out, HNN.out, by rw [Hid]; omega, HB5.out⟩
        case measure => simp [intOf]; omega
      · have y5 : (T == 0) = false := by simp [hT0]
        have HSE : Hid (S = bOf (allR (l.take (k + 1)))) := by rw [Hid, HT2.out, if_neg hT0, List.append_nil]; exact HS.out.symm
        have HOE : Hid (okR (l.take (k + 1)) = okR (l.take k)) := by rw [Hid, HT1.out, if_neg hT0, List.append_nil]
        have HR5 : Hid (w3.ownsRow w1.heap.size 24 5 (.slice va N vc) N (flR (okR (l.take (k + 1))))) := by rw [Hid, HOE.out]; exact HO3.out
        have HNN : Hid ((okR (l.take (k + 1))).length = N) := by rw [Hid, HOE.out]; exact HN.out
        go_wp2_with fail
        go_roundw
        case rel => exact ⟨k + 1, N, by omega, by rw [HSE.out], by go_num, HR5.out, HNN.out, by have := HNK.out; rw [Hid]; omega, HB3.out⟩
        case measure => simp [intOf]; omega
    · have hlz : ¬ (k : Int) < (n : Int) := by omega
      obtain rfl : k = n := by omega
      have hta : l.take k = l := List.take_of_length_le (by rw [HL.out]; exact Nat.le_refl _)
      rw [hta] at HOW HN hsz ⊢
      have HSE : Hid (bOf (allR l) ++ behind = restR (okR l) 0 behind) := by
        rw [Hid]
        apply ext_list
        simp [restR, allR, bOf, byts]
      obtain ⟨wl, hwl⟩ : ∃ wl, okR l = wl := ⟨_, rfl⟩
      have HWL : Hid (∀ r ∈ wl, r ∈ l ∧ ckR r = 0) := fun r hr => by rw [← hwl] at hr; exact fil_mem hr
      rw [hwl] at HOW HN HSE
      have HRW : Hid (RA wr va wl) := by have := HOW.out; rw [← HN.out] at this; exact ra_row this
      have HRS : Hid (∀ k, (restR wl k behind).size ≤ 1000000000 + 140737488355328) := fun k => by
        unfold restR
        rw [bOf_size, List.length_append, show (byts behind).length = behind.size from size_list' behind]
        have h9 : ((wl.drop k).flatMap fun r => byts (prR r)).length ≤ (allR l).length := by
          unfold allR
          rw [hwl]
          conv => rhs; rw [← List.take_append_drop k wl, List.flatMap_append, List.length_append]
          omega
        have := HAL.out l.length
        rw [List.take_length] at this
        omega
      obtain ⟨S, hS⟩ : ∃ S, bOf (allR l) = S := ⟨_, rfl⟩
      rw [hS] at HSE hsz ⊢
      have q0 : ¬ 9223372036854775807 < S.size + behind.size := by omega
      clear hta hwl hS
      go_wp2_with fail
      have hN8 : N ≤ 100000000 := by have := HNK.out; omega
      obtain ⟨w8, rfl⟩ : ∃ w8, w8 = wr := ⟨_, rfl⟩
      go_loopw [5, 10] (fun s i wq => ∃ k : Nat, k ≤ N ∧ s = .string (restR wl k behind) ∧ i = .int .i64 (k : Nat) ∧ Hid (Below w8.heap.size w8 wq)) (fun _ i _ => N - (intOf i).toNat)
      case atStart => exact ⟨0, by omega, by rw [HSE.out], rfl, Below.refl _ _⟩
      case round =>
        obtain ⟨k, hk2, rfl, rfl, HBq⟩ := hrel
        have HBW2 : Hid (Below w.heap.size w wr) := HBw.out.trans (HBq.out.mono HBw.out.size)
        by_cases hlt : k < N
        · have hlz : (k : Int) < (N : Int) := by omega
          obtain ⟨x, hx⟩ : ∃ x, wl[k]? = some x := ⟨wl[k]'(by rw [HN.out]; exact hlt), List.getElem?_eq_getElem _⟩
          obtain ⟨hxl, hxc⟩ := HWL.out x (List.mem_of_getElem? hx)
          have hre := rest_cons hx behind
          have hrs := HRS.out k
          have hpos := pr_pos hxc
          have hps : (prR x).size ≤ (restR wl k behind).size := by rw [hre, size_app]; omega
          have HDR : Hid ((restR wl k behind).extract (prR x).size (restR wl k behind).size = restR wl (k + 1) behind) := by rw [Hid, hre]; exact app_drop _ _
          have H8 : Hid (Calls Tryd.prog 8 #[.string (restR wl k behind)] wr fun e w' => ∃ xa xc, e = .returned (.tuple #[.agg #[.string x.met, .string x.tar, .slice xa x.fs.length xc, .string x.body, .bool x.shut], .int .i64 ((prR x).size : Nat), .int .i64 0]) ∧ FA w'.heap.size w' xa x.fs ∧ Below wr.heap.size wr w') := by
            rw [hre] at hrs ⊢
            refine (parse_any (prR x ++ restR wl (k + 1) behind) m wr (by omega) (HM.out wr HBW2.out)).mono ?_
            rw [parse_pr hxc]
            rintro e w' ⟨xa, xc, rfl, hf, hb⟩
            exact ⟨xa, xc, rfl, hf, hb⟩
          have HFX : Hid (FA w.heap.size w x.a x.fs) := HFR.out x hxl
          have hfl := (HSR.out x hxl).1.1
          have HXK : Hid (wl[k]? = some x) := hx
          obtain ⟨P, hP⟩ : ∃ P, (prR x).size = P := ⟨_, rfl⟩
          obtain ⟨S, hS⟩ : ∃ S, restR wl k behind = S := ⟨_, rfl⟩
          rw [hP] at hpos hps HDR H8
          rw [hS] at hps HDR H8 hrs ⊢
          obtain ⟨met, tar, ra, rc, fs, body, shut⟩ := x
          simp only at H8 HFX hfl
          obtain ⟨F, hF⟩ : ∃ F, fs.length = F := ⟨_, rfl⟩
          have HF : Hid _ := hF
          have HSQ : Hid (∀ (xa : Option Addr) (xc B : Nat) (V : World), FA B V xa fs → FA B V ra fs → B ≤ V.heap.size → _) := fun xa xc B V q1 q2 q3 => same_eq met tar body shut fs xa ra xc rc B V q1 q2 q3 hfl
          simp only [rqV] at HSQ
          rw [hF] at H8 HSQ
          clear hx hre hP hS hF hxl hxc hfl
          have q1 : decide ((P : Int) < 1) = false := by simp; omega
          have q2 : decide ((S.size : Int) < (P : Int)) = false := by simp; omega
          have q3 : (P : Int) ≤ (S.size : Int) := by omega
          have q4 : (0 : Int) ≤ (P : Int) := by omega
          have HPS : Hid (P ≤ S.size) := hps
          have HPO : Hid (1 ≤ P) := hpos
          clear hpos hps
          go_wp2_with fail
          refine Calls.mono H8.out ?_
          rintro e w5 ⟨xa, xc, rfl, hf5, b5⟩
          obtain ⟨W6, hW6⟩ : ∃ W6, w5.alloc (.cells #[.string met, .string tar, .slice xa F xc, .string body, .bool shut] 24) = W6 := ⟨_, rfl⟩
          have HA6 : Hid (Below w5.heap.size w5 W6) := by rw [Hid, ← hW6]; exact (Below.refl _ _).alloc (Nat.le_refl _) _
          have HX6 : Hid (RB W6 w5.heap.size met tar (.slice xa F xc) body shut) := by rw [Hid, ← hW6]; exact block_alloc_at _ _
          have HB86 : Hid (Below w8.heap.size w8 W6) := (HBq.out.trans (b5.mono HBq.out.size)).trans (HA6.out.mono (Nat.le_trans HBq.out.size b5.size))
          have HBW6 : Hid (Below w.heap.size w W6) := HBw.out.trans (HB86.out.mono HBw.out.size)
          have HFX6 : Hid (FA W6.heap.size W6 xa fs) := (FA.below hf5 (fun b hb => HA6.out.block b hb)).up HA6.out.size
          have HFR6 : Hid (FA W6.heap.size W6 ra fs) := (FA.below HFX.out (fun b hb => HBW6.out.block b hb)).up HBW6.out.size
          obtain ⟨b, off, rfl, hbl, z0, z1, z2, z3, z4⟩ := (HRW.out.below HB86.out) k _ HXK.out
          simp only at z0 z1 z2 z3 z4
          rw [HF.out] at z2
          have HTR : Hid (∀ A B, Below W6.heap.size W6 A → Below A.heap.size A B → Below W6.heap.size W6 B) := fun A B h1 h2 => h1.trans (h2.mono h1.size)
          have HSS : Hid (∀ V, Below W6.heap.size W6 V → V.cell? ⟨w5.heap.size, 0, none⟩ = some (.string met) ∧ V.cell? ⟨w5.heap.size, 1, none⟩ = some (.string tar) ∧ V.cell? ⟨w5.heap.size, 2, none⟩ = some (.slice xa F xc) ∧ V.cell? ⟨w5.heap.size, 3, none⟩ = some (.string body) ∧ V.cell? ⟨w5.heap.size, 4, none⟩ = some (.bool shut) ∧ V.cell? ⟨b, off + k * 5, none⟩ = some (.string met) ∧ V.cell? ⟨b, off + k * 5 + 1, none⟩ = some (.string tar) ∧ V.cell? ⟨b, off + k * 5 + 2, none⟩ = some (.slice ra F rc) ∧ V.cell? ⟨b, off + k * 5 + 3, none⟩ = some (.string body) ∧ V.cell? ⟨b, off + k * 5 + 4, none⟩ = some (.bool shut)) := fun V hV => by
            have e : ∀ o, V.cell? ⟨b, o, none⟩ = W6.cell? ⟨b, o, none⟩ := fun o => World.cell?_of_block (hV.block b hbl)
            exact ⟨(HX6.out.below hV).box.1, (HX6.out.below hV).box.2.1, (HX6.out.below hV).box.2.2.1, (HX6.out.below hV).box.2.2.2.1, (HX6.out.below hV).box.2.2.2.2, (e _).trans z0, (e _).trans z1, (e _).trans z2, (e _).trans z3, (e _).trans z4⟩
          have HSM : Hid (∀ V, Below W6.heap.size W6 V → _) := fun V hV => HSQ.out xa xc W6.heap.size V (FA.below HFX6.out (fun b hb => hV.block b hb)) (FA.below HFR6.out (fun b hb => hV.block b hb)) hV.size
          have HBZ : Hid (∀ V, Below W6.heap.size W6 V → Below w8.heap.size w8 V) := fun V hV => HB86.out.trans (hV.mono HB86.out.size)
          have bd : Below W6.heap.size W6 W6.drew := below_drew (Below.refl _ _)
          have sd := HSS.out _ bd
          clear hf5 b5 z0 z1 z2 z3 z4 hbl
          go_wp2_with fail
          try rw [hW6]
          clear hW6
          refine wp_region_held_drew (S := (fun W => W.cell? ⟨w5.heap.size, 0, none⟩ = some (.string met) ∧ W.cell? ⟨w5.heap.size, 1, none⟩ = some (.string tar) ∧ W.cell? ⟨w5.heap.size, 2, none⟩ = some (.slice xa F xc) ∧ W.cell? ⟨w5.heap.size, 3, none⟩ = some (.string body) ∧ W.cell? ⟨w5.heap.size, 4, none⟩ = some (.bool shut) ∧ W.cell? ⟨b, off + k * 5, none⟩ = some (.string met) ∧ W.cell? ⟨b, off + k * 5 + 1, none⟩ = some (.string tar) ∧ W.cell? ⟨b, off + k * 5 + 2, none⟩ = some (.slice ra F rc) ∧ W.cell? ⟨b, off + k * 5 + 3, none⟩ = some (.string body) ∧ W.cell? ⟨b, off + k * 5 + 4, none⟩ = some (.bool shut))) (by kernel_rfl) sd (fun hHeld => ?_)
          refine wpAnyH_take (i := 0) (oi := ({ dst := some 57, op := Op.move (Operand.tmp 13), type := 25, pos := "law.go:117", after := #[], guard := none } : Oper)) (v := ?_) rfl (by kernel_rfl) (by kernel_rfl) (by kernel_rfl) (fun _ _ _ h => h) (Or.inl ⟨by rfl, ?_⟩) (by assumption) ?_
          rotate_left
          · (intro w hSw; (try dsimp only at hSw); go_simp; try with_reducible rfl)
          try simp only [Act.put, List.setIfInBounds_toArray, List.set_cons_zero, List.set_cons_succ]
          refine wpAnyH_take (i := 1) (oi := ({ dst := some 58, op := Op.binOp BinOp.neq 25 (Operand.tmp 57) (Operand.const (Value.int IntKind.i64 0)) 25, type := 4, pos := "law.go:117", after := #[{ on := 0, ground := Ground.data }], guard := none } : Oper)) (v := ?_) rfl (by kernel_rfl) (by kernel_rfl) (by kernel_rfl) (fun _ _ _ h => h) (Or.inl ⟨by rfl, ?_⟩) (by assumption) ?_
          rotate_left
          · (intro w hSw; (try dsimp only at hSw); go_simp; try with_reducible rfl)
          try simp only [Act.put, List.setIfInBounds_toArray, List.set_cons_zero, List.set_cons_succ]
          refine wpAnyH_take (i := 2) (oi := ({ dst := some 59, op := Op.move (Operand.tmp 58), type := 4, pos := "law.go:117", after := #[{ on := 1, ground := Ground.data }], guard := none } : Oper)) (v := ?_) rfl (by kernel_rfl) (by kernel_rfl) (by kernel_rfl) (fun _ _ _ h => h) (Or.inl ⟨by rfl, ?_⟩) (by assumption) ?_
          rotate_left
          · (intro w hSw; (try dsimp only at hSw); go_simp; try with_reducible rfl)
          try simp only [Act.put, List.setIfInBounds_toArray, List.set_cons_zero, List.set_cons_succ]
          refine wpAnyH_take (i := 3) (oi := ({ dst := some 60, op := Op.load 24 (Operand.tmp 11), type := 24, pos := "law.go:117", after := #[{ on := 2, ground := Ground.guard }], guard := some (2, false) } : Oper)) (v := ?_) rfl (by kernel_rfl) (by kernel_rfl) (by kernel_rfl) (fun _ _ _ h => h) (Or.inl ⟨by rfl, ?_⟩) (by assumption) ?_
          rotate_left
          · (intro w hSw; (try dsimp only at hSw); go_simp; try with_reducible rfl)
          try simp only [Act.put, List.setIfInBounds_toArray, List.set_cons_zero, List.set_cons_succ]
          refine wpAnyH_take (i := 4) (oi := ({ dst := some 61, op := Op.move (Operand.tmp 6), type := 41, pos := "law.go:117", after := #[{ on := 2, ground := Ground.guard }], guard := some (2, false) } : Oper)) (v := ?_) rfl (by kernel_rfl) (by kernel_rfl) (by kernel_rfl) (fun _ _ _ h => h) (Or.inl ⟨by rfl, ?_⟩) (by assumption) ?_
          rotate_left
          · (intro w hSw; (try dsimp only at hSw); go_simp; try with_reducible rfl)
          try simp only [Act.put, List.setIfInBounds_toArray, List.set_cons_zero, List.set_cons_succ]
          refine wpAnyH_take (i := 5) (oi := ({ dst := some 62, op := Op.move (Operand.tmp 10), type := 3, pos := "law.go:117", after := #[{ on := 2, ground := Ground.guard }], guard := some (2, false) } : Oper)) (v := ?_) rfl (by kernel_rfl) (by kernel_rfl) (by kernel_rfl) (fun _ _ _ h => h) (Or.inl ⟨by rfl, ?_⟩) (by assumption) ?_
          rotate_left
          · (intro w hSw; (try dsimp only at hSw); go_simp; try with_reducible rfl)
          try simp only [Act.put, List.setIfInBounds_toArray, List.set_cons_zero, List.set_cons_succ]
          refine wpAnyH_take (i := 6) (oi := ({ dst := some 63, op := Op.indexAddr 41 (Operand.tmp 61) (Operand.tmp 62), type := 0, pos := "law.go:117", after := #[{ on := 4, ground := Ground.data }, { on := 5, ground := Ground.data }, { on := 2, ground := Ground.guard }], guard := some (2, false) } : Oper)) (v := ?_) rfl (by kernel_rfl) (by kernel_rfl) (by kernel_rfl) (fun _ _ _ h => h) (Or.inl ⟨by rfl, ?_⟩) (by assumption) ?_
          rotate_left
          · (intro w hSw; (try dsimp only at hSw); go_simp; try with_reducible rfl)
          try simp only [Act.put, List.setIfInBounds_toArray, List.set_cons_zero, List.set_cons_succ]
          refine wpAnyH_take (i := 7) (oi := ({ dst := some 64, op := Op.load 24 (Operand.tmp 63), type := 24, pos := "law.go:117", after := #[{ on := 6, ground := Ground.data }, { on := 2, ground := Ground.guard }], guard := some (2, false) } : Oper)) (v := ?_) rfl (by kernel_rfl) (by kernel_rfl) (by kernel_rfl) (fun _ _ _ h => h) (Or.inl ⟨by rfl, ?_⟩) (by assumption) ?_
          rotate_left
          · (intro w hSw; (try dsimp only at hSw); go_simp; try with_reducible rfl)
          try simp only [Act.put, List.setIfInBounds_toArray, List.set_cons_zero, List.set_cons_succ]
          refine wpAnyH_ready (rs := [8]) (by kernel_rfl) (by simp) ?_
          refine AllReadyH.cons rfl (fun K hK => ?_) AllReadyH.nil
          go_simp
          go_wp2_with (go_at_call 11; refine Calls.mono (HSM.out _ (by assumption)) ?_; rintro e wa ⟨rfl, ka⟩; have ba := HTR.out _ _ (by assumption) ka; have sa := HSS.out _ ba; clear ka)
          refine hK.out _ _ (by first | assumption | go_keep) (fun hHeld => ?_)
          clear hK K
          refine wpAnyH_take (i := 9) (oi := ({ dst := some 66, op := Op.unOp UnOp.not 4 (Operand.tmp 65), type := 4, pos := "law.go:117", after := #[{ on := 8, ground := Ground.data }, { on := 2, ground := Ground.guard }], guard := some (2, false) } : Oper)) (v := ?_) rfl (by kernel_rfl) (by kernel_rfl) (by kernel_rfl) (fun _ _ _ h => h) (Or.inl ⟨by rfl, ?_⟩) (by assumption) ?_
          rotate_left
          · (intro w hSw; (try dsimp only at hSw); go_simp; try with_reducible rfl)
          try simp only [Act.put, List.setIfInBounds_toArray, List.set_cons_zero, List.set_cons_succ]
          refine wpAnyH_take (i := 10) (oi := ({ dst := some 67, op := Op.pick (Operand.tmp 59) (Operand.const (Value.bool true)) (Operand.tmp 66), type := 4, pos := "law.go:117", after := #[{ on := 2, ground := Ground.data }, { on := 9, ground := Ground.data }], guard := none } : Oper)) (v := ?_) rfl (by kernel_rfl) (by kernel_rfl) (by kernel_rfl) (fun _ _ _ h => h) (Or.inl ⟨by rfl, ?_⟩) (by assumption) ?_
          rotate_left
          · (intro w hSw; (try dsimp only at hSw); go_simp; try with_reducible rfl)
          try simp only [Act.put, List.setIfInBounds_toArray, List.set_cons_zero, List.set_cons_succ]
          refine wpAnyH_take (i := 11) (oi := ({ dst := some 68, op := Op.move (Operand.tmp 67), type := 4, pos := "law.go:117", after := #[{ on := 10, ground := Ground.data }, { on := 8, ground := Ground.chain }], guard := none } : Oper)) (v := ?_) rfl (by kernel_rfl) (by kernel_rfl) (by kernel_rfl) (fun _ _ _ h => h) (Or.inl ⟨by rfl, ?_⟩) (by assumption) ?_
          rotate_left
          · (intro w hSw; (try dsimp only at hSw); go_simp; try with_reducible rfl)
          try simp only [Act.put, List.setIfInBounds_toArray, List.set_cons_zero, List.set_cons_succ]
          refine wpAnyH_take (i := 12) (oi := ({ dst := some 69, op := Op.move (Operand.tmp 12), type := 3, pos := "law.go:117", after := #[{ on := 11, ground := Ground.guard }], guard := some (11, false) } : Oper)) (v := ?_) rfl (by kernel_rfl) (by kernel_rfl) (by kernel_rfl) (fun _ _ _ h => h) (Or.inl ⟨by rfl, ?_⟩) (by assumption) ?_
          rotate_left
          · (intro w hSw; (try dsimp only at hSw); go_simp; try with_reducible rfl)
          try simp only [Act.put, List.setIfInBounds_toArray, List.set_cons_zero, List.set_cons_succ]
          refine wpAnyH_take (i := 13) (oi := ({ dst := some 70, op := Op.binOp BinOp.lss 3 (Operand.tmp 69) (Operand.const (Value.int IntKind.i64 1)) 3, type := 4, pos := "law.go:117", after := #[{ on := 12, ground := Ground.data }, { on := 11, ground := Ground.guard }], guard := some (11, false) } : Oper)) (v := ?_) rfl (by kernel_rfl) (by kernel_rfl) (by kernel_rfl) (fun _ _ _ h => h) (Or.inl ⟨by rfl, ?_⟩) (by assumption) ?_
          rotate_left
          · (intro w hSw; (try dsimp only at hSw); go_simp; try with_reducible rfl)
          try simp only [Act.put, List.setIfInBounds_toArray, List.set_cons_zero, List.set_cons_succ]
          refine wpAnyH_take (i := 14) (oi := ({ dst := some 71, op := Op.pick (Operand.tmp 68) (Operand.const (Value.bool true)) (Operand.tmp 70), type := 4, pos := "law.go:117", after := #[{ on := 11, ground := Ground.data }, { on := 13, ground := Ground.data }], guard := none } : Oper)) (v := ?_) rfl (by kernel_rfl) (by kernel_rfl) (by kernel_rfl) (fun _ _ _ h => h) (Or.inl ⟨by rfl, ?_⟩) (by assumption) ?_
          rotate_left
          · (intro w hSw; (try dsimp only at hSw); go_simp; try with_reducible rfl)
          try simp only [Act.put, List.setIfInBounds_toArray, List.set_cons_zero, List.set_cons_succ]
          refine wpAnyH_take (i := 15) (oi := ({ dst := some 72, op := Op.move (Operand.tmp 71), type := 4, pos := "law.go:117", after := #[{ on := 14, ground := Ground.data }, { on := 11, ground := Ground.chain }], guard := none } : Oper)) (v := ?_) rfl (by kernel_rfl) (by kernel_rfl) (by kernel_rfl) (fun _ _ _ h => h) (Or.inl ⟨by rfl, ?_⟩) (by assumption) ?_
          rotate_left
          · (intro w hSw; (try dsimp only at hSw); go_simp; try with_reducible rfl)
          try simp only [Act.put, List.setIfInBounds_toArray, List.set_cons_zero, List.set_cons_succ]
          refine wpAnyH_take (i := 16) (oi := ({ dst := some 73, op := Op.move (Operand.tmp 12), type := 3, pos := "law.go:117", after := #[{ on := 15, ground := Ground.guard }], guard := some (15, false) } : Oper)) (v := ?_) rfl (by kernel_rfl) (by kernel_rfl) (by kernel_rfl) (fun _ _ _ h => h) (Or.inl ⟨by rfl, ?_⟩) (by assumption) ?_
          rotate_left
          · (intro w hSw; (try dsimp only at hSw); go_simp; try with_reducible rfl)
          try simp only [Act.put, List.setIfInBounds_toArray, List.set_cons_zero, List.set_cons_succ]
          refine wpAnyH_take (i := 17) (oi := ({ dst := some 74, op := Op.move (Operand.tmp 5), type := 9, pos := "law.go:117", after := #[{ on := 15, ground := Ground.guard }], guard := some (15, false) } : Oper)) (v := ?_) rfl (by kernel_rfl) (by kernel_rfl) (by kernel_rfl) (fun _ _ _ h => h) (Or.inl ⟨by rfl, ?_⟩) (by assumption) ?_
          rotate_left
          · (intro w hSw; (try dsimp only at hSw); go_simp; try with_reducible rfl)
          try simp only [Act.put, List.setIfInBounds_toArray, List.set_cons_zero, List.set_cons_succ]
          refine wpAnyH_take (i := 18) (oi := ({ dst := some 75, op := Op.call { callee := Callee.builtin Builtin.len, args := #[Operand.tmp 74], argTypes := #[9] }, type := 3, pos := "law.go:117", after := #[{ on := 17, ground := Ground.data }, { on := 15, ground := Ground.guard }], guard := some (15, false) } : Oper)) (v := ?_) rfl (by kernel_rfl) (by kernel_rfl) (by kernel_rfl) (fun _ _ _ h => h) (Or.inl ⟨by rfl, ?_⟩) (by assumption) ?_
          rotate_left
          · (intro w hSw; (try dsimp only at hSw); go_simp; try with_reducible rfl)
          try simp only [Act.put, List.setIfInBounds_toArray, List.set_cons_zero, List.set_cons_succ]
          refine wpAnyH_take (i := 19) (oi := ({ dst := some 76, op := Op.binOp BinOp.gtr 3 (Operand.tmp 73) (Operand.tmp 75) 3, type := 4, pos := "law.go:117", after := #[{ on := 16, ground := Ground.data }, { on := 18, ground := Ground.data }, { on := 15, ground := Ground.guard }], guard := some (15, false) } : Oper)) (v := ?_) rfl (by kernel_rfl) (by kernel_rfl) (by kernel_rfl) (fun _ _ _ h => h) (Or.inl ⟨by rfl, ?_⟩) (by assumption) ?_
          rotate_left
          · (intro w hSw; (try dsimp only at hSw); go_simp; try with_reducible rfl)
          try simp only [Act.put, List.setIfInBounds_toArray, List.set_cons_zero, List.set_cons_succ]
          refine wpAnyH_take (i := 20) (oi := ({ dst := some 77, op := Op.pick (Operand.tmp 72) (Operand.const (Value.bool true)) (Operand.tmp 76), type := 4, pos := "law.go:117", after := #[{ on := 15, ground := Ground.data }, { on := 19, ground := Ground.data }], guard := none } : Oper)) (v := ?_) rfl (by kernel_rfl) (by kernel_rfl) (by kernel_rfl) (fun _ _ _ h => h) (Or.inl ⟨by rfl, ?_⟩) (by assumption) ?_
          rotate_left
          · (intro w hSw; (try dsimp only at hSw); go_simp; try with_reducible rfl)
          try simp only [Act.put, List.setIfInBounds_toArray, List.set_cons_zero, List.set_cons_succ]
          refine wpAnyH_done (by kernel_rfl) ?_ _
          have HBa : Hid (Below w8.heap.size w8 wa) := HBZ.out _ (by assumption)
          go_wp2_with fail
          go_roundw
          case rel => exact ⟨k + 1, by omega, by rw [HDR.out], by go_num, HBa.out⟩
          case measure => simp [intOf]; omega
        · have hlz : ¬ (k : Int) < (N : Int) := by omega
          have HRE : Hid (restR wl k behind = behind) := rest_end (by rw [HN.out]; omega) behind
          rw [HRE.out]
          have q1 : (behind.toList == behind.toList) = true := by simp
          go_wp2_with fail
          go_ret
          exact ⟨rfl, HBW2.out⟩
end Go.Proofs.YthhhoppmbimeiaaDoor
