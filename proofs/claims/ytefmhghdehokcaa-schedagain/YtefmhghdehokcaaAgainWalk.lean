/-
  The walk of SchedAgain: whatever the timing, tasks and number of steps, the call returns true, and turns nothing that was there.
-/
import Derived.Test.YtefmhghdehokcaaAgainM
namespace Go.Proofs.Ytefmhghdehokcaa
open Go.RowKit
set_option maxRecDepth 100000 in
set_option maxHeartbeats 8000000 in
theorem again_walk (ap ak ad a : Option Addr) (np nk nd n cp ck cd c : Nat) (most : Int) (picks ticks draws : List Int) (tv : List (Value × List (Int × Int))) (w : World) (hp : Arg w ap np cp (picks.map iV)) (hk : Arg w ak nk ck (ticks.map iV)) (hd : Arg w ad nd cd (draws.map nV))
    (hT : VA w.heap.size w a (tv.map (·.1))) (hn : tv.length = n) (hA : ∀ x ∈ tv, TaskArg w x.1 x.2 ∧ (∀ a n c, x.1 = .slice a n c → a = none → c = 0 ∧ n = 0) ∧ x.2.length * 16 ≤ 140737488355328) (hn2 : n ≤ 9223372036854775807) :
    Calls Try.prog 4 #[.agg #[.slice ap np cp, .slice ak nk ck, .slice ad nd cd], .slice a n c, .int .i64 most] w fun r w' => r = .returned (.bool true) ∧ Below w.heap.size w w' := by
  have A0 : Below w.heap.size w (w.alloc (.cells #[.slice ap np cp, .slice ak nk ck, .slice ad nd cd] 25)) := (Below.refl _ w).alloc (Nat.le_refl _) _
  have k0 : (w.alloc (.cells #[.slice ap np cp, .slice ak nk ck, .slice ad nd cd] 25)).heap[w.heap.size]? = some (.cells #[.slice ap np cp, .slice ak nk ck, .slice ad nd cd] 25 (0, 0)) := World.alloc_heap_new _ _
  have HA0 : Hid _ := A0
  have HK0 : Hid _ := k0
  have HT : Hid _ := hT
  have HN : Hid _ := hn
  have HA : Hid _ := hA
  by_cases hchk : chkT picks ticks nd = 0
  · have HS : Hid (∀ W, Below w.heap.size w W → Calls Try.prog 9 #[.agg #[.slice ap np cp, .slice ak nk ck, .slice ad nd cd]] W fun r w' => ∃ b p x S, r = .returned (.tuple #[.pointer (some ⟨b, 0, none⟩), .bool true]) ∧ BX w' b p x (.slice none 0 0) (.slice none 0 0) S ∧ S.ps = P0 picks ticks draws ∧ LoS W.heap.size S ∧ (∀ k, GF b p x (.slice none 0 0) (.slice none 0 0) S k → p ≤ k ∧ k < w'.heap.size) ∧ W.heap.size ≤ p ∧ Below W.heap.size W w') := fun W k => start_bx ap ak ad np nk nd cp ck cd picks ticks draws W (hp.below k) (hk.below k) (hd.below k) hchk
    have HBD : Hid (Bd (P0 picks ticks draws)) := by
      obtain ⟨g1, g2, g3⟩ := pk_of hchk
      exact P0_bd g1 g2 (by have := hd.1; rw [List.length_map] at this; omega)
    clear hp hk hd hT hn hA hchk A0 k0
    go_enter Try.func4, Try.ntmps4
    go_wp2_with fail
    refine Calls.mono (HS.out _ HA0.out) ?_
    rintro e w1 ⟨b, p, x, S1, rfl, X1, q1, lo1, gf1, hp1, B1⟩
    obtain ⟨g1, c10, c11, c12⟩ := box3 HK0.out B1
    have HB1 : Hid (Below w.heap.size w w1) := HA0.out.trans (B1.mono HA0.out.size)
    have hp1' : w.heap.size ≤ p := by have := HA0.out.size; omega
    have HX1 : Hid (BX w1 b p x (.slice none 0 0) (.slice none 0 0) S1) := X1
    have HQ1 : Hid _ := q1
    have HL1 : Hid (LoS (w.alloc (.cells #[.slice ap np cp, .slice ak nk ck, .slice ad nd cd] 25)).heap.size S1) := lo1
    have HG1 : Hid _ := gf1
    clear X1 q1 lo1 gf1 B1 hp1 g1
    go_wp2_with fail
    refine Calls.mono (HS.out w1 HB1.out) ?_
    rintro e w2 ⟨b', p', x', S2, rfl, X2, q2, lo2, gf2, hp2, B2⟩
    have HTW : Hid (TwA w2 b p x b' p' x' 0) := by
      have hpw := HX1.out.la.ps
      refine ⟨_, _, S1, _, _, _, S2, _, { one := HX1.out.below B2, two := X2, l1 := HL1.out, l2 := lo2, dis := fun k e1 e2 => ?_, d1 := fun k e1 e2 => ?_, d2 := fun k e1 e2 => ?_ }, by rw [q2, HQ1.out], by rw [HQ1.out]; exact HBD.out, ?_⟩
      · have := (HG1.out k e1).2
        have := (gf2 k e2).1
        omega
      · have := (HG1.out k e1).2
        omega
      · have := (gf2 k e1).1
        omega
      · have h1 : S1.ps.steps = 0 := by rw [HQ1.out]; rfl
        have h2 : S1.ps.steps = S1.steps := rfl
        omega
    have HB2 : Hid (Below w.heap.size w w2) := HB1.out.trans (B2.mono HB1.out.size)
    have hp2' : w.heap.size ≤ p' := by have := HB1.out.size; omega
    clear X2 q2 lo2 gf2 B2 hp2 HX1 HQ1 HL1 HG1 HS HB1 c10 c11 c12
    go_wp2_with fail
    go_loopw [11] (fun s wr => ∃ i : Nat, i ≤ n ∧ s = .int .i64 (i : Nat) ∧ Hid (TwA wr b p x b' p' x' 0) ∧ Hid (Below w.heap.size w wr)) (fun s _ => n - (intOf s).toNat)
    case atStart => exact ⟨0, by omega, rfl, HTW.out, HB2.out⟩
    case round =>
      clear HTW HB2
      obtain ⟨i, hi, rfl, HTi, HBi⟩ := hrel
      by_cases hin : i < n
      · obtain ⟨⟨vi, la⟩, hti⟩ : ∃ t, tv[i]? = some t := ⟨tv[i]'(by rw [HN.out]; exact hin), List.getElem?_eq_getElem _⟩
        obtain ⟨gt, ot, rfl, hgt, ci⟩ := HT.out i vi (by rw [List.getElem?_map, hti]; rfl)
        obtain ⟨hta, htz, htl⟩ := HA.out _ (List.mem_of_getElem? hti)
        obtain ⟨ai, cpi, hvi, hcells⟩ := id hta
        have hvi' : vi = .slice ai la.length cpi := hvi
        subst hvi'
        obtain ⟨li, hli⟩ : ∃ li, la.length = li := ⟨_, rfl⟩
        have HSR : Hid (∀ W, Below w.heap.size w W → Src W (.slice ai li cpi) la) := fun W k => by rw [← hli]; exact src_task (TaskArg.below hta k) htz
        have HTL : Hid _ := htl
        rw [hli] at ci
        have ci2 : wr.cell? ⟨gt, ot + i, none⟩ = some (.slice ai li cpi) := (HBi.out.cell (p := ⟨gt, ot + i, none⟩) hgt).trans ci
        have HCI : Hid (w.cell? ⟨gt, ot + i, none⟩ = some (.slice ai li cpi)) := ci
        have HAD : Hid _ := tw_add (.slice ai li cpi) la HTi.out HTL.out (HSR.out wr HBi.out)
        clear hta htz htl hvi hcells hti hli ci
        go_wp2_with fail
        refine Calls.mono HAD.out ?_
        rintro e w3 ⟨rfl, b3, h3⟩
        have HB3 : Hid (Below w.heap.size w w3) := HBi.out.trans (b3.mono hp1')
        have H3 : Hid _ := h3 (HSR.out w3 HB3.out)
        have ci3 : w3.cell? ⟨gt, ot + i, none⟩ = some (.slice ai li cpi) := (HB3.out.cell (p := ⟨gt, ot + i, none⟩) hgt).trans HCI.out
        clear b3 h3 HAD HTi HBi ci2
        go_wp2_with fail
        refine Calls.mono H3.out ?_
        rintro e w4 ⟨rfl, b4, t4⟩
        have HB4 : Hid (Below w.heap.size w w4) := HB3.out.trans (b4.mono hp2')
        have HT4 : Hid (TwA w4 b p x b' p' x' 0) := t4
        clear b4 t4 H3 HB3 ci3
        go_wp2_with fail
        go_roundw
        case rel => exact ⟨i + 1, by omega, by go_num, HT4.out, HB4.out⟩
        case measure => simp [intOf]; omega
      · obtain rfl : i = n := by omega
        have HT0 : Hid (TwA wr b p x b' p' x' 0) := HTi.out
        have HB0 : Hid (Below w.heap.size w wr) := HBi.out
        clear HTi HBi
        go_wp2_with fail
        go_loopw [12] (fun s wr => ∃ i : Nat, i ≤ 1000 ∧ s = .int .i64 (i : Nat) ∧ Hid (TwA wr b p x b' p' x' i) ∧ Hid (Below w.heap.size w wr)) (fun s _ => 1000 - (intOf s).toNat)
        case atStart => exact ⟨0, by omega, rfl, HT0.out, HB0.out⟩
        case round =>
          clear HT0 HB0
          obtain ⟨i2, hi2, rfl, HTi, HBi⟩ := hrel
          by_cases hm1 : (i2 : Int) < most
          · by_cases hm2 : i2 < 1000
            · obtain ⟨N, B, hnx⟩ := tw_next HTi.out (by omega)
              have HNX : Hid _ := hnx
              have cb := At43.cell (TwA.cells HTi.out).1
              have hNN : ((N : Int) != (N : Int)) = false := by simp
              have hBB : (B != B) = false := by simp
              clear hnx
              go_wp2_with fail
              refine Calls.mono HNX.out ?_
              rintro e w3 ⟨rfl, b3, at3, h3⟩
              have HB3 : Hid (Below w.heap.size w w3) := HBi.out.trans (b3.mono hp1')
              have H3 : Hid _ := h3
              have cb3 := At43.cell at3
              clear b3 at3 h3 HNX
              go_wp2_with fail
              refine Calls.mono H3.out ?_
              rintro e w4 ⟨rfl, b4, t4⟩
              have HB4 : Hid (Below w.heap.size w w4) := HB3.out.trans (b4.mono hp2')
              have HT4 : Hid (TwA w4 b p x b' p' x' (i2 + 1)) := t4
              have c4 := At43.cell (TwA.cells HT4.out).1
              have c4' := At43.cell (TwA.cells HT4.out).2
              obtain ⟨now, st', ws, _, hlk⟩ := tw_looks HT4.out
              have HN1 : Hid (∀ W, Below w4.heap.size w4 W → Calls Try.prog 14 #[.pointer (some ⟨p, 0, none⟩)] W (fun r w' => r = .returned (.int .u64 now) ∧ w' = W)) := fun W k => (hlk W k).1
              have HN2 : Hid (∀ W, Below w4.heap.size w4 W → Calls Try.prog 14 #[.pointer (some ⟨p', 0, none⟩)] W (fun r w' => r = .returned (.int .u64 now) ∧ w' = W)) := fun W k => (hlk W k).2.1
              have hnow : (now != now) = false := by simp
              clear b4 t4 hlk H3 HB3 HTi HBi cb cb3
              go_wp2_with fail
              go_quiet ((first | (go_at_call 14; exact Calls.quiet_of_same (HN1.out _ (belD _ _))) | (go_at_call 14; exact Calls.quiet_of_same (HN2.out _ (belD _ _)))))
              go_wp2_with fail
              go_roundw
              case rel => exact ⟨i2 + 1, by omega, by go_num, TwA.below HT4.out (belD _ _), HB4.out.trans ((belD _ _).mono HB4.out.size)⟩
              case measure => simp [intOf]; omega
            · obtain rfl : i2 = 1000 := by omega
              have hat := TwA.cells HTi.out
              have cb := At43.cell hat.1
              have cb' := At43.cell hat.2
              obtain ⟨now, st', ws, hws, hlk⟩ := tw_looks HTi.out
              have HSS : Hid (∀ W : World, Below wr.heap.size wr W → W.cell? ⟨b, 0, none⟩ = some (.pointer (some ⟨p, 0, none⟩)) ∧ W.cell? ⟨b', 0, none⟩ = some (.pointer (some ⟨p', 0, none⟩))) := fun W k => ⟨At43.cell (At43.below hat.1 k), At43.cell (At43.below hat.2 k)⟩
              obtain ⟨m, hm⟩ : ∃ m, ws.length = m := ⟨_, rfl⟩
              have HW1 : Hid (∀ W, Below wr.heap.size wr W → Calls Try.prog 16 #[.pointer (some ⟨p, 0, none⟩)] W (fun r w' => ∃ a c, r = .returned (.slice a m c) ∧ VA w'.heap.size w' a (ws.map iV) ∧ Below W.heap.size W w')) := fun W k => by rw [← hm]; exact (hlk W k).2.2.2.2.1
              have HW2 : Hid (∀ W, Below wr.heap.size wr W → Calls Try.prog 16 #[.pointer (some ⟨p', 0, none⟩)] W (fun r w' => ∃ a c, r = .returned (.slice a m c) ∧ VA w'.heap.size w' a (ws.map iV) ∧ Below W.heap.size W w')) := fun W k => by rw [← hm]; exact (hlk W k).2.2.2.2.2
              have HP1 : Hid (∀ W, Below wr.heap.size wr W → Calls Try.prog 17 #[.pointer (some ⟨p, 0, none⟩)] W (fun r w' => r = .returned (.int .i64 st') ∧ w' = W)) := fun W k => (hlk W k).2.2.1
              have HP2 : Hid (∀ W, Below wr.heap.size wr W → Calls Try.prog 17 #[.pointer (some ⟨p', 0, none⟩)] W (fun r w' => r = .returned (.int .i64 st') ∧ w' = W)) := fun W k => (hlk W k).2.2.2.1
              have HSM : Hid (∀ (W : World) a1 c1 a2 c2, VA W.heap.size W a1 (ws.map iV) → VA W.heap.size W a2 (ws.map iV) → Calls Try.prog 15 #[.slice a1 m c1, .slice a2 m c2] W fun r w' => r = .returned (.bool true) ∧ ∃ q, w' = W.drewN q) := fun W a1 c1 a2 c2 h1 h2 => by
                have := same_any W.heap.size a1 a2 c1 c2 ws ws W h1 h2 (by omega)
                rw [decide_eq_true rfl, hm] at this
                exact this
              have HTR : Hid (∀ W V : World, Below wr.heap.size wr W → Below W.heap.size W V → Below wr.heap.size wr V) := fun W V k k' => k.trans (k'.mono k.size)
              have HGR : Hid (∀ (W V : World) a, VA W.heap.size W a (ws.map iV) → Below W.heap.size W V → VA V.heap.size V a (ws.map iV)) := fun W V a h k => va_grow h k
              have HDN : Hid (∀ (W : World) q, Below wr.heap.size wr W → Below wr.heap.size wr (W.drewN q)) := fun W q k => k.trans ((belD W q).mono k.size)
              have hss : (st' == st') = true := by simp
              have SD : Below wr.heap.size wr wr.drew := (Below.refl _ _).drew
              have HFI : Hid (∀ W, Below wr.heap.size wr W → Below w.heap.size w W) := fun W k => HBi.out.trans (k.mono HBi.out.size)
              clear hat hlk hws hm
              go_wp2_with fail
              go_region_held (fun W => W.cell? ⟨b, 0, none⟩ = some (.pointer (some ⟨p, 0, none⟩)) ∧ W.cell? ⟨b', 0, none⟩ = some (.pointer (some ⟨p', 0, none⟩))) (first | assumption | go_keep)
                (first
                | (go_at_call_of 16 p; refine Calls.mono (HW1.out _ (by assumption)) ?_; rintro e wa ⟨a1, c1, rfl, va1, ka⟩; have ba := HTR.out _ _ (by assumption) ka; have sa := HSS.out _ ba)
                | (go_at_call_of 16 p'; refine Calls.mono (HW2.out _ (by assumption)) ?_; rintro e wb ⟨a2, c2, rfl, va2, kb⟩; have bb := HTR.out _ _ (by assumption) kb; have sb := HSS.out _ bb)
                | (go_at_call 15; refine Calls.mono (HSM.out wb _ _ _ _ (HGR.out wa wb _ va1 kb) va2) ?_; rintro e wc ⟨rfl, q, hwc⟩; have bc : Below wr.heap.size wr wc := by rw [hwc]; exact HDN.out _ _ bb
                   have sc := HSS.out _ bc; clear hwc)
                | (go_at_call 15; refine Calls.mono (HSM.out wa _ _ _ _ va1 (HGR.out wb wa _ va2 ka)) ?_; rintro e wc ⟨rfl, q, hwc⟩; have bc : Below wr.heap.size wr wc := by rw [hwc]; exact HDN.out _ _ ba
                   have sc := HSS.out _ bc; clear hwc)
                | (go_at_call_of 17 p; refine Calls.mono (HP1.out _ (by assumption)) ?_; rintro e wd ⟨rfl, hwd⟩; subst hwd)
                | (go_at_call_of 17 p'; refine Calls.mono (HP2.out _ (by assumption)) ?_; rintro e we ⟨rfl, hwe⟩; subst hwe))
              all_goals
                go_wp2_with fail
                go_ret
                exact ⟨rfl, HFI.out _ (by assumption)⟩
          · have hmd : decide ((i2 : Int) < most) = false := decide_eq_false hm1
            have hat := TwA.cells HTi.out
            have cb := At43.cell hat.1
            have cb' := At43.cell hat.2
            obtain ⟨now, st', ws, hws, hlk⟩ := tw_looks HTi.out
            have HSS : Hid (∀ W : World, Below wr.heap.size wr W → W.cell? ⟨b, 0, none⟩ = some (.pointer (some ⟨p, 0, none⟩)) ∧ W.cell? ⟨b', 0, none⟩ = some (.pointer (some ⟨p', 0, none⟩))) := fun W k => ⟨At43.cell (At43.below hat.1 k), At43.cell (At43.below hat.2 k)⟩
            obtain ⟨m, hm⟩ : ∃ m, ws.length = m := ⟨_, rfl⟩
            have HW1 : Hid (∀ W, Below wr.heap.size wr W → Calls Try.prog 16 #[.pointer (some ⟨p, 0, none⟩)] W (fun r w' => ∃ a c, r = .returned (.slice a m c) ∧ VA w'.heap.size w' a (ws.map iV) ∧ Below W.heap.size W w')) := fun W k => by rw [← hm]; exact (hlk W k).2.2.2.2.1
            have HW2 : Hid (∀ W, Below wr.heap.size wr W → Calls Try.prog 16 #[.pointer (some ⟨p', 0, none⟩)] W (fun r w' => ∃ a c, r = .returned (.slice a m c) ∧ VA w'.heap.size w' a (ws.map iV) ∧ Below W.heap.size W w')) := fun W k => by rw [← hm]; exact (hlk W k).2.2.2.2.2
            have HP1 : Hid (∀ W, Below wr.heap.size wr W → Calls Try.prog 17 #[.pointer (some ⟨p, 0, none⟩)] W (fun r w' => r = .returned (.int .i64 st') ∧ w' = W)) := fun W k => (hlk W k).2.2.1
            have HP2 : Hid (∀ W, Below wr.heap.size wr W → Calls Try.prog 17 #[.pointer (some ⟨p', 0, none⟩)] W (fun r w' => r = .returned (.int .i64 st') ∧ w' = W)) := fun W k => (hlk W k).2.2.2.1
            have HSM : Hid (∀ (W : World) a1 c1 a2 c2, VA W.heap.size W a1 (ws.map iV) → VA W.heap.size W a2 (ws.map iV) → Calls Try.prog 15 #[.slice a1 m c1, .slice a2 m c2] W fun r w' => r = .returned (.bool true) ∧ ∃ q, w' = W.drewN q) := fun W a1 c1 a2 c2 h1 h2 => by
              have := same_any W.heap.size a1 a2 c1 c2 ws ws W h1 h2 (by omega)
              rw [decide_eq_true rfl, hm] at this
              exact this
            have HTR : Hid (∀ W V : World, Below wr.heap.size wr W → Below W.heap.size W V → Below wr.heap.size wr V) := fun W V k k' => k.trans (k'.mono k.size)
            have HGR : Hid (∀ (W V : World) a, VA W.heap.size W a (ws.map iV) → Below W.heap.size W V → VA V.heap.size V a (ws.map iV)) := fun W V a h k => va_grow h k
            have HDN : Hid (∀ (W : World) q, Below wr.heap.size wr W → Below wr.heap.size wr (W.drewN q)) := fun W q k => k.trans ((belD W q).mono k.size)
            have hss : (st' == st') = true := by simp
            have SD : Below wr.heap.size wr wr.drew := (Below.refl _ _).drew
            have HFI : Hid (∀ W, Below wr.heap.size wr W → Below w.heap.size w W) := fun W k => HBi.out.trans (k.mono HBi.out.size)
            clear hat hlk hws hm
            go_wp2_with fail
            go_region_held (fun W => W.cell? ⟨b, 0, none⟩ = some (.pointer (some ⟨p, 0, none⟩)) ∧ W.cell? ⟨b', 0, none⟩ = some (.pointer (some ⟨p', 0, none⟩))) (first | assumption | go_keep)
              (first
              | (go_at_call_of 16 p; refine Calls.mono (HW1.out _ (by assumption)) ?_; rintro e wa ⟨a1, c1, rfl, va1, ka⟩; have ba := HTR.out _ _ (by assumption) ka; have sa := HSS.out _ ba)
              | (go_at_call_of 16 p'; refine Calls.mono (HW2.out _ (by assumption)) ?_; rintro e wb ⟨a2, c2, rfl, va2, kb⟩; have bb := HTR.out _ _ (by assumption) kb; have sb := HSS.out _ bb)
              | (go_at_call 15; refine Calls.mono (HSM.out wb _ _ _ _ (HGR.out wa wb _ va1 kb) va2) ?_; rintro e wc ⟨rfl, q, hwc⟩; have bc : Below wr.heap.size wr wc := by rw [hwc]; exact HDN.out _ _ bb
                 have sc := HSS.out _ bc; clear hwc)
              | (go_at_call 15; refine Calls.mono (HSM.out wa _ _ _ _ va1 (HGR.out wb wa _ va2 ka)) ?_; rintro e wc ⟨rfl, q, hwc⟩; have bc : Below wr.heap.size wr wc := by rw [hwc]; exact HDN.out _ _ ba
                 have sc := HSS.out _ bc; clear hwc)
              | (go_at_call_of 17 p; refine Calls.mono (HP1.out _ (by assumption)) ?_; rintro e wd ⟨rfl, hwd⟩; subst hwd)
              | (go_at_call_of 17 p'; refine Calls.mono (HP2.out _ (by assumption)) ?_; rintro e we ⟨rfl, hwe⟩; subst hwe))
            all_goals
              go_wp2_with fail
              go_ret
              exact ⟨rfl, HFI.out _ (by assumption)⟩
  · have HS : Hid (∀ W, Below w.heap.size w W → Calls Try.prog 9 #[.agg #[.slice ap np cp, .slice ak nk ck, .slice ad nd cd]] W fun r w' => r = .returned (.tuple #[.pointer none, .bool true]) ∧ Below W.heap.size W w') := fun W k => start_bad ap ak ad np nk nd cp ck cd picks ticks _ W (hp.below k) (hk.below k) rfl hchk
    clear hp hk hd hT hn hA hchk A0 k0
    go_enter Try.func4, Try.ntmps4
    go_wp2_with fail
    refine Calls.mono (HS.out _ HA0.out) ?_
    rintro e w1 ⟨rfl, B1⟩
    obtain ⟨g1, c10, c11, c12⟩ := box3 HK0.out B1
    have HB1 : Hid (Below w.heap.size w w1) := HA0.out.trans (B1.mono HA0.out.size)
    clear B1 g1
    go_wp2_with fail
    refine Calls.mono (HS.out w1 HB1.out) ?_
    rintro e w2 ⟨rfl, B2⟩
    have HB2 : Hid (Below w.heap.size w w2) := HB1.out.trans (B2.mono HB1.out.size)
    clear B2
    go_wp2_with fail
    go_ret
    exact ⟨rfl, HB2.out⟩
end Go.Proofs.Ytefmhghdehokcaa
