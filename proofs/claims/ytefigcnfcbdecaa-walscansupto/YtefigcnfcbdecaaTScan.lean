/-
  The contract of the twin's Scan: it tells what Scan tells.
-/
import Derived.Test.YtefigcnfcbdecaaTScanA
import Derived.Test.YtefigcnfcbdecaaLaid
import Derived.Deep.QuietTactic
import Derived.BigQuiet
import Derived.Deep.CutRange
namespace Go.Proofs.Ytefigcnfcbdecaa
open Go.RowKit
/-- The twin's rows: the records and their ends. -/
structure SI (w W : World) (v5 v6 : Value) (pre : List Rec) : Prop where
  t : W.ownsRow w.heap.size 9 1 v5 pre.length (pre.map textV)
  e : W.ownsRow w.heap.size 3 1 v6 pre.length (pre.map endV)
  bel : Below w.heap.size w W
theorem SI.start (w : World) : SI w w (.slice none 0 0) (.slice none 0 0) [] := ⟨World.ownsRow_nil _ _ _ _, World.ownsRow_nil _ _ _ _, Below.refl _ _⟩
theorem SI.below {w W W' : World} {v5 v6 : Value} {pre : List Rec} (h : SI w W v5 v6 pre) (hb : Below W.heap.size W W') : SI w W' v5 v6 pre :=
  ⟨owns_same h.t (fun g e => hb.block g (h.t.lt g e).2), owns_same h.e (fun g e => hb.block g (h.e.lt g e).2), h.bel.trans (hb.mono h.bel.size)⟩
theorem SI.drew {w W : World} {v5 v6 : Value} {pre : List Rec} (h : SI w W v5 v6 pre) (q : Nat) : SI w (W.drewN q) v5 v6 pre := h.below (belD _ _)
theorem getD_cell {w : World} {b off : Nat} {l : List UInt8} (h : BytesAt w (some ⟨b, off, none⟩) l) {W : World} (k : Below w.heap.size w W) {t j : Nat} (hj : t + j < l.length) : W.cell? ⟨b, off + t + j, none⟩ = some (.int .u8 (((l.drop t).getD j 0).toNat : Nat)) := by
  have e : l[t + j]? = some ((l.drop t).getD j 0) := by
    rw [List.getD_eq_getElem?_getD, List.getElem?_drop, List.getElem?_eq_getElem hj]
    rfl
  obtain ⟨b', off', e1, hb, hc⟩ := h.below (Nat.le_refl _) k _ _ e
  cases e1
  rw [Nat.add_assoc]
  exact hc
theorem conv_rowQ {W : World} {base Q : Nat} {bs : List UInt8} {a : Option Addr} {cap : Nat} (hl : bs.length = Q) (h : W.ownsRow base 5 1 (.slice a Q cap) Q (bl bs)) : (convert 33 9 (.slice a Q cap)).run Try.prog W = .ok (.string ⟨bs.toArray⟩) W := by
  subst hl
  exact conv_row h
theorem follows_iff (k : Nat) (op : Bool) : followsN k op = !(decide (k < 1) || decide (4 < k) || (op != decide (3 ≤ k))) := by
  unfold followsN
  by_cases h1 : k = 0
  · subst h1; cases op <;> rfl
  by_cases h2 : k = 1
  · subst h2; cases op <;> rfl
  by_cases h3 : k = 2
  · subst h3; cases op <;> rfl
  by_cases h4 : k = 3
  · subst h4; cases op <;> rfl
  by_cases h5 : k = 4
  · subst h5; cases op <;> rfl
  have e : decide (4 < k) = true := decide_eq_true (by omega)
  rw [e]
  cases op <;> simp <;> omega
set_option maxRecDepth 100000 in
set_option maxHeartbeats 8000000 in
theorem rscan_any (a : Option Addr) (cap : Nat) (l : List UInt8) (w : World) (h : BytesAt w a l) (hN : l.length ≤ 1048576) (hcap : l.length ≤ cap) :
    Calls Try.prog 18 #[.slice a l.length cap] w fun r w' => ∃ v5 v6, r = .returned (.tuple #[v5, v6, .int .i64 ((scanL l).2 : Nat)]) ∧ SI w w' v5 v6 (scanL l).1 := by
  obtain ⟨i3, hi3, z30, z31, z32⟩ := info_parts info3
  obtain ⟨i9, hi9, z90, z91, z92⟩ := info_parts info9
  obtain ⟨N, hn⟩ : ∃ N, l.length = N := ⟨_, rfl⟩
  have HH : Hid _ := h
  have HNN : Hid _ := hn
  rw [hn] at hN hcap ⊢
  clear h hn
  go_enter Try.func18, Try.ntmps18
  go_wp2_with fail
  go_loopw [5, 6, 7, 8, 9] (fun v5 v6 i o r wr => ∃ (t : Nat) (op : Bool) (acc : List UInt8) (pre : List Rec), t ≤ N ∧ i = .int .i64 (t : Nat) ∧ o = .bool op ∧ r = .string ⟨acc.toArray⟩ ∧ acc.length ≤ t ∧ pre.length ≤ t ∧ Hid (SI w wr v5 v6 pre) ∧ Hid (TW l t op acc pre)) (fun _ _ i _ _ _ => N - (intOf i).toNat)
  case atStart => exact ⟨0, false, [], [], by omega, rfl, rfl, rfl, Nat.le_refl _, Nat.le_refl _, SI.start w, TW.start l⟩
  case round =>
    obtain ⟨t, op, acc, pre, ht, rfl, rfl, rfl, hal, hpl, HS, HT⟩ := hrel
    have HTN : Hid (t ≤ l.length) := by rw [Hid, HNN.out]; exact ht
    by_cases hlt : t < N
    · obtain ⟨x0, hx0⟩ : ∃ x, l[0]? = some x := ⟨l[0]'(by rw [HNN.out]; omega), List.getElem?_eq_getElem _⟩
      obtain ⟨b, off, rfl, hb, _⟩ := HH.out 0 x0 hx0
      have HBB : Hid (BytesAt w (some ⟨b, off, none⟩) l) := HH.out
      obtain ⟨lf, hlf⟩ : ∃ lf, leftN t = lf := ⟨_, rfl⟩
      have hmod : (t : Int) % 1024 = ((t % 1024 : Nat) : Int) := by omega
      have hml : t % 1024 < 1024 := Nat.mod_lt _ (by decide)
      have hlfi : (1024 : Int) - ((t % 1024 : Nat) : Int) = (lf : Int) := by rw [← hlf, leftN]; omega
      have hlf1 : 1 ≤ lf ∧ lf ≤ 1024 := by rw [← hlf, leftN]; omega
      generalize t % 1024 = md at *
      have HLF : Hid _ := hlf
      clear hlf hx0
      have hltI : (t : Int) < (N : Int) := by omega
      by_cases h7 : lf < 7
      · have h7I : (lf : Int) < 7 := by omega
        obtain ⟨z, hz⟩ : ∃ z, zeroB ((l.drop t).take lf) = z := ⟨_, rfl⟩
        have HZZ : Hid _ := hz
        have HZ : Hid (∀ P c : Nat, ((l.drop t).take lf).length = P → Calls Try.prog 26 #[.slice (some ⟨b, off + t, none⟩) P c] wr fun r w' => r = .returned (.bool z) ∧ w' = wr) := fun P c hP => by
          have := rzeros_any (some ⟨b, off + t, none⟩) c ((l.drop t).take lf) wr (BytesAt.part (HBB.out.below (Nat.le_refl _) HS.out.bel) t lf) (by rw [List.length_take]; omega)
          rw [hP, hz] at this
          exact this
        clear hz
        by_cases hgt : lf < N - t
        · have HP : Hid (((l.drop t).take lf).length = lf) := by rw [Hid, List.length_take, List.length_drop, HNN.out]; omega
          go_wp2_with fail
          refine (HZ.out _ _ HP.out).mono ?_
          rintro e w1 ⟨rfl, hw1⟩
          subst hw1
          cases z with
          | false =>
            have HE : Hid _ := TW.err HT.out HTN.out (find_pad_bad (by rw [HLF.out]; exact h7) (by rw [HLF.out]; exact HZZ.out))
            go_wp2_with fail
            go_ret3
            exact ⟨_, _, by rw [← HE.out.2]; rfl, by rw [← HE.out.1]; exact HS.out⟩
          | true =>
            have HT2 : Hid (TW l (t + lf) op acc pre) := by
              have := TW.pad HT.out HTN.out (Nat.le_add_right _ _) (find_pad (by rw [HLF.out]; exact h7) (by rw [HLF.out]; exact HZZ.out) (by rw [HLF.out, HNN.out]; omega))
              rw [HLF.out] at this
              exact this
            go_wp2_with fail
            go_roundw
            case rel => exact ⟨t + lf, op, acc, pre, by omega, by go_num, rfl, rfl, by omega, by omega, HS.out, HT2.out⟩
            case measure => simp [intOf]; omega
        · have HP : Hid (((l.drop t).take lf).length = N - t) := by rw [Hid, List.length_take, List.length_drop, HNN.out]; omega
          go_wp2_with fail
          refine (HZ.out _ _ HP.out).mono ?_
          rintro e w1 ⟨rfl, hw1⟩
          subst hw1
          cases z with
          | false =>
            have HE : Hid _ := TW.err HT.out HTN.out (find_pad_bad (by rw [HLF.out]; exact h7) (by rw [HLF.out]; exact HZZ.out))
            go_wp2_with fail
            go_ret3
            exact ⟨_, _, by rw [← HE.out.2]; rfl, by rw [← HE.out.1]; exact HS.out⟩
          | true =>
            by_cases hto : N - t < lf
            · have HE : Hid _ := TW.err HT.out HTN.out (find_pad_torn (by rw [HLF.out]; exact h7) (by rw [HLF.out]; exact HZZ.out) (by rw [HNN.out]; exact hlt) (by rw [HNN.out, HLF.out]; omega))
              go_wp2_with fail
              go_ret3
              exact ⟨_, _, by rw [← HE.out.2]; rfl, by rw [← HE.out.1]; exact HS.out⟩
            · have HT2 : Hid (TW l (t + lf) op acc pre) := by
                have := TW.pad HT.out HTN.out (Nat.le_add_right _ _) (find_pad (by rw [HLF.out]; exact h7) (by rw [HLF.out]; exact HZZ.out) (by rw [HLF.out, HNN.out]; omega))
                rw [HLF.out] at this
                exact this
              go_wp2_with fail
              go_roundw
              case rel => exact ⟨t + lf, op, acc, pre, by omega, by go_num, rfl, rfl, by omega, by omega, HS.out, HT2.out⟩
              case measure => simp [intOf]; omega
      · have h7I : ¬ (lf : Int) < 7 := by omega
        have HFA : Hid _ := find_at (l := l) (op := op) (t := t) (by rw [HLF.out]; omega) (by rw [HNN.out]; exact hlt)
        by_cases hr7 : N - t < 7
        · have HE : Hid _ := TW.err (e := 2) HT.out HTN.out (by rw [HFA.out, HNN.out, if_pos hr7])
          go_wp2_with fail
          go_ret3
          exact ⟨_, _, by rw [← HE.out.2]; rfl, by rw [← HE.out.1]; exact HS.out⟩
        · obtain ⟨L, hL⟩ : ∃ L, lenF (l.drop t) = L := ⟨_, rfl⟩
          obtain ⟨k, hk⟩ : ∃ k, (l.drop t).getD 6 0 = k := ⟨_, rfl⟩
          have HNM : Hid (∀ c W, Below w.heap.size w W → Calls Try.prog 27 #[.slice (some ⟨b, off + t + 4, none⟩) 2 c] W fun r w' => r = .returned (.int .i64 (L : Nat)) ∧ w' = W) := fun c W hB => by
            have := rnumber_two b (off + t + 4) c _ _ W (getD_cell HBB.out hB (t := t) (j := 4) (by rw [HNN.out]; omega)) (getD_cell HBB.out hB (t := t) (j := 5) (by rw [HNN.out]; omega))
            rw [← hL, lenF]
            exact this
          have hk6 : wr.cell? ⟨b, off + t + 6, none⟩ = some (.int .u8 (k.toNat : Nat)) := by
            rw [← hk]
            exact getD_cell HBB.out HS.out.bel (t := t) (j := 6) (by rw [HNN.out]; omega)
          have hLl : L < 65536 := by
            rw [← hL, lenF]
            have h4 := ((l.drop t).getD 4 0).toNat_lt
            have h5 := ((l.drop t).getD 5 0).toNat_lt
            omega
          have HFB := HFA.out
          rw [HNN.out, if_neg hr7, HLF.out, hL, hk] at HFB
          have HFC : Hid _ := HFB
          have hBw : Hid (Below w.heap.size w wr) := HS.out.bel
          have hNt : (6 : Int) < ((N - t : Nat) : Int) := by omega
          have hct : 6 ≤ cap - t := by omega
          have hctI : (6 : Int) ≤ ((cap - t : Nat) : Int) := by omega
          clear HFB HFA hL hk
          go_wp2_with fail
          go_quiet (first | (go_at_call 27; refine Calls.quiet_of_same (HNM.out _ _ ?_); exact hBw.out.trans ((belD _ _).mono hBw.out.size)))
          have HS1 : Hid (SI w (wr.drewN nq) u5 u6 pre) := HS.out.drew nq
          obtain ⟨w1, hw1⟩ : ∃ w1, wr.drewN nq = w1 := ⟨_, rfl⟩
          rw [hw1] at HS1
          rw [hw1]
          clear hw1 hk6 hBw HS
          by_cases hA : lf - 7 < L
          · have HE : Hid _ := TW.err (e := 3) HT.out HTN.out (by rw [HFC.out, if_pos hA])
            have hAI : (lf : Int) - 7 < (L : Int) := by omega
            go_wp2_with fail
            go_ret3
            exact ⟨_, _, by rw [← HE.out.2]; rfl, by rw [← HE.out.1]; exact HS1.out⟩
          · have hAI : decide ((lf : Int) - 7 < (L : Int)) = false := decide_eq_false (by omega)
            cases hfo : followsN k.toNat op with
            | false =>
              have HE : Hid _ := TW.err (e := 3) HT.out HTN.out (by rw [HFC.out, if_neg hA, if_pos hfo])
              rw [follows_iff] at hfo
              by_cases hB1 : k.toNat < 1
              · have hB1I : ((k.toNat : Nat) : Int) < 1 := by omega
                clear hfo
                go_wp2_with fail
                go_ret3
                exact ⟨_, _, by rw [← HE.out.2]; rfl, by rw [← HE.out.1]; exact HS1.out⟩
              · have hB1I : decide (((k.toNat : Nat) : Int) < 1) = false := decide_eq_false (by omega)
                by_cases hB4 : 4 < k.toNat
                · have hB4I : 4 < ((k.toNat : Nat) : Int) := by omega
                  clear hfo
                  go_wp2_with fail
                  go_ret3
                  exact ⟨_, _, by rw [← HE.out.2]; rfl, by rw [← HE.out.1]; exact HS1.out⟩
                · have hB4I : decide (4 < ((k.toNat : Nat) : Int)) = false := decide_eq_false (by omega)
                  by_cases hB3 : 3 ≤ k.toNat
                  · have hB3I : decide (3 ≤ ((k.toNat : Nat) : Int)) = true := decide_eq_true (by omega)
                    cases op with
                    | true => simp [hB1, hB4, hB3] at hfo
                    | false =>
                      clear hfo
                      go_wp2_with fail
                      go_ret3
                      exact ⟨_, _, by rw [← HE.out.2]; rfl, by rw [← HE.out.1]; exact HS1.out⟩
                  · have hB3I : decide (3 ≤ ((k.toNat : Nat) : Int)) = false := decide_eq_false (by omega)
                    cases op with
                    | false => simp [hB1, hB4, hB3] at hfo
                    | true =>
                      clear hfo
                      go_wp2_with fail
                      go_ret3
                      exact ⟨_, _, by rw [← HE.out.2]; rfl, by rw [← HE.out.1]; exact HS1.out⟩
            | true =>
              have HFD := HFC.out
              rw [if_neg hA, if_neg (by rw [hfo]; simp)] at HFD
              rw [follows_iff] at hfo
              have hB1 : ¬ k.toNat < 1 := fun h => by simp [h] at hfo
              have hB4 : ¬ 4 < k.toNat := fun h => by simp [h] at hfo
              have hop : op = decide (3 ≤ k.toNat) := by simpa [hB1, hB4] using hfo
              have hB1I : decide (((k.toNat : Nat) : Int) < 1) = false := decide_eq_false (by omega)
              have hB4I : decide (4 < ((k.toNat : Nat) : Int)) = false := decide_eq_false (by omega)
              have hB3I : decide (3 ≤ ((k.toNat : Nat) : Int)) = op := by rw [hop]; simp only [decide_eq_decide]; omega
              have HFE : Hid _ := HFD
              clear hfo hop HFD HFC
              by_cases hC : N - t < 7 + L
              · have HE : Hid _ := TW.err (e := 2) HT.out HTN.out (by rw [HFE.out, if_pos hC])
                have hCI : ((N - t : Nat) : Int) < 7 + (L : Int) := by omega
                go_wp2_with fail
                go_ret3
                exact ⟨_, _, by rw [← HE.out.2]; rfl, by rw [← HE.out.1]; exact HS1.out⟩
              · obtain ⟨Q, hQ⟩ : ∃ Q : Nat, (7 : Int) + (L : Int) = (Q : Int) := ⟨7 + L, by omega⟩
                have hQN : Hid (7 + L = Q) := by rw [Hid]; omega
                have hCI : decide (((N - t : Nat) : Int) < (Q : Int)) = false := decide_eq_false (by omega)
                obtain ⟨pt, hpt⟩ : ∃ pt, ((l.drop t).drop 7).take L = pt := ⟨_, rfl⟩
                have hptl : pt.length = L := by rw [← hpt, List.length_take, List.length_drop, List.length_drop, HNN.out]; omega
                have HPT : Hid _ := hpt
                have HPL : Hid _ := hptl
                have B1 : Hid (Below w.heap.size w w1) := HS1.out.bel
                obtain ⟨TL, hTL⟩ : ∃ TL, (l.drop t).take Q = TL := ⟨_, rfl⟩
                have HTL : Hid _ := hTL
                have HTLl : Hid (TL.length = Q) := by rw [Hid, ← hTL, List.length_take, List.length_drop, HNN.out]; omega
                have HCT : Hid (∀ W : World, Below w.heap.size w W → (convert 33 9 (.slice (some ⟨b, off + t, none⟩) Q (cap - t))).run Try.prog W = .ok (.string ⟨TL.toArray⟩) W) := fun W hB => by
                  have h1 := BytesAt.part HBB.out t Q
                  rw [hTL] at h1
                  exact conv_at HTLl.out h1 W hB
                have h7c : 7 + L ≤ cap - t := by omega
                have hQ7 : (7 : Int) ≤ (Q : Int) := by omega
                have hCJ : (Q : Int) ≤ ((N - t : Nat) : Int) := by omega
                have HWR : Hid (IntKind.i64.wrap (7 + (L : Int)) = (Q : Int)) := by
                  rw [Hid, hQ]
                  simp [IntKind.wrap, IntKind.bits, IntKind.signed]
                  omega
                have hQc : (Q : Int) ≤ ((cap - t : Nat) : Int) := by omega
                have hQ7L : Q - 7 = L := by omega
                have HFR : Hid (∀ W : World, Calls Try.prog 28 #[.int .u8 (k.toNat : Nat), .string ⟨pt.toArray⟩] W fun r w' => ∃ v, r = .returned v ∧ w'.ownsRow W.heap.size 5 1 v (fragL k pt).length (bl (fragL k pt)) ∧ Below W.heap.size W w') := fun W => fragment_any k ⟨pt.toArray⟩ W (by show pt.toArray.size ≤ _; simp [hptl]; omega)
                obtain ⟨FL, hFL⟩ : ∃ FL, fragL k pt = FL := ⟨_, rfl⟩
                have HNX : Hid (¬ TL = FL → findL l t op = .inl 3) := fun hne => by
                  rw [HFE.out, if_neg hC, if_neg (fun e => hne ?_)]
                  rw [← hTL, ← hFL, ← hpt, ← hQN.out]
                  refine (frag_eq (by rw [List.length_drop, HNN.out]; omega)).2 ?_
                  rw [hpt]
                  exact hpt ▸ e
                have HYX : Hid (TL = FL → findL l t op = .inr (k, t + 7, L)) := fun he => by
                  rw [HFE.out, if_neg hC, if_pos ?_]
                  rw [← hTL, ← hFL, ← hpt, ← hQN.out] at he
                  exact (frag_eq (by rw [List.length_drop, HNN.out]; omega)).1 he
                have HFLl : Hid (FL.length = Q) := by rw [Hid, ← hFL, frag_len, hptl]; exact hQN.out
                rw [hFL] at HFR
                have HFL : Hid _ := hFL
                have hcA := HCT.out w1.drew (B1.out.drew)
                clear hpt hptl hC hTL hFL
                go_upto_region 24 with fail
                go_cut [14] from 15 to 125 (fun s14 wc => s14 = .string ⟨pt.toArray⟩ ∧ wc = w1)
                case first =>
                  by_cases hc7 : cap - t = 7
                  · have HL0 : Hid (L = 0) := by rw [Hid]; omega
                    have hcv1 : (convert 33 9 (.slice (some ⟨b, off + t, none⟩) L 0)).run Try.prog w1 = .ok (.string ⟨pt.toArray⟩) w1 := by
                      have hp0 : pt = [] := List.eq_nil_of_length_eq_zero (by rw [HPL.out]; exact HL0.out)
                      have h1 : BytesAt w (some ⟨b, off + t, none⟩) pt := fun j c hj => by rw [hp0] at hj; simp at hj
                      exact conv_at HPL.out h1 w1 B1.out
                    go_wp2_with fail
                    go_meet
                    case rel => exact ⟨rfl, rfl⟩
                  · have hc7' : 7 < cap - t := by omega
                    have hcv1 : (convert 33 9 (.slice (some ⟨b, off + t + 7, none⟩) L (cap - t - 7))).run Try.prog w1 = .ok (.string ⟨pt.toArray⟩) w1 := by
                      have h1 := BytesAt.part HBB.out (t + 7) L
                      rw [← List.drop_drop, HPT.out, ← Nat.add_assoc] at h1
                      exact conv_at HPL.out h1 w1 B1.out
                    go_wp2_with fail
                    go_meet
                    case rel => exact ⟨rfl, rfl⟩
                case rest =>
                obtain ⟨rfl, rfl⟩ := hcut
                go_upto_region 25 with fail
                go_cut [100] from 15 to 125 (fun s wx => s = .bool (!decide (TL = FL)) ∧ Hid (SI w wx u5 u6 pre))
                case first =>
                  have hwr := HWR.out
                  clear hQ
                  by_cases heq : TL = FL
                  · subst heq
                    go_region_with (first | (go_at_call 28; refine (HFR.out _).mono ?_; rintro r w2 ⟨v2, rfl, o2, b2⟩; rw [HFLl.out] at o2; obtain ⟨a2, c2, rfl⟩ := form_of_row o2; have hcB := HCT.out w2 (B1.out.drew.trans (Below.mono b2 B1.out.size)); have hcF := conv_rowQ HFLl.out o2))
                    all_goals
                      go_wp2_with fail
                      go_meet
                      case rel => exact ⟨by simp, SI.below (SI.below HS1.out (Below.refl _ _).drew) b2⟩
                  · have heq' : ¬ FL = TL := fun e => heq e.symm
                    go_region_with (first | (go_at_call 28; refine (HFR.out _).mono ?_; rintro r w2 ⟨v2, rfl, o2, b2⟩; rw [HFLl.out] at o2; obtain ⟨a2, c2, rfl⟩ := form_of_row o2; have hcB := HCT.out w2 (B1.out.drew.trans (Below.mono b2 B1.out.size)); have hcF := conv_rowQ HFLl.out o2))
                    all_goals
                      go_wp2_with fail
                      go_meet
                      case rel => exact ⟨by simp [heq, heq'], SI.below (SI.below HS1.out (Below.refl _ _).drew) b2⟩
                case rest =>
                obtain ⟨rfl, HSX⟩ := hcut
                clear HCT HFR hcA HS1 B1
                by_cases heq : TL = FL
                · have hd : decide (TL = FL) = true := decide_eq_true heq
                  have HF : Hid _ := HYX.out heq
                  rw [hd]
                  have HDP : Hid ((l.drop (t + 7)).take L = pt) := by rw [Hid, ← List.drop_drop]; exact HPT.out
                  have hcat : (⟨acc.toArray⟩ ++ ⟨pt.toArray⟩ : ByteArray) = ⟨(acc ++ pt).toArray⟩ := by
                    apply ByteArray.ext
                    simp
                  have hsa : (⟨acc.toArray⟩ : ByteArray).size = acc.length := by show acc.toArray.size = _; simp
                  have hsp : (⟨pt.toArray⟩ : ByteArray).size = L := by show pt.toArray.size = _; simp [HPL.out]
                  obtain ⟨T, hT⟩ : ∃ T : Nat, (t : Int) + 7 + (L : Int) = (T : Int) := ⟨t + 7 + L, by omega⟩
                  have HTT : Hid (t + 7 + L = T) := by rw [Hid]; omega
                  have hTN : T ≤ N := by omega
                  obtain ⟨cs, hcs⟩ : ∃ cs, acc ++ pt = cs := ⟨_, rfl⟩
                  have HCL : Hid (cs.length ≤ T) := by rw [Hid, ← hcs, List.length_append, HPL.out]; omega
                  rw [hcs] at hcat
                  have HCS : Hid _ := hcs
                  clear hcs heq hd HYX HNX HFE
                  by_cases hk2 : k = 2 ∨ k = 3
                  · have HT2 : Hid (TW l T true cs pre) := by
                      have := TW.more HT.out HTN.out HF.out (by rcases hk2 with rfl | rfl <;> decide)
                      rw [HDP.out, HCS.out, HTT.out] at this
                      exact this
                    rcases hk2 with rfl | rfl
                    · go_wp2_with fail
                      go_roundw
                      case rel => exact ⟨T, true, cs, pre, hTN, by go_num, rfl, rfl, HCL.out, by omega, HSX.out, HT2.out⟩
                      case measure => simp [intOf]; omega
                    · go_wp2_with fail
                      go_roundw
                      case rel => exact ⟨T, true, cs, pre, hTN, by go_num, rfl, rfl, HCL.out, by omega, HSX.out, HT2.out⟩
                      case measure => simp [intOf]; omega
                  · have hk4 : k = 1 ∨ k = 4 := by
                      have h2 : k.toNat ≠ 2 := fun e => hk2 (Or.inl (UInt8.toNat_inj.1 e))
                      have h3 : k.toNat ≠ 3 := fun e => hk2 (Or.inr (UInt8.toNat_inj.1 e))
                      rcases (show k.toNat = 1 ∨ k.toNat = 4 by omega) with e | e
                      · exact Or.inl (UInt8.toNat_inj.1 e)
                      · exact Or.inr (UInt8.toNat_inj.1 e)
                    clear hk2
                    have HT2 : Hid (TW l T false [] (pre ++ [(cs, T)])) := by
                      have := TW.rec HT.out HTN.out HF.out (by rcases hk4 with rfl | rfl <;> decide)
                      rw [HDP.out, HCS.out, HTT.out] at this
                      exact this
                    obtain ⟨R, hR⟩ : ∃ R, pre.length = R := ⟨_, rfl⟩
                    have HRR : Hid _ := hR
                    have rt0 := HSX.out.t
                    have re0 := HSX.out.e
                    rw [hR] at rt0 re0 hpl
                    obtain ⟨a5, c5, rfl⟩ := form9 rt0
                    obtain ⟨a6, c6, rfl⟩ := form3 re0
                    have hRl : R + 1 ≤ 1048577 := by omega
                    have B0 : Hid (Below w.heap.size w wc) := HSX.out.bel
                    have hs0 : w.heap.size ≤ wc.heap.size := B0.out.size
                    have RT0 : Hid _ := rt0
                    have RE0 : Hid _ := re0
                    have rta : Hid (∀ o, (wc.alloc o).ownsRow w.heap.size 9 1 (.slice a5 R c5) R (pre.map textV)) := fun o => World.ownsRow.alloc RT0.out o
                    clear hR rt0 re0 HF HSX HT
                    rcases hk4 with rfl | rfl
                    · go_wp2_with (at_builtin; refine wpList_append_own _ rfl (.tmp 118) (.tmp 120) 22 rfl w.heap.size 9 i9 (.string ByteArray.empty) 1 16 Try.underlying22 hi9 z90 z91 z92 rfl (by decide) _ _ _ rfl (rta.out _) ⟨wc.heap.size, 0, none⟩ 1 1 [.string ⟨cs.toArray⟩] rfl rfl (cell_one_new _ _ _) (by simp [Value.oneCell']) (by unfold maxLen; omega) (by omega) (by simp; omega) ?_)
                      intro v5 w5 hown5 hg5 _
                      obtain ⟨a7, c7, rfl⟩ := form9 hown5
                      have re5 : Hid (w5.ownsRow w.heap.size 3 1 (.slice a6 R c6) R (pre.map endV)) := own_keep (World.ownsRow.alloc RE0.out _) (rta.out _) (by decide) hg5
                      have B5 : Hid (Below w.heap.size w w5) := (B0.out.alloc hs0 _).grown hg5 (by simp; omega) (fun i hi => (World.ownsRow.lt RT0.out i hi).1)
                      have rt5 : Hid _ := hown5
                      have hs5 : w.heap.size ≤ w5.heap.size := B5.out.size
                      have rea : Hid (∀ o, (w5.alloc o).ownsRow w.heap.size 3 1 (.slice a6 R c6) R (pre.map endV)) := fun o => World.ownsRow.alloc re5.out o
                      clear hown5 hg5 RT0 RE0 B0 rta
                      go_wp2_with (at_builtin; refine wpList_append_own _ rfl (.tmp 122) (.tmp 124) 43 rfl w.heap.size 3 i3 (.int .i64 0) 1 8 Try.underlying43 hi3 z30 z31 z32 rfl (by decide) _ _ _ rfl (rea.out _) ⟨w5.heap.size, 0, none⟩ 1 1 [.int .i64 (T : Nat)] rfl rfl (cell_one_new _ _ _) (by simp [Value.oneCell']) (by unfold maxLen; omega) (by omega) (by simp; omega) ?_)
                      intro v6 w6 hown6 hg6 _
                      obtain ⟨a8, c8, rfl⟩ := form3 hown6
                      have rt6 : Hid _ := own_keep (World.ownsRow.alloc rt5.out _) (rea.out _) (by decide) hg6
                      have B6 : Hid (Below w.heap.size w w6) := (B5.out.alloc hs5 _).grown hg6 (by simp; omega) (fun i hi => (World.ownsRow.lt re5.out i hi).1)
                      have S6 : Hid (SI w w6 (.slice a7 (R + 1) c7) (.slice a8 (R + 1) c8) (pre ++ [(cs, T)])) := by
                        have hl : (pre ++ [(cs, T)]).length = R + 1 := by rw [List.length_append, HRR.out]; rfl
                        refine ⟨?_, ?_, B6.out⟩
                        · rw [hl, List.map_append]; exact rt6.out
                        · rw [hl, List.map_append]; exact hown6
                      clear hown6 hg6 rt6 B6 rt5 B5 rea re5
                      go_wp2_with fail
                      go_roundw
                      case rel => exact ⟨T, false, [], pre ++ [(cs, T)], hTN, by go_num, rfl, rfl, Nat.zero_le _, by rw [List.length_append, HRR.out]; show R + 1 ≤ T; have := HTT.out; omega, S6.out, HT2.out⟩
                      case measure => simp [intOf]; have := HTT.out; omega
                    · go_wp2_with (at_builtin; refine wpList_append_own _ rfl (.tmp 118) (.tmp 120) 22 rfl w.heap.size 9 i9 (.string ByteArray.empty) 1 16 Try.underlying22 hi9 z90 z91 z92 rfl (by decide) _ _ _ rfl (rta.out _) ⟨wc.heap.size, 0, none⟩ 1 1 [.string ⟨cs.toArray⟩] rfl rfl (cell_one_new _ _ _) (by simp [Value.oneCell']) (by unfold maxLen; omega) (by omega) (by simp; omega) ?_)
                      intro v5 w5 hown5 hg5 _
                      obtain ⟨a7, c7, rfl⟩ := form9 hown5
                      have re5 : Hid (w5.ownsRow w.heap.size 3 1 (.slice a6 R c6) R (pre.map endV)) := own_keep (World.ownsRow.alloc RE0.out _) (rta.out _) (by decide) hg5
                      have B5 : Hid (Below w.heap.size w w5) := (B0.out.alloc hs0 _).grown hg5 (by simp; omega) (fun i hi => (World.ownsRow.lt RT0.out i hi).1)
                      have rt5 : Hid _ := hown5
                      have hs5 : w.heap.size ≤ w5.heap.size := B5.out.size
                      have rea : Hid (∀ o, (w5.alloc o).ownsRow w.heap.size 3 1 (.slice a6 R c6) R (pre.map endV)) := fun o => World.ownsRow.alloc re5.out o
                      clear hown5 hg5 RT0 RE0 B0 rta
                      go_wp2_with (at_builtin; refine wpList_append_own _ rfl (.tmp 122) (.tmp 124) 43 rfl w.heap.size 3 i3 (.int .i64 0) 1 8 Try.underlying43 hi3 z30 z31 z32 rfl (by decide) _ _ _ rfl (rea.out _) ⟨w5.heap.size, 0, none⟩ 1 1 [.int .i64 (T : Nat)] rfl rfl (cell_one_new _ _ _) (by simp [Value.oneCell']) (by unfold maxLen; omega) (by omega) (by simp; omega) ?_)
                      intro v6 w6 hown6 hg6 _
                      obtain ⟨a8, c8, rfl⟩ := form3 hown6
                      have rt6 : Hid _ := own_keep (World.ownsRow.alloc rt5.out _) (rea.out _) (by decide) hg6
                      have B6 : Hid (Below w.heap.size w w6) := (B5.out.alloc hs5 _).grown hg6 (by simp; omega) (fun i hi => (World.ownsRow.lt re5.out i hi).1)
                      have S6 : Hid (SI w w6 (.slice a7 (R + 1) c7) (.slice a8 (R + 1) c8) (pre ++ [(cs, T)])) := by
                        have hl : (pre ++ [(cs, T)]).length = R + 1 := by rw [List.length_append, HRR.out]; rfl
                        refine ⟨?_, ?_, B6.out⟩
                        · rw [hl, List.map_append]; exact rt6.out
                        · rw [hl, List.map_append]; exact hown6
                      clear hown6 hg6 rt6 B6 rt5 B5 rea re5
                      go_wp2_with fail
                      go_roundw
                      case rel => exact ⟨T, false, [], pre ++ [(cs, T)], hTN, by go_num, rfl, rfl, Nat.zero_le _, by rw [List.length_append, HRR.out]; show R + 1 ≤ T; have := HTT.out; omega, S6.out, HT2.out⟩
                      case measure => simp [intOf]; have := HTT.out; omega
                · have hd : decide (TL = FL) = false := decide_eq_false heq
                  have HE : Hid _ := TW.err (e := 3) HT.out HTN.out (HNX.out heq)
                  rw [hd]
                  go_wp2_with fail
                  go_ret3
                  exact ⟨_, _, by rw [← HE.out.2]; rfl, by rw [← HE.out.1]; exact HSX.out⟩
    · obtain rfl : t = N := by omega
      have HE : Hid _ := TW.err HT.out HTN.out (by have := find_fin l op; rw [HNN.out] at this; exact this)
      cases op
      · go_wp2_with fail
        go_ret3
        exact ⟨_, _, by rw [← HE.out.2]; rfl, by rw [← HE.out.1]; exact HS.out⟩
      · go_wp2_with fail
        go_ret3
        exact ⟨_, _, by rw [← HE.out.2]; rfl, by rw [← HE.out.1]; exact HS.out⟩
end Go.Proofs.Ytefigcnfcbdecaa
