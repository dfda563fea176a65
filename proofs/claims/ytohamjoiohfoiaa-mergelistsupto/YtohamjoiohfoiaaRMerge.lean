/-
  The twin's Merge.
-/
import Derived.Test.YtohamjoiohfoiaaWith
import Derived.Test.YtohamjoiohfoiaaLists
namespace Go.Proofs.Ytohamjoiohfoiaa
open Go.RowKit
/-- Cells, one behind the other, laid into one list. -/
def layC (cs : List Cl) : List Cl := cs.foldl insC []
theorem lay_snoc (cs : List Cl) (c : Cl) : layC (cs ++ [c]) = insC (layC cs) c := by simp [layC]
theorem fold_len : ∀ (cs o : List Cl), (cs.foldl insC o).length ≤ o.length + cs.length
  | [], o => by simp
  | c :: cs, o => by
    have h1 := fold_len cs (insC o c)
    have h2 := ins_len o c
    simp only [List.foldl_cons, List.length_cons]
    omega
theorem lay_len (cs : List Cl) : (layC cs).length ≤ cs.length := by have := fold_len cs []; simpa [layC] using this
/-- A list that the twin has made so far. -/
def SoFar (W : World) (v : Value) (L : List Cl) : Prop := ∃ a c, v = .slice a L.length c ∧ L.length ≤ c ∧ CA W.heap.size W a L ∧ (L = [] → a = none ∧ c = 0)
theorem SoFar.up {W V : World} {v : Value} {L : List Cl} (h : SoFar W v L) (k : Below W.heap.size W V) : SoFar V v L := by
  obtain ⟨a, c, h1, h2, h3, h4⟩ := h
  exact ⟨a, c, h1, h2, (h3.below (fun b hb => k.block b hb)).up k.size, h4⟩
/-- All cells of the first j lists. -/
def flatS (ls : List Sl) (j : Nat) : List Cl := ((ls.map Sl.cs).take j).flatten
theorem flat_succ {ls : List Sl} {j : Nat} {s : Sl} (h : ls[j]? = some s) : flatS ls (j + 1) = flatS ls j ++ s.cs := by
  unfold flatS
  rw [List.take_add_one, List.getElem?_map, h]
  simp
theorem flat_le (ls : List Sl) : ∀ j, (flatS ls j).length ≤ ((ls.map Sl.cs).flatten).length := fun j => by
  unfold flatS
  have : ((ls.map Sl.cs).flatten) = ((ls.map Sl.cs).take j).flatten ++ ((ls.map Sl.cs).drop j).flatten := by rw [← List.flatten_append, List.take_append_drop]
  rw [this, List.length_append]
  omega
/-- What the twin's Merge tells. -/
def mergeQ (ls : List Sl) : List Cl := if allS ls then layC ((ls.map Sl.cs).flatten) else []
set_option maxRecDepth 100000 in
set_option maxHeartbeats 8000000 in
theorem rmerge_any (m cp : Nat) (a : Option Addr) (ls : List Sl) (w : World) (hla : LA w.heap.size w a ls) (hl : ls.length = m) (hm : m < 1000000) (hT : ((ls.map Sl.cs).flatten).length < 10000000) :
    Calls Try.prog 14 #[.slice a m cp] w fun r w' => ∃ a' c', r = .returned (.slice a' (mergeQ ls).length c') ∧ CA w'.heap.size w' a' (mergeQ ls) ∧ Below w.heap.size w w' := by
  have HLA : Hid (∀ V, Below w.heap.size w V → LA V.heap.size V a ls) := fun V hV => (hla.below (fun b hb => hV.block b hb)).up hV.size
  have HL : Hid (ls.length = m) := hl
  have HT : Hid (((ls.map Sl.cs).flatten).length < 10000000) := hT
  clear hla hl hT
  go_enter Try.func14, Try.ntmps14
  go_wp2_with fail
  go_loopw [3, 10] (fun v iv wr => ∃ j : Nat, j ≤ m ∧ iv = .int .i64 (j : Nat) ∧ Hid (∀ i s, i < j → ls[i]? = some s → sortedC s.cs = true) ∧ Hid (SoFar wr v (layC (flatS ls j))) ∧ Hid (Below w.heap.size w wr)) (fun _ iv _ => m - (intOf iv).toNat)
  case atStart => exact ⟨0, by omega, rfl, fun i s h => by omega, ⟨none, 0, rfl, Nat.zero_le _, CA.nil _ _ _, fun _ => ⟨rfl, rfl⟩⟩, Below.refl _ _⟩
  case round =>
    obtain ⟨j, hj, rfl, HS, HF, HB⟩ := hrel
    obtain ⟨oa, oc, hv, hoc, hoca, ho0⟩ := HF.out
    obtain ⟨no, hno⟩ : ∃ no, (layC (flatS ls j)).length = no := ⟨_, rfl⟩
    rw [hno] at hv
    subst hv
    by_cases hjm : j < m
    · obtain ⟨s, hs⟩ : ∃ s, ls[j]? = some s := ⟨ls[j]'(by rw [HL.out]; exact hjm), List.getElem?_eq_getElem _⟩
      have HSI : Hid (ls[j]? = some s) := hs
      obtain ⟨⟨b, off, rfl, _, c0⟩, hsca, hsc, hsn⟩ := HLA.out wr HB.out j s hs
      have HSC : Hid (∀ V, Below wr.heap.size wr V → CA V.heap.size V s.a s.cs) := fun V hV => (hsca.below (fun b hb => hV.block b hb)).up hV.size
      obtain ⟨ns, hns⟩ : ∃ ns, s.cs.length = ns := ⟨_, rfl⟩
      obtain ⟨sa, sc, scs⟩ := s
      simp only [slV] at c0 hsc hsn hns HSC hsca
      rw [hns] at c0 hsc hsn
      have HNS : Hid (scs.length = ns) := hns
      have HSF : Hid (SoFar wr (.slice oa no oc) (layC (flatS ls j))) := ⟨oa, oc, by rw [hno], hoc, hoca, ho0⟩
      cases hsr : sortedC scs with
      | true =>
        have H13 : Hid (Calls Try.prog 13 #[.slice sa ns sc] wr fun r w' => r = .returned (.bool true) ∧ Below wr.heap.size wr w') := by have := rsorted_any wr.heap.size ns sc sa scs wr hsca hns (Nat.le_refl _) hsn; rw [hsr] at this; exact this
        have HSR : Hid _ := hsr
        clear hsr hsca hs hno hoc hoca ho0 HF hns
        go_wp2_with (go_at_call 13; refine Calls.mono H13.out ?_; rintro e w1 ⟨rfl, b1⟩; have HB1 : Hid (Below wr.heap.size wr w1) := b1; clear b1)
        have HSF1 : Hid (SoFar w1 (.slice oa no oc) (layC (flatS ls j ++ scs.take 0))) := by rw [List.take_zero, List.append_nil]; exact HSF.out.up HB1.out
        have HBW : Hid (Below w.heap.size w w1) := HB.out.trans (HB1.out.mono HB.out.size)
        have HSC1 : Hid (∀ V, Below w1.heap.size w1 V → CA V.heap.size V sa scs) := fun V hV => HSC.out V (HB1.out.trans (hV.mono HB1.out.size))
        have HBD : Hid (∀ i, (layC (flatS ls j ++ scs.take i)).length < 10000000) := fun i => by
          have h1 := lay_len (flatS ls j ++ scs.take i)
          have h2 := flat_le ls (j + 1)
          rw [flat_succ HSI.out] at h2
          have h3 : (scs.take i).length ≤ scs.length := by rw [List.length_take]; omega
          have := HT.out
          simp only [List.length_append] at h1 h2
          omega
        clear HB HB1 HSF HSC HLA
        obtain ⟨wo, hwo⟩ : ∃ wo, wo = wr := ⟨_, rfl⟩
        rw [← hwo] at *
        clear hwo
        go_loopw [3, 19] (fun v iv wi => ∃ i : Nat, i ≤ ns ∧ iv = .int .i64 (i : Nat) ∧ Hid (SoFar wi v (layC (flatS ls j ++ scs.take i))) ∧ Hid (Below w1.heap.size w1 wi)) (fun _ iv _ => ns - (intOf iv).toNat)
        case atStart => exact ⟨0, by omega, rfl, HSF1.out, Below.refl _ _⟩
        case round =>
          clear HSF1
          obtain ⟨i, hi, rfl, HF, HB⟩ := hrel
          obtain ⟨pa, pc, hv, hpc, hpca, hp0⟩ := HF.out
          obtain ⟨np, hnp⟩ : ∃ np, (layC (flatS ls j ++ scs.take i)).length = np := ⟨_, rfl⟩
          rw [hnp] at hv
          subst hv
          have hbd := HBD.out i
          rw [hnp] at hbd hpc
          by_cases hin : i < ns
          · obtain ⟨c, hc⟩ : ∃ c, scs[i]? = some c := ⟨scs[i]'(by rw [HNS.out]; exact hin), List.getElem?_eq_getElem _⟩
            obtain ⟨cb, co, rfl, _, c1, c2, c3, c4⟩ := HSC1.out wr HB.out i c hc
            have HW : Hid (Calls Try.prog 24 #[.slice pa np pc, .agg #[.string c.key, .int .u64 (c.seq : Nat), .string c.val, .bool c.gone]] (wr.alloc (.cells #[.string c.key, .int .u64 (c.seq : Nat), .string c.val, .bool c.gone] 24)) (WithOut (wr.alloc (.cells #[.string c.key, .int .u64 (c.seq : Nat), .string c.val, .bool c.gone] 24)) (layC (flatS ls j ++ scs.take i)) c)) := with_any pa np pc _ c _ ((hpca.below (fun b hb => ((Below.refl _ wr).alloc (Nat.le_refl _) _).block b hb)).up (by simp)) hnp hpc (by omega) hp0
            have HLS : Hid (insC (layC (flatS ls j ++ scs.take i)) c = layC (flatS ls j ++ scs.take (i + 1))) := by rw [Hid, ← lay_snoc, List.take_add_one, hc, List.append_assoc]; rfl
            have HAL : Hid (Below w1.heap.size w1 (wr.alloc (.cells #[.string c.key, .int .u64 (c.seq : Nat), .string c.val, .bool c.gone] 24))) := HB.out.trans (((Below.refl _ wr).alloc (Nat.le_refl _) _).mono HB.out.size)
            obtain ⟨ck, cs, cv, cg⟩ := c
            simp only at c1 c2 c3 c4 HW HAL
            clear hpca hp0 HF hc hnp hpc hbd
            go_wp2_with (go_at_call 24; refine Calls.mono HW.out ?_; rintro e w3 ⟨ra, rc, rfl, hrc, hrca, b3⟩; have HR3 : Hid (SoFar w3 (.slice ra (insC (layC (flatS ls j ++ scs.take i)) ⟨ck, cs, cv, cg⟩).length rc) (insC (layC (flatS ls j ++ scs.take i)) ⟨ck, cs, cv, cg⟩)) := ⟨ra, rc, rfl, hrc, hrca, fun h => absurd h (ins_ne _ _)⟩; have HB3 : Hid (Below w1.heap.size w1 w3) := HAL.out.trans (b3.mono HAL.out.size); clear b3 hrca hrc)
            go_roundw
            case rel => exact ⟨i + 1, by omega, by go_num, by rw [← HLS.out]; exact HR3.out, HB3.out⟩
            case measure => simp [intOf]; omega
          · obtain rfl : i = ns := by omega
            have HSU : Hid (flatS ls j ++ scs.take i = flatS ls (j + 1)) := by rw [Hid, flat_succ HSI.out, List.take_of_length_le (by rw [HNS.out]; omega)]
            have HFE : Hid (SoFar wr (.slice pa np pc) (layC (flatS ls (j + 1)))) := by rw [← HSU.out]; exact ⟨pa, pc, by rw [hnp], by rw [hnp]; exact hpc, hpca, hp0⟩
            have HBE : Hid (Below w.heap.size w wr) := HBW.out.trans (HB.out.mono HBW.out.size)
            clear hpca hp0 HF hnp hpc hbd
            go_wp2_with fail
            go_roundw
            case rel =>
              refine ⟨j + 1, by omega, by go_num, fun i s hi hs => ?_, HFE.out, HBE.out⟩
              by_cases e : i = j
              · subst e
                rw [HSI.out] at hs
                cases hs
                exact HSR.out
              · exact HS.out i s (by omega) hs
            case measure => simp [intOf]; omega
      | false =>
        have H13 : Hid (Calls Try.prog 13 #[.slice sa ns sc] wr fun r w' => r = .returned (.bool false) ∧ Below wr.heap.size wr w') := by have := rsorted_any wr.heap.size ns sc sa scs wr hsca hns (Nat.le_refl _) hsn; rw [hsr] at this; exact this
        have HQ : Hid (mergeQ ls = []) := by rw [Hid, mergeQ, allS_false hs hsr]; rfl
        clear hsr hsca hs hno hoc hoca ho0 HF hns
        go_wp2_with (go_at_call 13; refine Calls.mono H13.out ?_; rintro e w1 ⟨rfl, b1⟩; have HB1 : Hid (Below wr.heap.size wr w1) := b1; clear b1)
        go_ret
        exact ⟨none, 0, by rw [HQ.out]; rfl, by rw [HQ.out]; exact CA.nil _ _ _, HB.out.trans (HB1.out.mono HB.out.size)⟩
    · obtain rfl : j = m := by omega
      have HQ : Hid (mergeQ ls = layC (flatS ls j)) := by
        have : allS ls = true := allS_true (fun i s h => HS.out i s (by have := (List.getElem?_eq_some_iff.1 h).1; rw [HL.out] at this; exact this) h)
        rw [Hid, mergeQ, this, if_pos rfl]
        unfold flatS
        rw [List.take_of_length_le (by rw [List.length_map, HL.out]; omega)]
      have HCA : Hid (CA wr.heap.size wr oa (layC (flatS ls j))) := hoca
      have HNO : Hid ((layC (flatS ls j)).length = no) := hno
      clear hoca ho0 hno HF HS
      go_wp2_with fail
      go_ret
      exact ⟨oa, oc, by rw [HQ.out, HNO.out]; rfl, by rw [HQ.out]; exact HCA.out, HB.out⟩
end Go.Proofs.Ytohamjoiohfoiaa
