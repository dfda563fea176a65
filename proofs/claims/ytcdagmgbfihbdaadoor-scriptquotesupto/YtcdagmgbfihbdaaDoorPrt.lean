/-
  The contract of Print.
-/
import Derived.Test.YtcdagmgbfihbdaaDoorMon
namespace Go.Proofs.YtcdagmgbfihbdaaDoor
open Go.RowKit
/-- What Print is handed in. -/
structure In (w : World) (ta : Option Addr) (nt : Nat) (ts : List Ten) (o : Opt) (cp : Int) (la : Option Addr) (n : Nat) (l : List Trm) : Prop where
  ten : TenAt w ta ts
  nten : ts.length = nt
  opt : optOk o
  cap : i64ok cp
  trm : TrmAt w la l
  ntrm : l.length = n
  ok : ∀ t ∈ l, TrOk w t
set_option maxRecDepth 100000 in
set_option maxHeartbeats 16000000 in
theorem print_any (w : World) (ta : Option Addr) (tc nt : Nat) (ts : List Ten) (o : Opt) (cp : Int) (la : Option Addr) (lc n : Nat) (l : List Trm) (h : In w ta nt ts o cp la n l) (hT : TabP w) (hFU : Hid FUint) :
    Calls Tryd.prog 13 #[.agg #[.slice ta nt tc, .int .i64 o.block, .int .i64 o.restart, .int .i64 o.bits, .int .i64 o.mem, .int .i64 o.zero, .int .i64 o.base, .int .i64 o.fan, .int .i64 cp], .slice la n lc] w fun e w' => e = .returned (.tuple #[.string (bOf (printR ts o cp l).1), .int .i64 (printR ts o cp l).2]) ∧ Below w.heap.size w w' := by
  obtain ⟨R, hR⟩ : ∃ R, printR ts o cp l = R := ⟨_, rfl⟩
  have HR : Hid (printR ts o cp l = R) := hR
  rw [hR]
  have HI : Hid (In w ta nt ts o cp la n l) := h
  have HTB : Hid (TabP w) := hT
  obtain ⟨o1, o2, o3, o4, o5, o6, o7⟩ := o
  simp only at *
  obtain ⟨W0, hW0⟩ : ∃ V, w.alloc (.cells #[.slice ta nt tc, .int .i64 o1, .int .i64 o2, .int .i64 o3, .int .i64 o4, .int .i64 o5, .int .i64 o6, .int .i64 o7, .int .i64 cp] 33) = V := ⟨_, rfl⟩
  obtain ⟨x, hx⟩ : ∃ q, w.heap.size = q := ⟨_, rfl⟩
  have hxb : W0.heap[x]? = some (.cells #[.slice ta nt tc, .int .i64 o1, .int .i64 o2, .int .i64 o3, .int .i64 o4, .int .i64 o5, .int .i64 o6, .int .i64 o7, .int .i64 cp] 33 (0, 0)) := by rw [← hW0, ← hx]; exact block_alloc_at _ _
  have HXB : Hid (∀ V, Below W0.heap.size W0 V → V.heap[x]? = some (.cells #[.slice ta nt tc, .int .i64 o1, .int .i64 o2, .int .i64 o3, .int .i64 o4, .int .i64 o5, .int .i64 o6, .int .i64 o7, .int .i64 cp] 33 (0, 0))) := fun V hV => (hV.block x (Array.getElem?_eq_some_iff.1 hxb).1).trans hxb
  have HB0 : Hid (Below x w W0) := by rw [Hid, ← hW0, ← hx]; exact below_new _ _
  have HX : Hid (w.heap.size = x) := hx
  obtain ⟨M, hM⟩ : ∃ M, many nt l = M := ⟨_, rfl⟩
  have HM : Hid (many nt l = M) := hM
  have HMA : Hid (∀ _ : Unit, Calls Tryd.prog 24 #[.agg #[.slice ta nt tc, .int .i64 o1, .int .i64 o2, .int .i64 o3, .int .i64 o4, .int .i64 o5, .int .i64 o6, .int .i64 o7, .int .i64 cp], .slice la n lc] W0 fun e W' => e = .returned (.bool M) ∧ Below W0.heap.size W0 W') := fun _ => by
    rw [← hM]
    exact many_any W0 ta tc nt o1 o2 o3 o4 o5 o6 o7 cp la lc n l h.ntrm (h.trm.below (by rw [hx]; exact HB0.out))
  have z0 : W0.cell? ⟨x, 0, none⟩ = some (.slice ta nt tc) := cell_of_block hxb rfl
  have z1 : W0.cell? ⟨x, 1, none⟩ = some (.int .i64 o1) := cell_of_block hxb rfl
  have z2 : W0.cell? ⟨x, 2, none⟩ = some (.int .i64 o2) := cell_of_block hxb rfl
  have z3 : W0.cell? ⟨x, 3, none⟩ = some (.int .i64 o3) := cell_of_block hxb rfl
  have z4 : W0.cell? ⟨x, 4, none⟩ = some (.int .i64 o4) := cell_of_block hxb rfl
  have z5 : W0.cell? ⟨x, 5, none⟩ = some (.int .i64 o5) := cell_of_block hxb rfl
  have z6 : W0.cell? ⟨x, 6, none⟩ = some (.int .i64 o6) := cell_of_block hxb rfl
  have z7 : W0.cell? ⟨x, 7, none⟩ = some (.int .i64 o7) := cell_of_block hxb rfl
  have z8 : W0.cell? ⟨x, 8, none⟩ = some (.int .i64 cp) := cell_of_block hxb rfl
  rw [← hW0, ← hx] at z0 z1 z2 z3 z4 z5 z6 z7 z8
  have HW0 : Hid _ := hW0
  clear h hT hxb hW0 hx hM hR
  go_enter Tryd.func13, Tryd.ntmps13
  go_wp2_with fail
  rw [HW0.out]
  refine Calls.mono (HMA.out ()) ?_
  rintro e w1 ⟨rfl, hb⟩
  have HB1 : Hid (Below W0.heap.size W0 w1) := hb
  rw [HX.out]
  clear hb HMA HW0 z0 z1 z2 z3 z4 z5 z6 z7 z8
  cases M with
  | true =>
    have HRE : Hid (R = ([], 3)) := by rw [Hid, ← HR.out]; unfold printR; rw [HI.out.nten, HM.out, if_pos rfl]
    have HBF : Hid (Below x w w1) := HB0.out.trans (HB1.out.mono (le_s HX.out HB0.out))
    go_wp2_with fail
    go_ret2
    exact ⟨by rw [HRE.out]; rfl, by rw [HX.out]; exact HBF.out⟩
  | false =>
    have hb := HXB.out w1 HB1.out
    obtain ⟨p, hp⟩ : ∃ q, w1.heap.size = q := ⟨_, rfl⟩
    obtain ⟨W2, hW2⟩ : ∃ V, w1.alloc (.cells #[.pointer none, .slice none 0 0, .bool false, .bool false] 71) = V := ⟨_, rfl⟩
    have hsx : w.heap.size ≤ w1.heap.size := by have h1 := HB0.out.size; have h2 := HB1.out.size; omega
    have HP2 : Hid (PrA w W2 p ⟨[], false, false⟩) := by
      rw [Hid, ← hW2, ← hp]
      refine ⟨⟨hsx, _, _, block_alloc_at _ _, World.ownsRow_nil _ _ _ _, .inl rfl⟩, ?_, Nat.zero_le _, HTB.out⟩
      have q : Below w.heap.size w w1 := by rw [HX.out]; exact HB0.out.trans (HB1.out.mono (le_s HX.out HB0.out))
      exact q.alloc hsx _
    have hm16 : nt ≤ 16 ∧ n ≤ 8 := by
      have := HM.out
      unfold many at this
      rw [HI.out.ntrm] at this
      simp only [Bool.or_eq_false_iff, decide_eq_false_iff_not] at this
      omega
    have HCO : Hid (∀ _ : Unit, _) := fun _ => config_any w W2 p ⟨[], false, false⟩ ta tc nt ts ⟨o1, o2, o3, o4, o5, o6, o7⟩ cp HP2.out HI.out.nten (by omega) HI.out.ten HI.out.opt HI.out.cap hFU
    simp only at HCO
    have hb2 : W2.heap[x]? = some (.cells #[.slice ta nt tc, .int .i64 o1, .int .i64 o2, .int .i64 o3, .int .i64 o4, .int .i64 o5, .int .i64 o6, .int .i64 o7, .int .i64 cp] 33 (0, 0)) := by rw [← hW2]; exact (Below.heap_alloc _ _ _ (Array.getElem?_eq_some_iff.1 hb).1).trans hb
    have b0 : W2.cell? ⟨x, 0, none⟩ = some (.slice ta nt tc) := cell_of_block hb2 rfl
    have b1 : W2.cell? ⟨x, 1, none⟩ = some (.int .i64 o1) := cell_of_block hb2 rfl
    have b2 : W2.cell? ⟨x, 2, none⟩ = some (.int .i64 o2) := cell_of_block hb2 rfl
    have b3 : W2.cell? ⟨x, 3, none⟩ = some (.int .i64 o3) := cell_of_block hb2 rfl
    have b4 : W2.cell? ⟨x, 4, none⟩ = some (.int .i64 o4) := cell_of_block hb2 rfl
    have b5 : W2.cell? ⟨x, 5, none⟩ = some (.int .i64 o5) := cell_of_block hb2 rfl
    have b6 : W2.cell? ⟨x, 6, none⟩ = some (.int .i64 o6) := cell_of_block hb2 rfl
    have b7 : W2.cell? ⟨x, 7, none⟩ = some (.int .i64 o7) := cell_of_block hb2 rfl
    have b8 : W2.cell? ⟨x, 8, none⟩ = some (.int .i64 cp) := cell_of_block hb2 rfl
    rw [← hW2] at b0 b1 b2 b3 b4 b5 b6 b7 b8
    have HW2 : Hid _ := hW2
    have HPP : Hid (w1.heap.size = p) := hp
    obtain ⟨hm1, hm2⟩ := hm16
    clear hb hb2 hW2 hp hsx
    go_wp2_with fail
    rw [HW2.out, HPP.out]
    refine Calls.mono (HCO.out ()) ?_
    rintro e w3 ⟨rfl, q1, q2⟩
    obtain ⟨S, hS⟩ : ∃ S, configS ts ⟨o1, o2, o3, o4, o5, o6, o7⟩ cp ⟨[], false, false⟩ = S := ⟨_, rfl⟩
    rw [hS] at q1
    have HP3 : Hid (PrA w w3 p S) := q1
    have HSS : Hid (printS ts ⟨o1, o2, o3, o4, o5, o6, o7⟩ cp l = l.foldl (fun s t => termS t s) S) := by rw [Hid, ← hS]; rfl
    clear q1 q2 HCO HW2 HPP hS b0 b1 b2 b3 b4 b5 b6 b7 b8
    go_wp2_with fail
    go_loopw [19] (fun i wr => ∃ k : Nat, k ≤ n ∧ i = .int .i64 ((k : Nat) : Int) ∧ Hid (PrA w wr p ((l.take k).foldl (fun s t => termS t s) S))) (fun i _ => n - (intOf i).toNat)
    case atStart => exact ⟨0, by omega, rfl, HP3.out⟩
    case round =>
      obtain ⟨k, hk, rfl, HT⟩ := hrel
      by_cases hlt : k < n
      · have hlz : ((k : Nat) : Int) < ((n : Nat) : Int) := by omega
        obtain ⟨t, hv⟩ : ∃ t, l[k]? = some t := ⟨_, List.getElem?_eq_getElem (by rw [HI.out.ntrm]; exact hlt)⟩
        have HFT : Hid _ := fold_take termS hv S
        obtain ⟨tb, off, rfl, _, c0, c1, c2, c3, c4, c5, c6, c7, c8⟩ := (HI.out.trm.below HT.out.bel) k t hv
        have hok := HI.out.ok t (List.mem_of_getElem? hv)
        obtain ⟨V, hV⟩ : ∃ V, wr.alloc (.cells #[.slice t.aa t.arr.length t.ac, .slice t.pa t.picks.length t.pc, .slice t.ta t.ticks.length t.tc, .slice t.da t.draws.length t.dc, .slice t.fa t.faults.length t.fc, .int .i64 t.steps, .int .i64 t.stop, .int .i64 t.dir, .slice t.ka t.keep.length t.kc] 68) = V := ⟨_, rfl⟩
        have HTM : Hid (Calls Tryd.prog 26 #[.pointer (some ⟨p, 0, none⟩), .agg #[.slice t.aa t.arr.length t.ac, .slice t.pa t.picks.length t.pc, .slice t.ta t.ticks.length t.tc, .slice t.da t.draws.length t.dc, .slice t.fa t.faults.length t.fc, .int .i64 t.steps, .int .i64 t.stop, .int .i64 t.dir, .slice t.ka t.keep.length t.kc]] V fun e W' => PD w V p (termS t ((l.take k).foldl (fun s t => termS t s) S)) e W') :=
          term_any w V p _ t (HT.out.kept (by rw [← hV]; exact below_new _ _)) hok hFU
        have HV : Hid _ := hV
        clear hv hok hV
        go_wp2_with fail
        rw [HV.out]
        refine Calls.mono HTM.out ?_
        rintro e w4 ⟨rfl, q1, _⟩
        have HR4 : Hid (PrA w w4 p ((l.take (k + 1)).foldl (fun s t => termS t s) S)) := by rw [Hid, HFT.out]; exact q1
        clear q1 HTM HV
        go_wp2_with fail
        go_roundw
        case rel => exact ⟨k + 1, by omega, by go_num, HR4.out⟩
        case measure => simp [intOf]; omega
      · obtain rfl : k = n := by omega
        have hlz : ¬ ((k : Nat) : Int) < ((k : Nat) : Int) := by omega
        obtain ⟨S2, hS2⟩ : ∃ S2, l.foldl (fun s t => termS t s) S = S2 := ⟨_, rfl⟩
        have HPT : Hid (PrA w wr p S2) := by
          have h1 := HT.out
          rw [show l.take k = l from List.take_of_length_le (by rw [HI.out.ntrm]; exact Nat.le_refl _), hS2] at h1
          exact h1
        have hne := print_ne ts ⟨o1, o2, o3, o4, o5, o6, o7⟩ cp l
        have HRR : Hid ((if S2.wide = true then (([] : List UInt8), (280 : Int)) else if S2.long = true then ([], 3) else (S2.buf, 0)) = R) := by
          have h1 := HR.out
          unfold printR at h1
          rw [HI.out.nten, HM.out, if_neg (by decide), HSS.out, hS2] at h1
          exact h1
        rw [HSS.out, hS2] at hne
        have HNE : Hid (S2.long = false → S2.buf ≠ []) := hne
        obtain ⟨f2, f3, _, _, _, _⟩ := HPT.out.ba.facts (by decide)
        obtain ⟨buf, wide, long⟩ := S2
        simp only at f2 f3 HRR HNE
        clear hne hS2 HT HSS
        cases wide with
        | true =>
          have HRE : Hid (R = ([], 280)) := by rw [Hid, ← HRR.out]; rfl
          go_wp2_with fail
          go_ret2
          exact ⟨by rw [HRE.out]; rfl, HPT.out.bel⟩
        | false =>
          cases long with
          | true =>
            have HRE : Hid (R = ([], 3)) := by rw [Hid, ← HRR.out]; rfl
            go_wp2_with fail
            go_ret2
            exact ⟨by rw [HRE.out]; rfl, HPT.out.bel⟩
          | false =>
            have HRE : Hid (R = (buf, 0)) := by rw [Hid, ← HRR.out]; rfl
            have HST : Hid (∀ _ : Unit, _) := fun _ => bstr_any w.heap.size 71 p [.bool false, .bool false] buf wr HPT.out.ba (HNE.out rfl)
            go_wp2_with fail
            refine Calls.mono (HST.out ()) ?_
            rintro e w5 ⟨rfl, hb5⟩
            have HB5 : Hid (Below w.heap.size w w5) := HPT.out.bel.trans hb5
            clear hb5 HST
            go_wp2_with fail
            go_ret2
            exact ⟨by rw [HRE.out]; rfl, HB5.out⟩
end Go.Proofs.YtcdagmgbfihbdaaDoor
