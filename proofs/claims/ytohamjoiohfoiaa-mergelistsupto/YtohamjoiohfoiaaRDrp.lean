/-
  The twin's Drop.
-/
import Derived.Test.YtohamjoiohfoiaaRVis
namespace Go.Proofs.Ytohamjoiohfoiaa
open Go.RowKit
/-- What the twin has told of the first cells. -/
def rdTo (l : List Cl) (seq : Nat) (bt : Bool) : Nat → List Cl
  | 0 => []
  | k + 1 => rdTo l seq bt k ++ match l[k]? with
    | some c => if decide (seq < c.seq) || (fstB seq (l.take k) c && !(bt && c.gone)) then [c] else []
    | none => []
theorem rdTo_succ {l : List Cl} {seq k : Nat} {bt : Bool} {c : Cl} (h : l[k]? = some c) : rdTo l seq bt (k + 1) = rdTo l seq bt k ++ if decide (seq < c.seq) || (fstB seq (l.take k) c && !(bt && c.gone)) then [c] else [] := by rw [rdTo, h]
theorem rdTo_len (l : List Cl) (seq : Nat) (bt : Bool) : ∀ k, (rdTo l seq bt k).length ≤ k
  | 0 => by simp [rdTo]
  | k + 1 => by
    have := rdTo_len l seq bt k
    rw [rdTo, List.length_append]
    split
    · split <;> simp <;> omega
    · simp; omega
set_option maxRecDepth 100000 in
set_option maxHeartbeats 4000000 in
theorem rdrop_any (a : Option Addr) (m cp seq : Nat) (bt : Bool) (l : List Cl) (w : World) (hca : CA w.heap.size w a l) (hl : l.length = m) (hm : m ≤ cp) (hmx : m * 48 ≤ 140737488355328) (hs : sortedC l = true) :
    Calls Try.prog 22 #[.slice a m cp, .int .u64 (seq : Nat), .bool bt] w fun r w' => ∃ v, r = .returned v ∧ w'.ownsRow w.heap.size 24 4 v (rdTo l seq bt m).length (flC (rdTo l seq bt m)) ∧ Below w.heap.size w w' := by
  obtain ⟨i0, hi, hz0, hz1, hz2⟩ := info_parts info24
  have HSO : Hid (Calls Try.prog 13 #[.slice a m cp] w fun r w' => r = .returned (.bool true) ∧ Below w.heap.size w w') := by
    have := rsorted_any w.heap.size m cp a l w hca hl (Nat.le_refl _) (by omega)
    rw [hs] at this
    exact this
  have HCA : Hid (CA w.heap.size w a l) := hca
  have HLN : Hid (l.length = m) := hl
  obtain ⟨s, hsz⟩ : ∃ s, w.heap.size = s := ⟨_, rfl⟩
  have HSS : Hid (w.heap.size = s) := hsz
  clear hca hl hs
  go_enter Try.func22, Try.ntmps22
  go_wp2_with fail
  refine Calls.mono HSO.out ?_
  rintro e w1 ⟨rfl, b1⟩
  have HB1 : Hid (Below w.heap.size w w1) := b1
  clear b1 HSO
  go_wp2_with fail
  go_loopw [7, 18] (fun v i wr => ∃ k : Nat, k ≤ m ∧ i = .int .i64 (k : Nat) ∧ Hid (wr.ownsRow s 24 4 v (rdTo l seq bt k).length (flC (rdTo l seq bt k))) ∧ Hid (Below w.heap.size w wr)) (fun _ i _ => m - (intOf i).toNat)
  case atStart => exact ⟨0, by omega, rfl, World.ownsRow_nil _ _ _ _, HB1.out⟩
  case round =>
    clear HB1
    obtain ⟨k, hk, rfl, HR, HB⟩ := hrel
    by_cases hkm : k < m
    · obtain ⟨c, hc⟩ : ∃ c, l[k]? = some c := ⟨l[k]'(by rw [HLN.out]; exact hkm), List.getElem?_eq_getElem _⟩
      have hcw : CA wr.heap.size wr a l := (CA.below HCA.out (fun b hb => HB.out.block b hb)).up HB.out.size
      obtain ⟨bl, off, rfl, _, k0, k1, k2, k3⟩ := hcw k c hc
      have HCW : Hid (CA wr.heap.size wr (some ⟨bl, off, none⟩) l) := hcw
      have HC : Hid (l[k]? = some c) := hc
      obtain ⟨nR, hnR⟩ : ∃ nR, (rdTo l seq bt k).length = nR := ⟨_, rfl⟩
      have hrow : wr.ownsRow s 24 4 u7 nR (flC (rdTo l seq bt k)) := by rw [← hnR]; exact HR.out
      have hnRk : nR ≤ k := by rw [← hnR]; exact rdTo_len l seq bt k
      have HNR : Hid ((rdTo l seq bt k).length = nR) := hnR
      obtain ⟨va, vc, rfl⟩ := row_form4 hrow
      have HRW : Hid (wr.ownsRow s 24 4 (.slice va nR vc) nR (flC (rdTo l seq bt k))) := hrow
      obtain ⟨ck, cs, cv, cg⟩ := c
      simp only at k0 k1 k2 k3
      obtain ⟨x, hx⟩ : ∃ x, wr.heap.size = x := ⟨_, rfl⟩
      obtain ⟨WA, hWA⟩ : ∃ WA, wr.alloc (.cells #[.string ck, .int .u64 (cs : Nat), .string cv, .bool cg] 24) = WA := ⟨_, rfl⟩
      have hmA : WA.heap[x]? = some (.cells #[.string ck, .int .u64 (cs : Nat), .string cv, .bool cg] 24 (0, 0)) := by rw [← hWA, ← hx]; exact World.alloc_heap_new _ _
      have bA : Below wr.heap.size wr WA := by rw [← hWA]; exact (Below.refl _ wr).alloc (Nat.le_refl _) _
      have x0 : WA.cell? ⟨x, 0, none⟩ = some (.string ck) := by have := cells_of_block hmA 0; simpa using this
      have x1 : WA.cell? ⟨x, 1, none⟩ = some (.int .u64 (cs : Nat)) := by have := cells_of_block hmA 1; simpa using this
      have x2 : WA.cell? ⟨x, 2, none⟩ = some (.string cv) := by have := cells_of_block hmA 2; simpa using this
      have x3 : WA.cell? ⟨x, 3, none⟩ = some (.bool cg) := by have := cells_of_block hmA 3; simpa using this
      have HX : Hid (WA.cell? ⟨x, 0, none⟩ = some (.string ck) ∧ WA.cell? ⟨x, 1, none⟩ = some (.int .u64 (cs : Nat)) ∧ WA.cell? ⟨x, 2, none⟩ = some (.string cv) ∧ WA.cell? ⟨x, 3, none⟩ = some (.bool cg)) := ⟨x0, x1, x2, x3⟩
      have HBA : Hid (Below wr.heap.size wr WA) := bA
      have HF0 : Hid (fstB seq (l.take 0) ⟨ck, cs, cv, cg⟩ = decide (cs ≤ seq)) := by rw [Hid, List.take_zero, fstB_nil]
      have HWA : Hid (Below w.heap.size w WA) := HB.out.trans (bA.mono HB.out.size)
      have HRA : Hid (WA.ownsRow s 24 4 (.slice va nR vc) nR (flC (rdTo l seq bt k))) := owns_same hrow (fun g e => bA.block g (hrow.lt g e).2)
      clear hc hcw hrow hnR bA hmA
      go_wp2_with fail
      go_loopw [10, 31] (fun f j wq => ∃ (jj : Nat) (B : Bool), jj ≤ k ∧ j = .int .i64 (jj : Nat) ∧ f = .bool B ∧ Hid (fstB seq (l.take jj) ⟨ck, cs, cv, cg⟩ = B) ∧ Hid (Below WA.heap.size WA wq)) (fun _ j _ => k - (intOf j).toNat)
      case atStart => exact ⟨0, _, by omega, rfl, rfl, HF0.out, Below.refl _ _⟩
      case round =>
        clear HF0
        obtain ⟨jj, B, hjj, rfl, rfl, HFB, HBQ⟩ := hrel
        have HBW : Hid (Below w.heap.size w wr) := HWA.out.trans (HBQ.out.mono HWA.out.size)
        by_cases hjk : jj < k
        · obtain ⟨d, hd⟩ : ∃ d, l[jj]? = some d := ⟨l[jj]'(by rw [HLN.out]; omega), List.getElem?_eq_getElem _⟩
          have hcq : CA wr.heap.size wr (some ⟨bl, off, none⟩) l := (CA.below HCA.out (fun b hb => HBW.out.block b hb)).up HBW.out.size
          obtain ⟨b', off', e, _, d0, d1, d2, d3⟩ := hcq jj d hd
          cases e
          have z0 : wr.cell? ⟨x, 0, none⟩ = some (.string ck) := cellUp HBQ.out HX.out.1
          have HFS : Hid (fstB seq (l.take (jj + 1)) ⟨ck, cs, cv, cg⟩ = (B && !(sameK d ⟨ck, cs, cv, cg⟩ && decide (d.seq ≤ seq)))) := by rw [Hid, fstB_succ hd, HFB.out]
          obtain ⟨dk, ds, dv, dg⟩ := d
          simp only at d0 d1 d2 d3
          obtain ⟨y, hy⟩ : ∃ y, wr.heap.size = y := ⟨_, rfl⟩
          obtain ⟨WB, hWB⟩ : ∃ WB, wr.alloc (.cells #[.string dk, .int .u64 (ds : Nat), .string dv, .bool dg] 24) = WB := ⟨_, rfl⟩
          have hmB : WB.heap[y]? = some (.cells #[.string dk, .int .u64 (ds : Nat), .string dv, .bool dg] 24 (0, 0)) := by rw [← hWB, ← hy]; exact World.alloc_heap_new _ _
          have bB : Below wr.heap.size wr WB := by rw [← hWB]; exact (Below.refl _ wr).alloc (Nat.le_refl _) _
          have y0 : WB.cell? ⟨y, 0, none⟩ = some (.string dk) := by have := cells_of_block hmB 0; simpa using this
          have y1 : WB.cell? ⟨y, 1, none⟩ = some (.int .u64 (ds : Nat)) := by have := cells_of_block hmB 1; simpa using this
          have z1 : WB.cell? ⟨x, 0, none⟩ = some (.string ck) := cellUp bB z0
          have HB3 : Hid (Below WA.heap.size WA WB) := HBQ.out.trans (bB.mono HBQ.out.size)
          clear hd hcq bB hmB z0
          cases B with
          | false =>
            go_wp2_with fail
            go_roundw
            case rel => exact ⟨jj + 1, false, by omega, by go_num, rfl, by rw [Hid, HFS.out]; rfl, HB3.out⟩
            case measure => simp [intOf]; omega
          | true =>
            cases hsk : (dk.toList == ck.toList) with
            | false =>
              have HSK : Hid (sameK ⟨dk, ds, dv, dg⟩ ⟨ck, cs, cv, cg⟩ = false) := hsk
              go_wp2_with fail
              go_roundw
              case rel => exact ⟨jj + 1, true, by omega, by go_num, rfl, by rw [Hid, HFS.out, HSK.out]; rfl, HB3.out⟩
              case measure => simp [intOf]; omega
            | true =>
              have HSK : Hid (sameK ⟨dk, ds, dv, dg⟩ ⟨ck, cs, cv, cg⟩ = true) := hsk
              by_cases hle : ds ≤ seq
              · have h1 : decide (ds ≤ seq) = true := decide_eq_true hle
                have HD : Hid (decide (ds ≤ seq) = true) := h1
                go_wp2_with fail
                go_roundw
                case rel => exact ⟨jj + 1, false, by omega, by go_num, rfl, by rw [Hid, HFS.out, HSK.out]; show (true && !(true && decide (ds ≤ seq))) = false; rw [HD.out]; rfl, HB3.out⟩
                case measure => simp [intOf]; omega
              · have h1 : decide (ds ≤ seq) = false := decide_eq_false hle
                have HD : Hid (decide (ds ≤ seq) = false) := h1
                go_wp2_with fail
                go_roundw
                case rel => exact ⟨jj + 1, true, by omega, by go_num, rfl, by rw [Hid, HFS.out, HSK.out]; show (true && !(true && decide (ds ≤ seq))) = true; rw [HD.out]; rfl, HB3.out⟩
                case measure => simp [intOf]; omega
        · obtain rfl : jj = k := by omega
          have z0 : wr.cell? ⟨x, 0, none⟩ = some (.string ck) := cellUp HBQ.out HX.out.1
          have z1 : wr.cell? ⟨x, 1, none⟩ = some (.int .u64 (cs : Nat)) := cellUp HBQ.out HX.out.2.1
          have z2 : wr.cell? ⟨x, 2, none⟩ = some (.string cv) := cellUp HBQ.out HX.out.2.2.1
          have z3 : wr.cell? ⟨x, 3, none⟩ = some (.bool cg) := cellUp HBQ.out HX.out.2.2.2
          have HRQ : Hid (wr.ownsRow s 24 4 (.slice va nR vc) nR (flC (rdTo l seq bt jj))) := owns_same HRA.out (fun g e => HBQ.out.block g (World.ownsRow.lt HRA.out g e).2)
          obtain ⟨TT, hTT⟩ : ∃ TT, (decide (seq < cs) || (B && !(bt && cg))) = TT := ⟨_, rfl⟩
          have HRS : Hid (rdTo l seq bt (jj + 1) = rdTo l seq bt jj ++ if TT then [⟨ck, cs, cv, cg⟩] else []) := by rw [Hid, rdTo_succ HC.out, HFB.out, ← hTT]
          have HNO : Hid (TT = false → wr.ownsRow s 24 4 (.slice va nR vc) (rdTo l seq bt (jj + 1)).length (flC (rdTo l seq bt (jj + 1)))) := fun e => by
            rw [HRS.out, e, if_neg (by decide), List.append_nil, HNR.out]
            exact HRQ.out
          have HYES : Hid (TT = true → rdTo l seq bt (jj + 1) = rdTo l seq bt jj ++ [⟨ck, cs, cv, cg⟩]) := fun e => by rw [HRS.out, e, if_pos rfl]
          by_cases hgt : seq < cs
          · have hd1 : decide (seq < cs) = true := decide_eq_true hgt
            have HTT : Hid (TT = true) := by rw [Hid, ← hTT, hd1]; rfl
            clear hTT
            have hra : Hid (∀ o, (wr.alloc o).ownsRow s 24 4 (.slice va nR vc) nR (flC (rdTo l seq bt jj))) := fun o => World.ownsRow.alloc HRQ.out o
            have HNC : Hid (∀ j u, [Value.string ck, .int .u64 (cs : Nat), .string cv, .bool cg][j]? = some u → (wr.alloc (.cells #[.string ck, .int .u64 (cs : Nat), .string cv, .bool cg] 24)).cell? ((⟨wr.heap.size, 0, none⟩ : Addr).add j) = some u) := fun j u hj => by
              rw [addr_add, cells_of_block (World.alloc_heap_new wr _), Nat.zero_add]
              simpa using hj
            have hsq : s ≤ wr.heap.size := by have := HBW.out.size; have := HSS.out; omega
            go_wp2_with (at_builtin; refine wpList_append_own _ rfl (.tmp 66) (.tmp 68) 25 rfl s 24 i0 (.agg #[.string ByteArray.empty, .int .u64 0, .string ByteArray.empty, .bool false]) 4 48 Try.underlying25 hi hz0 hz1 hz2 rfl (by decide) _ _ _ rfl (hra.out _) ⟨wr.heap.size, 0, none⟩ 1 1 [.string ck, .int .u64 (cs : Nat), .string cv, .bool cg] rfl rfl HNC.out (clL_one ⟨ck, cs, cv, cg⟩) (by unfold maxLen; omega) (by omega) (by simp; omega) ?_)
            intro v2 w2 hown2 hg2 _
            have HO : Hid (w2.ownsRow s 24 4 v2 (rdTo l seq bt (jj + 1)).length (flC (rdTo l seq bt (jj + 1)))) := by
              rw [Hid, HYES.out HTT.out, List.length_append, HNR.out, flC_app]
              exact hown2
            have HB2 : Hid (Below w.heap.size w w2) := (HBW.out.alloc HBW.out.size _).grown hg2 (by have := HBW.out.size; simp; omega) (fun i hi => by have := (World.ownsRow.lt HRQ.out i hi).1; have := HSS.out; omega)
            clear hown2 hg2
            go_wp2_with fail
            go_roundw
            case rel => exact ⟨jj + 1, by omega, by go_num, HO.out, HB2.out⟩
            case measure => simp [intOf]; omega
          · have hd1 : decide (seq < cs) = false := decide_eq_false hgt
            cases B with
            | false =>
              have HTT : Hid (TT = false) := by rw [Hid, ← hTT, hd1]; rfl
              clear hTT
              have HO : Hid _ := HNO.out HTT.out
              go_wp2_with fail
              go_roundw
              case rel => exact ⟨jj + 1, by omega, by go_num, HO.out, HBW.out⟩
              case measure => simp [intOf]; omega
            | true =>
              cases bt with
              | false =>
                have HTT : Hid (TT = true) := by rw [Hid, ← hTT, hd1]; rfl
                clear hTT
                have hra : Hid (∀ o, (wr.alloc o).ownsRow s 24 4 (.slice va nR vc) nR (flC (rdTo l seq false jj))) := fun o => World.ownsRow.alloc HRQ.out o
                have HNC : Hid (∀ j u, [Value.string ck, .int .u64 (cs : Nat), .string cv, .bool cg][j]? = some u → (wr.alloc (.cells #[.string ck, .int .u64 (cs : Nat), .string cv, .bool cg] 24)).cell? ((⟨wr.heap.size, 0, none⟩ : Addr).add j) = some u) := fun j u hj => by
                  rw [addr_add, cells_of_block (World.alloc_heap_new wr _), Nat.zero_add]
                  simpa using hj
                have hsq : s ≤ wr.heap.size := by have := HBW.out.size; have := HSS.out; omega
                go_wp2_with (at_builtin; refine wpList_append_own _ rfl (.tmp 66) (.tmp 68) 25 rfl s 24 i0 (.agg #[.string ByteArray.empty, .int .u64 0, .string ByteArray.empty, .bool false]) 4 48 Try.underlying25 hi hz0 hz1 hz2 rfl (by decide) _ _ _ rfl (hra.out _) ⟨wr.heap.size, 0, none⟩ 1 1 [.string ck, .int .u64 (cs : Nat), .string cv, .bool cg] rfl rfl HNC.out (clL_one ⟨ck, cs, cv, cg⟩) (by unfold maxLen; omega) (by omega) (by simp; omega) ?_)
                intro v2 w2 hown2 hg2 _
                have HO : Hid (w2.ownsRow s 24 4 v2 (rdTo l seq false (jj + 1)).length (flC (rdTo l seq false (jj + 1)))) := by
                  rw [Hid, HYES.out HTT.out, List.length_append, HNR.out, flC_app]
                  exact hown2
                have HB2 : Hid (Below w.heap.size w w2) := (HBW.out.alloc HBW.out.size _).grown hg2 (by have := HBW.out.size; simp; omega) (fun i hi => by have := (World.ownsRow.lt HRQ.out i hi).1; have := HSS.out; omega)
                clear hown2 hg2
                go_wp2_with fail
                go_roundw
                case rel => exact ⟨jj + 1, by omega, by go_num, HO.out, HB2.out⟩
                case measure => simp [intOf]; omega
              | true =>
                cases cg with
                | true =>
                  have HTT : Hid (TT = false) := by rw [Hid, ← hTT, hd1]; rfl
                  clear hTT
                  have HO : Hid _ := HNO.out HTT.out
                  go_wp2_with fail
                  go_roundw
                  case rel => exact ⟨jj + 1, by omega, by go_num, HO.out, HBW.out⟩
                  case measure => simp [intOf]; omega
                | false =>
                  have HTT : Hid (TT = true) := by rw [Hid, ← hTT, hd1]; rfl
                  clear hTT
                  have hra : Hid (∀ o, (wr.alloc o).ownsRow s 24 4 (.slice va nR vc) nR (flC (rdTo l seq true jj))) := fun o => World.ownsRow.alloc HRQ.out o
                  have HNC : Hid (∀ j u, [Value.string ck, .int .u64 (cs : Nat), .string cv, .bool false][j]? = some u → (wr.alloc (.cells #[.string ck, .int .u64 (cs : Nat), .string cv, .bool false] 24)).cell? ((⟨wr.heap.size, 0, none⟩ : Addr).add j) = some u) := fun j u hj => by
                    rw [addr_add, cells_of_block (World.alloc_heap_new wr _), Nat.zero_add]
                    simpa using hj
                  have hsq : s ≤ wr.heap.size := by have := HBW.out.size; have := HSS.out; omega
                  go_wp2_with (at_builtin; refine wpList_append_own _ rfl (.tmp 66) (.tmp 68) 25 rfl s 24 i0 (.agg #[.string ByteArray.empty, .int .u64 0, .string ByteArray.empty, .bool false]) 4 48 Try.underlying25 hi hz0 hz1 hz2 rfl (by decide) _ _ _ rfl (hra.out _) ⟨wr.heap.size, 0, none⟩ 1 1 [.string ck, .int .u64 (cs : Nat), .string cv, .bool false] rfl rfl HNC.out (clL_one ⟨ck, cs, cv, false⟩) (by unfold maxLen; omega) (by omega) (by simp; omega) ?_)
                  intro v2 w2 hown2 hg2 _
                  have HO : Hid (w2.ownsRow s 24 4 v2 (rdTo l seq true (jj + 1)).length (flC (rdTo l seq true (jj + 1)))) := by
                    rw [Hid, HYES.out HTT.out, List.length_append, HNR.out, flC_app]
                    exact hown2
                  have HB2 : Hid (Below w.heap.size w w2) := (HBW.out.alloc HBW.out.size _).grown hg2 (by have := HBW.out.size; simp; omega) (fun i hi => by have := (World.ownsRow.lt HRQ.out i hi).1; have := HSS.out; omega)
                  clear hown2 hg2
                  go_wp2_with fail
                  go_roundw
                  case rel => exact ⟨jj + 1, by omega, by go_num, HO.out, HB2.out⟩
                  case measure => simp [intOf]; omega
    · obtain rfl : k = m := by omega
      obtain ⟨va, vc, rfl⟩ := row_form4 HR.out
      go_wp2_with fail
      go_ret
      exact ⟨_, rfl, by rw [HSS.out]; exact HR.out, HB.out⟩
end Go.Proofs.Ytohamjoiohfoiaa
