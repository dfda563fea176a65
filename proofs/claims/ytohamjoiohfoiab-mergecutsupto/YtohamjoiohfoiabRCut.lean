/-
  The twin's Cut.
-/
import Derived.Test.YtohamjoiohfoiabRCut0
import Derived.Test.YtohamjoiohfoiabMUns
namespace Go.Proofs.Ytohamjoiohfoiab
open Go.RowKit
theorem ref_new {l : List Cl} {most : Int} {pre : List (Nat × Nat)} {y : Nat × Nat} {pcs : List (List Cl)} {p k : List Cl} (h : refP l most pre = (pcs, p)) (hk : cutL l y = k) (h1 : p.length ≠ 0) (h2 : most < wrap64 (wtI p + wtI k)) : refP l most (pre ++ [y]) = (pcs ++ [p], k) := by
  rw [refP_snoc, h, hk, refStep, if_pos ⟨h1, h2⟩]
theorem ref_on {l : List Cl} {most : Int} {pre : List (Nat × Nat)} {y : Nat × Nat} {pcs : List (List Cl)} {p k : List Cl} (h : refP l most pre = (pcs, p)) (hk : cutL l y = k) (h1 : p.length = 0 ∨ ¬ most < wrap64 (wtI p + wtI k)) : refP l most (pre ++ [y]) = (pcs, p ++ k) := by
  rw [refP_snoc, h, hk, refStep, if_neg (by rintro ⟨a, b⟩; rcases h1 with h1 | h1 <;> contradiction)]
theorem ti_out {w W : World} {s : Nat} {v u : Value} {pcs : List (List Cl)} {p : List Cl} (h : TI w s W v u pcs p) (hs : w.heap.size = s) : CutOut w pcs (.returned v) W := by
  obtain ⟨⟨vs, β, h1, h2, h3, h4, h5⟩, h6⟩ := h
  subst hs
  exact ⟨v, rfl, ⟨vs, h1, fun i q hq => by obtain ⟨z, e1, e2, _⟩ := h4 i q hq; exact ⟨z, e1, e2⟩⟩, h6⟩
set_option maxRecDepth 100000 in
set_option maxHeartbeats 8000000 in
theorem rcut_sorted (a : Option Addr) (m cp : Nat) (most : Int) (l : List Cl) (w : World) (hca : CA w.heap.size w a l) (hl : l.length = m) (hm : m ≤ cp) (hmx : m < 100000000) (hs : sortedC l = true) (h1 : decide (most < 1) = false) :
    Calls Try.prog 7 #[.slice a m cp, .int .i64 most] w (CutOut w (cutQ l most)) := by
  obtain ⟨i0, hi, hz0, hz1, hz2⟩ := info_parts info24
  obtain ⟨i1, hj, hj0, hj1, hj2⟩ := info_parts info25
  obtain ⟨s, hsz⟩ : ∃ s, w.heap.size = s := ⟨_, rfl⟩
  have HSZ : Hid (w.heap.size = s) := hsz
  have HCA : Hid (∀ V, Below s w V → CA V.heap.size V a l) := fun V hV => (hca.below (fun b hb => hV.block b (by omega))).up hV.size
  have HL : Hid (l.length = m) := hl
  have HSO : Hid (Calls Try.prog 9 #[.slice a m cp] w fun r w' => r = .returned (.bool true) ∧ Below w.heap.size w w') := by
    have := rsorted_any w.heap.size m cp a l w hca hl (Nat.le_refl _) (by omega)
    rw [hs] at this
    exact this
  have HAG : Hid (allG l = [] ++ grps l (m + 1) 0 ∧ m < 0 + (m + 1)) := ⟨by unfold allG; rw [if_pos hs, hl]; rfl, by omega⟩
  have HT0 : Hid (∀ V, Below w.heap.size w V → TI w s V (.slice none 0 0) (.slice none 0 0) [] []) := fun V hV => by
    have := (TI.start w).below hV
    rw [hsz] at this
    exact this
  have HCP : Hid (m ≤ cp) := hm
  have HSS : Hid (sortedC l = true) := hs
  have HMO : Hid (¬ most < 1) := of_decide_eq_false h1
  clear hca hl hs hm
  go_enter Try.func7, Try.ntmps7
  go_wp2_with (go_at_call 9; refine Calls.mono HSO.out ?_; rintro e w1 ⟨rfl, b1⟩; have HT1 : Hid (TI w s w1 (.slice none 0 0) (.slice none 0 0) [] []) := HT0.out w1 b1; clear b1)
  go_loopw [5, 6, 7] (fun v u iv wr => ∃ (i : Nat) (pre : List (Nat × Nat)) (g : Nat) (pcs : List (List Cl)) (p : List Cl), i ≤ m ∧ iv = .int .i64 (i : Nat) ∧ Hid (allG l = pre ++ grps l g i ∧ m < i + g) ∧ Hid (refP l most pre = (pcs, p)) ∧ Hid (pcs.length ≤ i ∧ p.length ≤ i) ∧ Hid (TI w s wr v u pcs p)) (fun _ _ iv _ => m - (intOf iv).toNat)
  case atStart => exact ⟨0, [], m + 1, [], [], by omega, rfl, HAG.out, rfl, ⟨Nat.le_refl _, Nat.le_refl _⟩, HT1.out⟩
  case round =>
    clear HSO HT0 HT1 HAG
    obtain ⟨i, pre, g, pcs, p, him, rfl, HG, HR, HLE, HTI⟩ := hrel
    obtain ⟨vs0, β0, t1, t2, t3, t4, t5⟩ := HTI.out.ex
    have hbel := HTI.out.bel
    obtain ⟨va, vc, rfl⟩ := row_form4 t1
    obtain ⟨ua, uc, rfl⟩ := row_form4 t5
    obtain ⟨np, hnp⟩ : ∃ n, p.length = n := ⟨_, rfl⟩
    obtain ⟨nv, hnv⟩ : ∃ n, pcs.length = n := ⟨_, rfl⟩
    rw [hnp, hnv] at HTI
    rw [hnp] at t5
    rw [hnv] at t1
    have HLP : Hid (p.length = np) := hnp
    have HLQ : Hid (pcs.length = nv) := hnv
    have hnpi : np ≤ i := by have := HLE.out.2; omega
    have hnvi : nv ≤ i := by have := HLE.out.1; omega
    rw [hnp, hnv]
    clear t1 t2 t3 t4 t5
    by_cases hlt : i < m
    · obtain ⟨c0, hc0⟩ : ∃ c, l[i]? = some c := ⟨l[i]'(by rw [HL.out]; exact hlt), List.getElem?_eq_getElem _⟩
      obtain ⟨b, off, rfl, _, y0, y1, y2, y3⟩ := HCA.out wr hbel i c0 hc0
      have HC0 : Hid (l[i]? = some c0) := hc0
      obtain ⟨g, rfl⟩ : ∃ g', g = g' + 1 := ⟨g - 1, by have := HG.out.2; omega⟩
      have HY : Hid (wr.cell? ⟨b, off + i * 4, none⟩ = some (.string c0.key)) := y0
      have HBE : Hid (Below s w wr) := hbel
      clear hc0 y0 y1 y2 y3 hbel hnp hnv
      obtain ⟨wo, rfl⟩ : ∃ wo, wo = wr := ⟨_, rfl⟩
      go_wp2_with fail
      go_loopw [8] (fun kv wi => ∃ k : Nat, i ≤ k ∧ k ≤ m ∧ kv = .int .i64 (k : Nat) ∧ Hid (∀ j x, i ≤ j → j < k → l[j]? = some x → sameK x c0 = true) ∧ Hid (∃ q, wi = wo.drewN q)) (fun kv _ => m - (intOf kv).toNat)
      case atStart => exact ⟨i, by omega, by omega, rfl, fun j x h h' => by omega, ⟨0, rfl⟩⟩
      case round =>
        obtain ⟨k, hik, hkm, rfl, HK, HQ⟩ := hrel
        obtain ⟨q, rfl⟩ := HQ.out
        have y0 : wo.cell? ⟨b, off + i * 4, none⟩ = some (.string c0.key) := HY.out
        by_cases hkm2 : k < m
        · obtain ⟨x, hx⟩ : ∃ x, l[k]? = some x := ⟨l[k]'(by rw [HL.out]; exact hkm2), List.getElem?_eq_getElem _⟩
          have HXI : Hid (l[k]? = some x) := hx
          obtain ⟨b', off', e, _, x0', _⟩ := HCA.out wo HBE.out k x hx
          cases e
          have x0 : wo.cell? ⟨b, off + k * 4, none⟩ = some (.string x.key) := x0'
          have hd1 : decide ((k : Int) < (m : Int)) = true := decide_eq_true (by omega)
          clear hx x0'
          cases hsk : (x.key.toList == c0.key.toList) with
          | true =>
            have HSK : Hid (sameK x c0 = true) := hsk
            go_wp2_with fail
            go_quiet (fail)
            go_wp2_with fail
            go_roundw
            case rel =>
              refine ⟨k + 1, by omega, by omega, by go_num, fun j z h1 h2 hz => ?_, ⟨q + nq, by simp⟩⟩
              by_cases e : j = k
              · subst e
                rw [HXI.out] at hz
                cases hz
                exact HSK.out
              · exact HK.out j z h1 (by omega) hz
            case measure => simp [intOf]; omega
          | false =>
            have HSK : Hid (sameK x c0 = false) := hsk
            have hikk : i < k := by
              by_cases e : i = k
              · exfalso
                have h1 := HXI.out
                rw [← e, HC0.out] at h1
                cases h1
                have := HSK.out
                rw [sameK_refl] at this
                cases this
              · omega
            have HRN : Hid (runN (l.drop i) = k - i) := runN_of (c := c0) (by rw [List.getElem?_drop]; exact HC0.out) (by rw [List.length_drop, HL.out]; omega) (fun j z hj hz => HK.out (i + j) z (by omega) (by omega) (by rw [List.getElem?_drop] at hz; exact hz)) (fun z hz => by rw [List.getElem?_drop, Nat.add_sub_cancel' (by omega), HXI.out] at hz; cases hz; exact HSK.out)
            go_wp2_with fail
            go_quiet (fail)
            go_wp2_with fail
            obtain ⟨K, hK⟩ : ∃ K, cutL l (i, k - i) = K := ⟨_, rfl⟩
            have HKE : Hid (cutL l (i, k - i) = K) := hK
            have HKL : Hid (K.length = k - i) := by
              rw [← hK]
              unfold cutL
              rw [Hid, List.length_take, List.length_drop, HL.out]
              omega
            have HGK : Hid (allG l = (pre ++ [(i, k - i)]) ++ grps l g k ∧ m < k + g) := by
              have h0 := HG.out
              rw [grps, if_pos (by rw [HL.out]; omega), HRN.out, Nat.add_sub_cancel' (by omega)] at h0
              exact ⟨by rw [h0.1, List.append_assoc]; rfl, by omega⟩
            have HFK : Hid ((flC K).length = (k - i) * 4) := by rw [Hid, flC_len, HKL.out]
            have HNK : Hid (∀ V, Below s w V → ∀ j u, (flC K)[j]? = some u → V.cell? ((⟨b, off + i * 4, none⟩ : Addr).add j) = some u) := fun V hV => by rw [← hK]; exact ca_flat' (CA.cut (HCA.out V hV) (i, k - i))
            obtain ⟨x1, hx1⟩ : ∃ x, wtI p = x := ⟨_, rfl⟩
            obtain ⟨x2, hx2⟩ : ∃ x, wtI K = x := ⟨_, rfl⟩
            have HSW : Hid (s ≤ wo.heap.size) := by have := HBE.out.size; have := HSZ.out; rw [Hid]; omega
            have Z1 : Hid (∀ V, Below wo.heap.size wo V → Calls Try.prog 17 #[.slice ua np uc] V fun r w' => r = .returned (.int .i64 x1) ∧ Below wo.heap.size wo w') := fun V hV => by
              obtain ⟨vs, β, t1, t2, t3, t4, t5⟩ := (HTI.out.below hV).ex
              obtain ⟨a', c', e, _, hc⟩ := ca_row t5
              rw [HLP.out] at e
              cases e
              have := size_any V.heap.size np uc ua p V hc HLP.out (Nat.le_refl _) (by omega)
              rw [hx1] at this
              exact Calls.mono this (by rintro r w' ⟨rfl, b⟩; exact ⟨rfl, hV.trans (b.mono hV.size)⟩)
            have Z2 : Hid (∀ V, Below wo.heap.size wo V → Calls Try.prog 17 #[.slice (some ⟨b, off + i * 4, none⟩) (k - i) (cp - i)] V fun r w' => r = .returned (.int .i64 x2) ∧ Below wo.heap.size wo w') := fun V hV => by
              have hc := CA.cut (HCA.out V (HBE.out.trans (hV.mono HSW.out))) (i, k - i)
              rw [hK] at hc
              have := size_any V.heap.size (k - i) (cp - i) _ K V hc HKL.out (Nat.le_refl _) (by omega)
              rw [hx2] at this
              exact Calls.mono this (by rintro r w' ⟨rfl, b⟩; exact ⟨rfl, hV.trans (b.mono hV.size)⟩)
            have hkcp : k ≤ cp := by have := HCP.out; omega
            have hicp : i ≤ cp := by omega
            by_cases hnp0 : np = 0
            · have HON : Hid (p.length = 0 ∨ ¬ most < wrap64 (wtI p + wtI K)) := Or.inl (by rw [HLP.out]; exact hnp0)
              have hdp : decide ((0 : Int) < (np : Int)) = false := decide_eq_false (by omega)
              have hdp2 : decide (0 < np) = false := decide_eq_false (by omega)
              clear Z1 Z2 HQ HK
              refine wp_region_held_drew (S := (fun _ => True)) (by kernel_rfl) trivial (fun hHeld => ?_)
              refine wpAnyH_take (i := 0) (oi := ({ dst := some 40, op := Op.move (Operand.tmp 6), type := 22, pos := "ref.go:95", after := #[], guard := none } : Oper)) (v := ?_) rfl (by kernel_rfl) (by kernel_rfl) (by kernel_rfl) (fun _ _ _ h => h) (Or.inl ⟨by rfl, ?_⟩) (by assumption) ?_
              rotate_left
              · (intro w hSw; (try dsimp only at hSw); go_simp; try with_reducible rfl)
              try simp only [Act.put, List.setIfInBounds_toArray, List.set_cons_zero, List.set_cons_succ]
              refine wpAnyH_take (i := 1) (oi := ({ dst := some 41, op := Op.call { callee := Callee.builtin Builtin.len, args := #[Operand.tmp 40], argTypes := #[22] }, type := 3, pos := "ref.go:95", after := #[{ on := 0, ground := Ground.data }], guard := none } : Oper)) (v := ?_) rfl (by kernel_rfl) (by kernel_rfl) (by kernel_rfl) (fun _ _ _ h => h) (Or.inl ⟨by rfl, ?_⟩) (by assumption) ?_
              rotate_left
              · (intro w hSw; (try dsimp only at hSw); go_simp; try with_reducible rfl)
              try simp only [Act.put, List.setIfInBounds_toArray, List.set_cons_zero, List.set_cons_succ]
              refine wpAnyH_take (i := 2) (oi := ({ dst := some 42, op := Op.binOp BinOp.gtr 3 (Operand.tmp 41) (Operand.const (Value.int IntKind.i64 0)) 3, type := 4, pos := "ref.go:95", after := #[{ on := 1, ground := Ground.data }], guard := none } : Oper)) (v := ?_) rfl (by kernel_rfl) (by kernel_rfl) (by kernel_rfl) (fun _ _ _ h => h) (Or.inl ⟨by rfl, ?_⟩) (by assumption) ?_
              rotate_left
              · (intro w hSw; (try dsimp only at hSw); go_simp; try with_reducible rfl)
              try simp only [Act.put, List.setIfInBounds_toArray, List.set_cons_zero, List.set_cons_succ]
              refine wpAnyH_take (i := 3) (oi := ({ dst := some 43, op := Op.move (Operand.tmp 42), type := 4, pos := "ref.go:95", after := #[{ on := 2, ground := Ground.data }], guard := none } : Oper)) (v := ?_) rfl (by kernel_rfl) (by kernel_rfl) (by kernel_rfl) (fun _ _ _ h => h) (Or.inl ⟨by rfl, ?_⟩) (by assumption) ?_
              rotate_left
              · (intro w hSw; (try dsimp only at hSw); go_simp; try with_reducible rfl)
              try simp only [Act.put, List.setIfInBounds_toArray, List.set_cons_zero, List.set_cons_succ]
              refine wpAnyH_take (i := 4) (oi := ({ dst := some 44, op := Op.move (Operand.tmp 6), type := 22, pos := "ref.go:95", after := #[{ on := 3, ground := Ground.guard }], guard := some (3, true) } : Oper)) (v := undef) rfl (by kernel_rfl) (by kernel_rfl) (by kernel_rfl) (fun _ _ _ h => h) (Or.inr ⟨by rfl, rfl⟩) (by assumption) ?_
              try simp only [Act.put, List.setIfInBounds_toArray, List.set_cons_zero, List.set_cons_succ]
              refine wpAnyH_take (i := 5) (oi := ({ dst := some 45, op := Op.call { callee := Callee.value (Operand.func 17), args := #[Operand.tmp 44], argTypes := #[22] }, type := 3, pos := "ref.go:95", after := #[{ on := 4, ground := Ground.data }, { on := 3, ground := Ground.chain }, { on := 3, ground := Ground.guard }], guard := some (3, true) } : Oper)) (v := undef) rfl (by kernel_rfl) (by kernel_rfl) (by kernel_rfl) (fun _ _ _ h => h) (Or.inr ⟨by rfl, rfl⟩) (by assumption) ?_
              try simp only [Act.put, List.setIfInBounds_toArray, List.set_cons_zero, List.set_cons_succ]
              refine wpAnyH_take (i := 6) (oi := ({ dst := some 46, op := Op.move (Operand.tmp 0), type := 22, pos := "ref.go:95", after := #[{ on := 3, ground := Ground.guard }], guard := some (3, true) } : Oper)) (v := undef) rfl (by kernel_rfl) (by kernel_rfl) (by kernel_rfl) (fun _ _ _ h => h) (Or.inr ⟨by rfl, rfl⟩) (by assumption) ?_
              try simp only [Act.put, List.setIfInBounds_toArray, List.set_cons_zero, List.set_cons_succ]
              refine wpAnyH_take (i := 7) (oi := ({ dst := some 47, op := Op.move (Operand.tmp 7), type := 3, pos := "ref.go:95", after := #[{ on := 3, ground := Ground.guard }], guard := some (3, true) } : Oper)) (v := undef) rfl (by kernel_rfl) (by kernel_rfl) (by kernel_rfl) (fun _ _ _ h => h) (Or.inr ⟨by rfl, rfl⟩) (by assumption) ?_
              try simp only [Act.put, List.setIfInBounds_toArray, List.set_cons_zero, List.set_cons_succ]
              refine wpAnyH_take (i := 8) (oi := ({ dst := some 48, op := Op.move (Operand.tmp 8), type := 3, pos := "ref.go:95", after := #[{ on := 3, ground := Ground.guard }], guard := some (3, true) } : Oper)) (v := undef) rfl (by kernel_rfl) (by kernel_rfl) (by kernel_rfl) (fun _ _ _ h => h) (Or.inr ⟨by rfl, rfl⟩) (by assumption) ?_
              try simp only [Act.put, List.setIfInBounds_toArray, List.set_cons_zero, List.set_cons_succ]
              refine wpAnyH_take (i := 9) (oi := ({ dst := some 49, op := Op.slice 22 (Operand.tmp 46) (some (Operand.tmp 47)) (some (Operand.tmp 48)) none, type := 22, pos := "ref.go:95", after := #[{ on := 6, ground := Ground.data }, { on := 7, ground := Ground.data }, { on := 8, ground := Ground.data }, { on := 3, ground := Ground.guard }], guard := some (3, true) } : Oper)) (v := undef) rfl (by kernel_rfl) (by kernel_rfl) (by kernel_rfl) (fun _ _ _ h => h) (Or.inr ⟨by rfl, rfl⟩) (by assumption) ?_
              try simp only [Act.put, List.setIfInBounds_toArray, List.set_cons_zero, List.set_cons_succ]
              refine wpAnyH_take (i := 10) (oi := ({ dst := some 50, op := Op.call { callee := Callee.value (Operand.func 17), args := #[Operand.tmp 49], argTypes := #[22] }, type := 3, pos := "ref.go:95", after := #[{ on := 9, ground := Ground.data }, { on := 5, ground := Ground.chain }, { on := 3, ground := Ground.guard }], guard := some (3, true) } : Oper)) (v := undef) rfl (by kernel_rfl) (by kernel_rfl) (by kernel_rfl) (fun _ _ _ h => h) (Or.inr ⟨by rfl, rfl⟩) (by assumption) ?_
              try simp only [Act.put, List.setIfInBounds_toArray, List.set_cons_zero, List.set_cons_succ]
              refine wpAnyH_take (i := 11) (oi := ({ dst := some 51, op := Op.binOp BinOp.add 3 (Operand.tmp 45) (Operand.tmp 50) 3, type := 3, pos := "ref.go:95", after := #[{ on := 5, ground := Ground.data }, { on := 10, ground := Ground.data }, { on := 3, ground := Ground.guard }], guard := some (3, true) } : Oper)) (v := undef) rfl (by kernel_rfl) (by kernel_rfl) (by kernel_rfl) (fun _ _ _ h => h) (Or.inr ⟨by rfl, rfl⟩) (by assumption) ?_
              try simp only [Act.put, List.setIfInBounds_toArray, List.set_cons_zero, List.set_cons_succ]
              refine wpAnyH_take (i := 12) (oi := ({ dst := some 52, op := Op.move (Operand.tmp 1), type := 3, pos := "ref.go:95", after := #[{ on := 3, ground := Ground.guard }], guard := some (3, true) } : Oper)) (v := undef) rfl (by kernel_rfl) (by kernel_rfl) (by kernel_rfl) (fun _ _ _ h => h) (Or.inr ⟨by rfl, rfl⟩) (by assumption) ?_
              try simp only [Act.put, List.setIfInBounds_toArray, List.set_cons_zero, List.set_cons_succ]
              refine wpAnyH_take (i := 13) (oi := ({ dst := some 53, op := Op.binOp BinOp.gtr 3 (Operand.tmp 51) (Operand.tmp 52) 3, type := 4, pos := "ref.go:95", after := #[{ on := 11, ground := Ground.data }, { on := 12, ground := Ground.data }, { on := 3, ground := Ground.guard }], guard := some (3, true) } : Oper)) (v := undef) rfl (by kernel_rfl) (by kernel_rfl) (by kernel_rfl) (fun _ _ _ h => h) (Or.inr ⟨by rfl, rfl⟩) (by assumption) ?_
              try simp only [Act.put, List.setIfInBounds_toArray, List.set_cons_zero, List.set_cons_succ]
              refine wpAnyH_take (i := 14) (oi := ({ dst := some 54, op := Op.pick (Operand.tmp 43) (Operand.tmp 53) (Operand.const (Value.bool false)), type := 4, pos := "ref.go:95", after := #[{ on := 3, ground := Ground.data }, { on := 13, ground := Ground.data }], guard := none } : Oper)) (v := ?_) rfl (by kernel_rfl) (by kernel_rfl) (by kernel_rfl) (fun _ _ _ h => h) (Or.inl ⟨by rfl, ?_⟩) (by assumption) ?_
              rotate_left
              · (intro w hSw; (try dsimp only at hSw); go_simp; try with_reducible rfl)
              try simp only [Act.put, List.setIfInBounds_toArray, List.set_cons_zero, List.set_cons_succ]
              refine wpAnyH_done (by kernel_rfl) ?_ _
              have hbx : Below wo.heap.size wo (wo.drewN (q + (nq + 1))) := belD wo (q + (nq + 1))
              try simp only [World.drew_drewN, World.drewN_drewN, Nat.add_assoc]
              generalize wo.drewN (q + (nq + 1)) = wx at hbx ⊢
              have HTX : Hid (TI w s wx (.slice va nv vc) (.slice ua np uc) pcs p) := HTI.out.below hbx
              obtain ⟨vs, β, t1, t2, t3, t4, t5⟩ := HTX.out.ex
              have tb := HTX.out.bel
              rw [HLP.out] at t5
              have HRU : Hid (RowAt wx β 29 4 (.slice ua np uc) np (flC p)) := t5
              have HTG : Hid (∀ (w5 : World) u2, w5.ownsRow β 29 4 u2 (np + (k - i)) (flC p ++ flC K) → wx.grownBy w5 (Value.slice ua np uc).ownBlock → TI w s w5 (.slice va nv vc) u2 pcs (p ++ K)) := fun w5 u2 g1 g2 => TI.grow HLP.out HKL.out t1 t2 t3 t4 t5 tb g1 g2
              have HNX := HNK.out wx tb
              have HSX : Hid (β ≤ wx.heap.size) := t3
              clear t1 t2 t3 t4 t5 tb HTX HTI
              go_wp2_with (at_builtin; refine wpList_append_own _ rfl _ _ 22 rfl β 29 i0 (.agg #[.string ByteArray.empty, .int .u64 0, .string ByteArray.empty, .bool false]) 4 48 Try.underlying22 hi hz0 hz1 hz2 rfl (by decide) _ _ _ rfl HRU.out ⟨b, off + i * 4, none⟩ (k - i) (cp - i) (flC K) rfl HFK.out HNX (flC_one _) (by unfold maxLen; omega) (by omega) HSX.out ?_; intro v2 w5 hown2 hg2 _; obtain ⟨na2, nc2, rfl⟩ := row_form4 hown2; have HT5 : Hid (TI w s w5 (.slice va nv vc) (.slice na2 (np + (k - i)) nc2) pcs (p ++ K)) := HTG.out w5 _ hown2 hg2; clear hown2 hg2)
              go_roundw
              case rel => exact ⟨k, pre ++ [(i, k - i)], g, pcs, p ++ K, by omega, rfl, HGK.out, ref_on HR.out HKE.out (by have h := HON.out; rcases h with h | h; exact Or.inl h; exact Or.inr (by omega)), ⟨by have := HLQ.out; omega, by rw [List.length_append, HLP.out, HKL.out]; omega⟩, by first | exact HT5.out | (have h := HT5.out; rw [hnp0, Nat.zero_add] at h; exact h)⟩
              case measure => simp [intOf]; omega
            · have hdp : decide ((0 : Int) < (np : Int)) = true := decide_eq_true (by omega)
              have hdp2 : decide (0 < np) = true := decide_eq_true (by omega)
              have HNE : Hid (p.length ≠ 0) := by rw [HLP.out]; exact hnp0
              have SD : Below wo.heap.size wo (wo.drewN (q + nq + 1)) := belD wo (q + nq + 1)
              by_cases hbig : most < wrap64 (x1 + x2)
              · have HBG : Hid (most < wrap64 (wtI p + wtI K)) := by rw [hx1, hx2]; exact hbig
                have hdb : decide (most < wrap64 (x1 + x2)) = true := decide_eq_true hbig
                have hdb2 : decide (most < IntKind.i64.wrap (x1 + x2)) = true := by rw [IntKind.wrap_i64]; exact decide_eq_true (by unfold wrap64 at hbig; omega)
                clear HQ HK
                refine wp_region_held_drew (S := (fun _ => True)) (by kernel_rfl) trivial (fun hHeld => ?_)
                refine wpAnyH_take (i := 0) (oi := ({ dst := some 40, op := Op.move (Operand.tmp 6), type := 22, pos := "ref.go:95", after := #[], guard := none } : Oper)) (v := ?_) rfl (by kernel_rfl) (by kernel_rfl) (by kernel_rfl) (fun _ _ _ h => h) (Or.inl ⟨by rfl, ?_⟩) (by assumption) ?_
                rotate_left
                · (intro w hSw; (try dsimp only at hSw); go_simp; try with_reducible rfl)
                try simp only [Act.put, List.setIfInBounds_toArray, List.set_cons_zero, List.set_cons_succ]
                refine wpAnyH_take (i := 1) (oi := ({ dst := some 41, op := Op.call { callee := Callee.builtin Builtin.len, args := #[Operand.tmp 40], argTypes := #[22] }, type := 3, pos := "ref.go:95", after := #[{ on := 0, ground := Ground.data }], guard := none } : Oper)) (v := ?_) rfl (by kernel_rfl) (by kernel_rfl) (by kernel_rfl) (fun _ _ _ h => h) (Or.inl ⟨by rfl, ?_⟩) (by assumption) ?_
                rotate_left
                · (intro w hSw; (try dsimp only at hSw); go_simp; try with_reducible rfl)
                try simp only [Act.put, List.setIfInBounds_toArray, List.set_cons_zero, List.set_cons_succ]
                refine wpAnyH_take (i := 2) (oi := ({ dst := some 42, op := Op.binOp BinOp.gtr 3 (Operand.tmp 41) (Operand.const (Value.int IntKind.i64 0)) 3, type := 4, pos := "ref.go:95", after := #[{ on := 1, ground := Ground.data }], guard := none } : Oper)) (v := ?_) rfl (by kernel_rfl) (by kernel_rfl) (by kernel_rfl) (fun _ _ _ h => h) (Or.inl ⟨by rfl, ?_⟩) (by assumption) ?_
                rotate_left
                · (intro w hSw; (try dsimp only at hSw); go_simp; try with_reducible rfl)
                try simp only [Act.put, List.setIfInBounds_toArray, List.set_cons_zero, List.set_cons_succ]
                refine wpAnyH_take (i := 3) (oi := ({ dst := some 43, op := Op.move (Operand.tmp 42), type := 4, pos := "ref.go:95", after := #[{ on := 2, ground := Ground.data }], guard := none } : Oper)) (v := ?_) rfl (by kernel_rfl) (by kernel_rfl) (by kernel_rfl) (fun _ _ _ h => h) (Or.inl ⟨by rfl, ?_⟩) (by assumption) ?_
                rotate_left
                · (intro w hSw; (try dsimp only at hSw); go_simp; try with_reducible rfl)
                try simp only [Act.put, List.setIfInBounds_toArray, List.set_cons_zero, List.set_cons_succ]
                refine wpAnyH_take (i := 4) (oi := ({ dst := some 44, op := Op.move (Operand.tmp 6), type := 22, pos := "ref.go:95", after := #[{ on := 3, ground := Ground.guard }], guard := some (3, true) } : Oper)) (v := ?_) rfl (by kernel_rfl) (by kernel_rfl) (by kernel_rfl) (fun _ _ _ h => h) (Or.inl ⟨by rfl, ?_⟩) (by assumption) ?_
                rotate_left
                · (intro w hSw; (try dsimp only at hSw); go_simp; try with_reducible rfl)
                try simp only [Act.put, List.setIfInBounds_toArray, List.set_cons_zero, List.set_cons_succ]
                refine wpAnyH_take (i := 6) (oi := ({ dst := some 46, op := Op.move (Operand.tmp 0), type := 22, pos := "ref.go:95", after := #[{ on := 3, ground := Ground.guard }], guard := some (3, true) } : Oper)) (v := ?_) rfl (by kernel_rfl) (by kernel_rfl) (by kernel_rfl) (fun _ _ _ h => h) (Or.inl ⟨by rfl, ?_⟩) (by assumption) ?_
                rotate_left
                · (intro w hSw; (try dsimp only at hSw); go_simp; try with_reducible rfl)
                try simp only [Act.put, List.setIfInBounds_toArray, List.set_cons_zero, List.set_cons_succ]
                refine wpAnyH_take (i := 7) (oi := ({ dst := some 47, op := Op.move (Operand.tmp 7), type := 3, pos := "ref.go:95", after := #[{ on := 3, ground := Ground.guard }], guard := some (3, true) } : Oper)) (v := ?_) rfl (by kernel_rfl) (by kernel_rfl) (by kernel_rfl) (fun _ _ _ h => h) (Or.inl ⟨by rfl, ?_⟩) (by assumption) ?_
                rotate_left
                · (intro w hSw; (try dsimp only at hSw); go_simp; try with_reducible rfl)
                try simp only [Act.put, List.setIfInBounds_toArray, List.set_cons_zero, List.set_cons_succ]
                refine wpAnyH_take (i := 8) (oi := ({ dst := some 48, op := Op.move (Operand.tmp 8), type := 3, pos := "ref.go:95", after := #[{ on := 3, ground := Ground.guard }], guard := some (3, true) } : Oper)) (v := ?_) rfl (by kernel_rfl) (by kernel_rfl) (by kernel_rfl) (fun _ _ _ h => h) (Or.inl ⟨by rfl, ?_⟩) (by assumption) ?_
                rotate_left
                · (intro w hSw; (try dsimp only at hSw); go_simp; try with_reducible rfl)
                try simp only [Act.put, List.setIfInBounds_toArray, List.set_cons_zero, List.set_cons_succ]
                refine wpAnyH_take (i := 9) (oi := ({ dst := some 49, op := Op.slice 22 (Operand.tmp 46) (some (Operand.tmp 47)) (some (Operand.tmp 48)) none, type := 22, pos := "ref.go:95", after := #[{ on := 6, ground := Ground.data }, { on := 7, ground := Ground.data }, { on := 8, ground := Ground.data }, { on := 3, ground := Ground.guard }], guard := some (3, true) } : Oper)) (v := ?_) rfl (by kernel_rfl) (by kernel_rfl) (by kernel_rfl) (fun _ _ _ h => h) (Or.inl ⟨by rfl, ?_⟩) (by assumption) ?_
                rotate_left
                · (intro w hSw; (try dsimp only at hSw); go_simp; try with_reducible rfl)
                try simp only [Act.put, List.setIfInBounds_toArray, List.set_cons_zero, List.set_cons_succ]
                refine wpAnyH_take (i := 12) (oi := ({ dst := some 52, op := Op.move (Operand.tmp 1), type := 3, pos := "ref.go:95", after := #[{ on := 3, ground := Ground.guard }], guard := some (3, true) } : Oper)) (v := ?_) rfl (by kernel_rfl) (by kernel_rfl) (by kernel_rfl) (fun _ _ _ h => h) (Or.inl ⟨by rfl, ?_⟩) (by assumption) ?_
                rotate_left
                · (intro w hSw; (try dsimp only at hSw); go_simp; try with_reducible rfl)
                try simp only [Act.put, List.setIfInBounds_toArray, List.set_cons_zero, List.set_cons_succ]
                refine wpAnyH_ready (rs := [5]) (by kernel_rfl) (by simp) ?_
                refine AllReadyH.cons rfl (fun K hK => ?_) AllReadyH.nil
                go_simp
                go_wp2_with (go_at_call 17; refine Calls.mono (Z1.out _ (by assumption)) ?_; rintro e wa ⟨rfl, ba⟩)
                refine hK.out _ _ (by trivial) (fun hHeld => ?_)
                clear hK K
                refine wpAnyH_ready (rs := [10]) (by kernel_rfl) (by simp) ?_
                refine AllReadyH.cons rfl (fun K hK => ?_) AllReadyH.nil
                go_simp
                go_wp2_with (go_at_call 17; refine Calls.mono (Z2.out _ (by assumption)) ?_; rintro e wb ⟨rfl, bb⟩)
                refine hK.out _ _ (by trivial) (fun hHeld => ?_)
                clear hK K
                refine wpAnyH_take (i := 11) (oi := ({ dst := some 51, op := Op.binOp BinOp.add 3 (Operand.tmp 45) (Operand.tmp 50) 3, type := 3, pos := "ref.go:95", after := #[{ on := 5, ground := Ground.data }, { on := 10, ground := Ground.data }, { on := 3, ground := Ground.guard }], guard := some (3, true) } : Oper)) (v := ?_) rfl (by kernel_rfl) (by kernel_rfl) (by kernel_rfl) (fun _ _ _ h => h) (Or.inl ⟨by rfl, ?_⟩) (by assumption) ?_
                rotate_left
                · (intro w hSw; (try dsimp only at hSw); go_simp; try with_reducible rfl)
                try simp only [Act.put, List.setIfInBounds_toArray, List.set_cons_zero, List.set_cons_succ]
                refine wpAnyH_take (i := 13) (oi := ({ dst := some 53, op := Op.binOp BinOp.gtr 3 (Operand.tmp 51) (Operand.tmp 52) 3, type := 4, pos := "ref.go:95", after := #[{ on := 11, ground := Ground.data }, { on := 12, ground := Ground.data }, { on := 3, ground := Ground.guard }], guard := some (3, true) } : Oper)) (v := ?_) rfl (by kernel_rfl) (by kernel_rfl) (by kernel_rfl) (fun _ _ _ h => h) (Or.inl ⟨by rfl, ?_⟩) (by assumption) ?_
                rotate_left
                · (intro w hSw; (try dsimp only at hSw); go_simp; try with_reducible rfl)
                try simp only [Act.put, List.setIfInBounds_toArray, List.set_cons_zero, List.set_cons_succ]
                refine wpAnyH_take (i := 14) (oi := ({ dst := some 54, op := Op.pick (Operand.tmp 43) (Operand.tmp 53) (Operand.const (Value.bool false)), type := 4, pos := "ref.go:95", after := #[{ on := 3, ground := Ground.data }, { on := 13, ground := Ground.data }], guard := none } : Oper)) (v := ?_) rfl (by kernel_rfl) (by kernel_rfl) (by kernel_rfl) (fun _ _ _ h => h) (Or.inl ⟨by rfl, ?_⟩) (by assumption) ?_
                rotate_left
                · (intro w hSw; (try dsimp only at hSw); go_simp; try with_reducible rfl)
                try simp only [Act.put, List.setIfInBounds_toArray, List.set_cons_zero, List.set_cons_succ]
                refine wpAnyH_done (by kernel_rfl) ?_ _
                have HTX : Hid (TI w s wb (.slice va nv vc) (.slice ua np uc) pcs p) := HTI.out.below bb
                obtain ⟨vs, β, t1, t2, t3, t4, t5⟩ := HTX.out.ex
                have tb := HTX.out.bel
                rw [HLP.out] at t5
                rw [HLQ.out] at t1
                have HRV : Hid (RowAt (wb.alloc (.cells #[.slice ua np uc] 22)) s 22 1 (.slice va nv vc) nv vs) := World.ownsRow.alloc t1 _
                have HTP : Hid (∀ (w4 : World) v2, w4.ownsRow s 22 1 v2 (nv + 1) (vs ++ [.slice ua np uc]) → (wb.alloc (.cells #[.slice ua np uc] 22)).grownBy w4 (Value.slice va nv vc).ownBlock → TI w s w4 v2 (.slice none 0 0) (pcs ++ [p]) []) := fun w4 v2 g1 g2 => TI.push HLQ.out HLP.out t1 t2 t3 t4 t5 tb g1 g2
                have HN1 : Hid (∀ j u, ([Value.slice ua np uc] : List Value)[j]? = some u → (wb.alloc (.cells #[.slice ua np uc] 22)).cell? ((⟨wb.heap.size, 0, none⟩ : Addr).add j) = some u) := fun j u h => by
                  rw [addr_add, Nat.zero_add, cells_of_block (World.alloc_heap_new wb _) j]
                  simpa using h
                have HS1 : Hid (s ≤ (wb.alloc (.cells #[.slice ua np uc] 22)).heap.size) := by have := t2; have := t3; rw [Hid, World.size_alloc]; omega
                clear t1 t2 t3 t4 t5 tb HTX HTI
                go_wp2_with (first
                  | (at_builtin; refine wpList_append_own _ rfl _ _ 22 rfl β4 29 i0 (.agg #[.string ByteArray.empty, .int .u64 0, .string ByteArray.empty, .bool false]) 4 48 Try.underlying22 hi hz0 hz1 hz2 rfl (by decide) _ _ _ rfl HRU.out ⟨b, off + i * 4, none⟩ (k - i) (cp - i) (flC K) rfl HFK.out HNX.out (flC_one _) (by unfold maxLen; omega) (by omega) HSX.out ?_; intro v2 w5 hown2 hg2 _; obtain ⟨na2, nc2, rfl⟩ := row_form4 hown2; have HT5 : Hid (TI w s w5 (.slice va3 (nv + 1) vc3) (.slice na2 (k - i) nc2) (pcs ++ [p]) K) := (by have h := HTG.out w5 _ hown2 hg2; rw [Nat.zero_add, List.nil_append] at h; exact h); clear hown2 hg2)
                  | (at_builtin; refine wpList_append_own _ rfl _ _ 24 rfl s 22 i1 (.slice none 0 0) 1 24 Try.underlying24 hj hj0 hj1 hj2 rfl (by decide) _ _ _ rfl HRV.out ⟨wb.heap.size, 0, none⟩ 1 1 [.slice ua np uc] rfl rfl HN1.out (by simp [Value.oneCell']) (by unfold maxLen; omega) (by omega) HS1.out ?_; intro v3 w4 hown3 hg3 _; obtain ⟨va3, vc3, rfl⟩ := row_form4 hown3; have HT4 : Hid (TI w s w4 (.slice va3 (nv + 1) vc3) (.slice none 0 0) (pcs ++ [p]) []) := HTP.out w4 _ hown3 hg3; obtain ⟨vs4, β4, s1, s2, s3, s4, s5⟩ := HT4.out.ex; have sb := HT4.out.bel; have HRU : Hid (RowAt w4 β4 29 4 (.slice none 0 0) 0 []) := s5; have HTG : Hid (∀ (w5 : World) u2, w5.ownsRow β4 29 4 u2 (0 + (k - i)) (([] : List Value) ++ flC K) → w4.grownBy w5 (Value.slice none 0 0).ownBlock → TI w s w5 (.slice va3 (nv + 1) vc3) u2 (pcs ++ [p]) ([] ++ K)) := (fun w5 u2 g1 g2 => TI.grow (p := []) rfl HKL.out s1 s2 s3 s4 s5 sb g1 g2); have HNX : Hid _ := HNK.out w4 sb; have HSX : Hid (β4 ≤ w4.heap.size) := s3; clear s1 s2 s3 s4 s5 sb hown3 hg3 HT4 HRV HTP))
                go_roundw
                case rel => exact ⟨k, pre ++ [(i, k - i)], g, pcs ++ [p], K, by omega, rfl, HGK.out, ref_new HR.out HKE.out HNE.out HBG.out, ⟨by rw [List.length_append, HLQ.out, List.length_singleton]; omega, by rw [HKL.out]; omega⟩, HT5.out⟩
                case measure => simp [intOf]; omega
              · have HON : Hid (p.length = 0 ∨ ¬ most < wrap64 (wtI p + wtI K)) := Or.inr (by rw [hx1, hx2]; exact hbig)
                have hdb : decide (most < wrap64 (x1 + x2)) = false := decide_eq_false hbig
                have hdb2 : decide (most < IntKind.i64.wrap (x1 + x2)) = false := by rw [IntKind.wrap_i64]; exact decide_eq_false (by unfold wrap64 at hbig; omega)
                clear HQ HK
                refine wp_region_held_drew (S := (fun _ => True)) (by kernel_rfl) trivial (fun hHeld => ?_)
                refine wpAnyH_take (i := 0) (oi := ({ dst := some 40, op := Op.move (Operand.tmp 6), type := 22, pos := "ref.go:95", after := #[], guard := none } : Oper)) (v := ?_) rfl (by kernel_rfl) (by kernel_rfl) (by kernel_rfl) (fun _ _ _ h => h) (Or.inl ⟨by rfl, ?_⟩) (by assumption) ?_
                rotate_left
                · (intro w hSw; (try dsimp only at hSw); go_simp; try with_reducible rfl)
                try simp only [Act.put, List.setIfInBounds_toArray, List.set_cons_zero, List.set_cons_succ]
                refine wpAnyH_take (i := 1) (oi := ({ dst := some 41, op := Op.call { callee := Callee.builtin Builtin.len, args := #[Operand.tmp 40], argTypes := #[22] }, type := 3, pos := "ref.go:95", after := #[{ on := 0, ground := Ground.data }], guard := none } : Oper)) (v := ?_) rfl (by kernel_rfl) (by kernel_rfl) (by kernel_rfl) (fun _ _ _ h => h) (Or.inl ⟨by rfl, ?_⟩) (by assumption) ?_
                rotate_left
                · (intro w hSw; (try dsimp only at hSw); go_simp; try with_reducible rfl)
                try simp only [Act.put, List.setIfInBounds_toArray, List.set_cons_zero, List.set_cons_succ]
                refine wpAnyH_take (i := 2) (oi := ({ dst := some 42, op := Op.binOp BinOp.gtr 3 (Operand.tmp 41) (Operand.const (Value.int IntKind.i64 0)) 3, type := 4, pos := "ref.go:95", after := #[{ on := 1, ground := Ground.data }], guard := none } : Oper)) (v := ?_) rfl (by kernel_rfl) (by kernel_rfl) (by kernel_rfl) (fun _ _ _ h => h) (Or.inl ⟨by rfl, ?_⟩) (by assumption) ?_
                rotate_left
                · (intro w hSw; (try dsimp only at hSw); go_simp; try with_reducible rfl)
                try simp only [Act.put, List.setIfInBounds_toArray, List.set_cons_zero, List.set_cons_succ]
                refine wpAnyH_take (i := 3) (oi := ({ dst := some 43, op := Op.move (Operand.tmp 42), type := 4, pos := "ref.go:95", after := #[{ on := 2, ground := Ground.data }], guard := none } : Oper)) (v := ?_) rfl (by kernel_rfl) (by kernel_rfl) (by kernel_rfl) (fun _ _ _ h => h) (Or.inl ⟨by rfl, ?_⟩) (by assumption) ?_
                rotate_left
                · (intro w hSw; (try dsimp only at hSw); go_simp; try with_reducible rfl)
                try simp only [Act.put, List.setIfInBounds_toArray, List.set_cons_zero, List.set_cons_succ]
                refine wpAnyH_take (i := 4) (oi := ({ dst := some 44, op := Op.move (Operand.tmp 6), type := 22, pos := "ref.go:95", after := #[{ on := 3, ground := Ground.guard }], guard := some (3, true) } : Oper)) (v := ?_) rfl (by kernel_rfl) (by kernel_rfl) (by kernel_rfl) (fun _ _ _ h => h) (Or.inl ⟨by rfl, ?_⟩) (by assumption) ?_
                rotate_left
                · (intro w hSw; (try dsimp only at hSw); go_simp; try with_reducible rfl)
                try simp only [Act.put, List.setIfInBounds_toArray, List.set_cons_zero, List.set_cons_succ]
                refine wpAnyH_take (i := 6) (oi := ({ dst := some 46, op := Op.move (Operand.tmp 0), type := 22, pos := "ref.go:95", after := #[{ on := 3, ground := Ground.guard }], guard := some (3, true) } : Oper)) (v := ?_) rfl (by kernel_rfl) (by kernel_rfl) (by kernel_rfl) (fun _ _ _ h => h) (Or.inl ⟨by rfl, ?_⟩) (by assumption) ?_
                rotate_left
                · (intro w hSw; (try dsimp only at hSw); go_simp; try with_reducible rfl)
                try simp only [Act.put, List.setIfInBounds_toArray, List.set_cons_zero, List.set_cons_succ]
                refine wpAnyH_take (i := 7) (oi := ({ dst := some 47, op := Op.move (Operand.tmp 7), type := 3, pos := "ref.go:95", after := #[{ on := 3, ground := Ground.guard }], guard := some (3, true) } : Oper)) (v := ?_) rfl (by kernel_rfl) (by kernel_rfl) (by kernel_rfl) (fun _ _ _ h => h) (Or.inl ⟨by rfl, ?_⟩) (by assumption) ?_
                rotate_left
                · (intro w hSw; (try dsimp only at hSw); go_simp; try with_reducible rfl)
                try simp only [Act.put, List.setIfInBounds_toArray, List.set_cons_zero, List.set_cons_succ]
                refine wpAnyH_take (i := 8) (oi := ({ dst := some 48, op := Op.move (Operand.tmp 8), type := 3, pos := "ref.go:95", after := #[{ on := 3, ground := Ground.guard }], guard := some (3, true) } : Oper)) (v := ?_) rfl (by kernel_rfl) (by kernel_rfl) (by kernel_rfl) (fun _ _ _ h => h) (Or.inl ⟨by rfl, ?_⟩) (by assumption) ?_
                rotate_left
                · (intro w hSw; (try dsimp only at hSw); go_simp; try with_reducible rfl)
                try simp only [Act.put, List.setIfInBounds_toArray, List.set_cons_zero, List.set_cons_succ]
                refine wpAnyH_take (i := 9) (oi := ({ dst := some 49, op := Op.slice 22 (Operand.tmp 46) (some (Operand.tmp 47)) (some (Operand.tmp 48)) none, type := 22, pos := "ref.go:95", after := #[{ on := 6, ground := Ground.data }, { on := 7, ground := Ground.data }, { on := 8, ground := Ground.data }, { on := 3, ground := Ground.guard }], guard := some (3, true) } : Oper)) (v := ?_) rfl (by kernel_rfl) (by kernel_rfl) (by kernel_rfl) (fun _ _ _ h => h) (Or.inl ⟨by rfl, ?_⟩) (by assumption) ?_
                rotate_left
                · (intro w hSw; (try dsimp only at hSw); go_simp; try with_reducible rfl)
                try simp only [Act.put, List.setIfInBounds_toArray, List.set_cons_zero, List.set_cons_succ]
                refine wpAnyH_take (i := 12) (oi := ({ dst := some 52, op := Op.move (Operand.tmp 1), type := 3, pos := "ref.go:95", after := #[{ on := 3, ground := Ground.guard }], guard := some (3, true) } : Oper)) (v := ?_) rfl (by kernel_rfl) (by kernel_rfl) (by kernel_rfl) (fun _ _ _ h => h) (Or.inl ⟨by rfl, ?_⟩) (by assumption) ?_
                rotate_left
                · (intro w hSw; (try dsimp only at hSw); go_simp; try with_reducible rfl)
                try simp only [Act.put, List.setIfInBounds_toArray, List.set_cons_zero, List.set_cons_succ]
                refine wpAnyH_ready (rs := [5]) (by kernel_rfl) (by simp) ?_
                refine AllReadyH.cons rfl (fun K hK => ?_) AllReadyH.nil
                go_simp
                go_wp2_with (go_at_call 17; refine Calls.mono (Z1.out _ (by assumption)) ?_; rintro e wa ⟨rfl, ba⟩)
                refine hK.out _ _ (by trivial) (fun hHeld => ?_)
                clear hK K
                refine wpAnyH_ready (rs := [10]) (by kernel_rfl) (by simp) ?_
                refine AllReadyH.cons rfl (fun K hK => ?_) AllReadyH.nil
                go_simp
                go_wp2_with (go_at_call 17; refine Calls.mono (Z2.out _ (by assumption)) ?_; rintro e wb ⟨rfl, bb⟩)
                refine hK.out _ _ (by trivial) (fun hHeld => ?_)
                clear hK K
                refine wpAnyH_take (i := 11) (oi := ({ dst := some 51, op := Op.binOp BinOp.add 3 (Operand.tmp 45) (Operand.tmp 50) 3, type := 3, pos := "ref.go:95", after := #[{ on := 5, ground := Ground.data }, { on := 10, ground := Ground.data }, { on := 3, ground := Ground.guard }], guard := some (3, true) } : Oper)) (v := ?_) rfl (by kernel_rfl) (by kernel_rfl) (by kernel_rfl) (fun _ _ _ h => h) (Or.inl ⟨by rfl, ?_⟩) (by assumption) ?_
                rotate_left
                · (intro w hSw; (try dsimp only at hSw); go_simp; try with_reducible rfl)
                try simp only [Act.put, List.setIfInBounds_toArray, List.set_cons_zero, List.set_cons_succ]
                refine wpAnyH_take (i := 13) (oi := ({ dst := some 53, op := Op.binOp BinOp.gtr 3 (Operand.tmp 51) (Operand.tmp 52) 3, type := 4, pos := "ref.go:95", after := #[{ on := 11, ground := Ground.data }, { on := 12, ground := Ground.data }, { on := 3, ground := Ground.guard }], guard := some (3, true) } : Oper)) (v := ?_) rfl (by kernel_rfl) (by kernel_rfl) (by kernel_rfl) (fun _ _ _ h => h) (Or.inl ⟨by rfl, ?_⟩) (by assumption) ?_
                rotate_left
                · (intro w hSw; (try dsimp only at hSw); go_simp; try with_reducible rfl)
                try simp only [Act.put, List.setIfInBounds_toArray, List.set_cons_zero, List.set_cons_succ]
                refine wpAnyH_take (i := 14) (oi := ({ dst := some 54, op := Op.pick (Operand.tmp 43) (Operand.tmp 53) (Operand.const (Value.bool false)), type := 4, pos := "ref.go:95", after := #[{ on := 3, ground := Ground.data }, { on := 13, ground := Ground.data }], guard := none } : Oper)) (v := ?_) rfl (by kernel_rfl) (by kernel_rfl) (by kernel_rfl) (fun _ _ _ h => h) (Or.inl ⟨by rfl, ?_⟩) (by assumption) ?_
                rotate_left
                · (intro w hSw; (try dsimp only at hSw); go_simp; try with_reducible rfl)
                try simp only [Act.put, List.setIfInBounds_toArray, List.set_cons_zero, List.set_cons_succ]
                refine wpAnyH_done (by kernel_rfl) ?_ _
                have HTX : Hid (TI w s wb (.slice va nv vc) (.slice ua np uc) pcs p) := HTI.out.below bb
                obtain ⟨vs, β, t1, t2, t3, t4, t5⟩ := HTX.out.ex
                have tb := HTX.out.bel
                rw [HLP.out] at t5
                have HRU : Hid (RowAt wb β 29 4 (.slice ua np uc) np (flC p)) := t5
                have HTG : Hid (∀ (w5 : World) u2, w5.ownsRow β 29 4 u2 (np + (k - i)) (flC p ++ flC K) → wb.grownBy w5 (Value.slice ua np uc).ownBlock → TI w s w5 (.slice va nv vc) u2 pcs (p ++ K)) := fun w5 u2 g1 g2 => TI.grow HLP.out HKL.out t1 t2 t3 t4 t5 tb g1 g2
                have HNX := HNK.out wb tb
                have HSX : Hid (β ≤ wb.heap.size) := t3
                clear t1 t2 t3 t4 t5 tb HTX HTI
                go_wp2_with (at_builtin; refine wpList_append_own _ rfl _ _ 22 rfl β 29 i0 (.agg #[.string ByteArray.empty, .int .u64 0, .string ByteArray.empty, .bool false]) 4 48 Try.underlying22 hi hz0 hz1 hz2 rfl (by decide) _ _ _ rfl HRU.out ⟨b, off + i * 4, none⟩ (k - i) (cp - i) (flC K) rfl HFK.out HNX (flC_one _) (by unfold maxLen; omega) (by omega) HSX.out ?_; intro v2 w5 hown2 hg2 _; obtain ⟨na2, nc2, rfl⟩ := row_form4 hown2; have HT5 : Hid (TI w s w5 (.slice va nv vc) (.slice na2 (np + (k - i)) nc2) pcs (p ++ K)) := HTG.out w5 _ hown2 hg2; clear hown2 hg2)
                go_roundw
                case rel => exact ⟨k, pre ++ [(i, k - i)], g, pcs, p ++ K, by omega, rfl, HGK.out, ref_on HR.out HKE.out (by have h := HON.out; rcases h with h | h; exact Or.inl h; exact Or.inr (by omega)), ⟨by have := HLQ.out; omega, by rw [List.length_append, HLP.out, HKL.out]; omega⟩, by first | exact HT5.out | (have h := HT5.out; rw [hnp0, Nat.zero_add] at h; exact h)⟩
                case measure => simp [intOf]; omega
        · obtain rfl : k = m := by omega
          have hikk : i < k := by omega
          have HRN : Hid (runN (l.drop i) = k - i) := runN_of (c := c0) (by rw [List.getElem?_drop]; exact HC0.out) (by rw [List.length_drop, HL.out]; omega) (fun j z hj hz => HK.out (i + j) z (by omega) (by omega) (by rw [List.getElem?_drop] at hz; exact hz)) (fun z hz => by rw [List.getElem?_drop, List.getElem?_eq_none (by rw [HL.out]; omega)] at hz; cases hz)
          have hd1 : decide ((k : Int) < (k : Int)) = false := by simp
          go_wp2_with fail
          go_quiet (fail)
          go_wp2_with fail
          obtain ⟨K, hK⟩ : ∃ K, cutL l (i, k - i) = K := ⟨_, rfl⟩
          have HKE : Hid (cutL l (i, k - i) = K) := hK
          have HKL : Hid (K.length = k - i) := by
            rw [← hK]
            unfold cutL
            rw [Hid, List.length_take, List.length_drop, HL.out]
            omega
          have HGK : Hid (allG l = (pre ++ [(i, k - i)]) ++ grps l g k ∧ k < k + g) := by
            have h0 := HG.out
            rw [grps, if_pos (by rw [HL.out]; omega), HRN.out, Nat.add_sub_cancel' (by omega)] at h0
            exact ⟨by rw [h0.1, List.append_assoc]; rfl, by omega⟩
          have HFK : Hid ((flC K).length = (k - i) * 4) := by rw [Hid, flC_len, HKL.out]
          have HNK : Hid (∀ V, Below s w V → ∀ j u, (flC K)[j]? = some u → V.cell? ((⟨b, off + i * 4, none⟩ : Addr).add j) = some u) := fun V hV => by rw [← hK]; exact ca_flat' (CA.cut (HCA.out V hV) (i, k - i))
          obtain ⟨x1, hx1⟩ : ∃ x, wtI p = x := ⟨_, rfl⟩
          obtain ⟨x2, hx2⟩ : ∃ x, wtI K = x := ⟨_, rfl⟩
          have HSW : Hid (s ≤ wo.heap.size) := by have := HBE.out.size; have := HSZ.out; rw [Hid]; omega
          have Z1 : Hid (∀ V, Below wo.heap.size wo V → Calls Try.prog 17 #[.slice ua np uc] V fun r w' => r = .returned (.int .i64 x1) ∧ Below wo.heap.size wo w') := fun V hV => by
            obtain ⟨vs, β, t1, t2, t3, t4, t5⟩ := (HTI.out.below hV).ex
            obtain ⟨a', c', e, _, hc⟩ := ca_row t5
            rw [HLP.out] at e
            cases e
            have := size_any V.heap.size np uc ua p V hc HLP.out (Nat.le_refl _) (by omega)
            rw [hx1] at this
            exact Calls.mono this (by rintro r w' ⟨rfl, b⟩; exact ⟨rfl, hV.trans (b.mono hV.size)⟩)
          have Z2 : Hid (∀ V, Below wo.heap.size wo V → Calls Try.prog 17 #[.slice (some ⟨b, off + i * 4, none⟩) (k - i) (cp - i)] V fun r w' => r = .returned (.int .i64 x2) ∧ Below wo.heap.size wo w') := fun V hV => by
            have hc := CA.cut (HCA.out V (HBE.out.trans (hV.mono HSW.out))) (i, k - i)
            rw [hK] at hc
            have := size_any V.heap.size (k - i) (cp - i) _ K V hc HKL.out (Nat.le_refl _) (by omega)
            rw [hx2] at this
            exact Calls.mono this (by rintro r w' ⟨rfl, b⟩; exact ⟨rfl, hV.trans (b.mono hV.size)⟩)
          have hkcp : k ≤ cp := by have := HCP.out; omega
          have hicp : i ≤ cp := by omega
          by_cases hnp0 : np = 0
          · have HON : Hid (p.length = 0 ∨ ¬ most < wrap64 (wtI p + wtI K)) := Or.inl (by rw [HLP.out]; exact hnp0)
            have hdp : decide ((0 : Int) < (np : Int)) = false := decide_eq_false (by omega)
            have hdp2 : decide (0 < np) = false := decide_eq_false (by omega)
            clear Z1 Z2 HQ HK
            refine wp_region_held_drew (S := (fun _ => True)) (by kernel_rfl) trivial (fun hHeld => ?_)
            refine wpAnyH_take (i := 0) (oi := ({ dst := some 40, op := Op.move (Operand.tmp 6), type := 22, pos := "ref.go:95", after := #[], guard := none } : Oper)) (v := ?_) rfl (by kernel_rfl) (by kernel_rfl) (by kernel_rfl) (fun _ _ _ h => h) (Or.inl ⟨by rfl, ?_⟩) (by assumption) ?_
            rotate_left
            · (intro w hSw; (try dsimp only at hSw); go_simp; try with_reducible rfl)
            try simp only [Act.put, List.setIfInBounds_toArray, List.set_cons_zero, List.set_cons_succ]
            refine wpAnyH_take (i := 1) (oi := ({ dst := some 41, op := Op.call { callee := Callee.builtin Builtin.len, args := #[Operand.tmp 40], argTypes := #[22] }, type := 3, pos := "ref.go:95", after := #[{ on := 0, ground := Ground.data }], guard := none } : Oper)) (v := ?_) rfl (by kernel_rfl) (by kernel_rfl) (by kernel_rfl) (fun _ _ _ h => h) (Or.inl ⟨by rfl, ?_⟩) (by assumption) ?_
            rotate_left
            · (intro w hSw; (try dsimp only at hSw); go_simp; try with_reducible rfl)
            try simp only [Act.put, List.setIfInBounds_toArray, List.set_cons_zero, List.set_cons_succ]
            refine wpAnyH_take (i := 2) (oi := ({ dst := some 42, op := Op.binOp BinOp.gtr 3 (Operand.tmp 41) (Operand.const (Value.int IntKind.i64 0)) 3, type := 4, pos := "ref.go:95", after := #[{ on := 1, ground := Ground.data }], guard := none } : Oper)) (v := ?_) rfl (by kernel_rfl) (by kernel_rfl) (by kernel_rfl) (fun _ _ _ h => h) (Or.inl ⟨by rfl, ?_⟩) (by assumption) ?_
            rotate_left
            · (intro w hSw; (try dsimp only at hSw); go_simp; try with_reducible rfl)
            try simp only [Act.put, List.setIfInBounds_toArray, List.set_cons_zero, List.set_cons_succ]
            refine wpAnyH_take (i := 3) (oi := ({ dst := some 43, op := Op.move (Operand.tmp 42), type := 4, pos := "ref.go:95", after := #[{ on := 2, ground := Ground.data }], guard := none } : Oper)) (v := ?_) rfl (by kernel_rfl) (by kernel_rfl) (by kernel_rfl) (fun _ _ _ h => h) (Or.inl ⟨by rfl, ?_⟩) (by assumption) ?_
            rotate_left
            · (intro w hSw; (try dsimp only at hSw); go_simp; try with_reducible rfl)
            try simp only [Act.put, List.setIfInBounds_toArray, List.set_cons_zero, List.set_cons_succ]
            refine wpAnyH_take (i := 4) (oi := ({ dst := some 44, op := Op.move (Operand.tmp 6), type := 22, pos := "ref.go:95", after := #[{ on := 3, ground := Ground.guard }], guard := some (3, true) } : Oper)) (v := undef) rfl (by kernel_rfl) (by kernel_rfl) (by kernel_rfl) (fun _ _ _ h => h) (Or.inr ⟨by rfl, rfl⟩) (by assumption) ?_
            try simp only [Act.put, List.setIfInBounds_toArray, List.set_cons_zero, List.set_cons_succ]
            refine wpAnyH_take (i := 5) (oi := ({ dst := some 45, op := Op.call { callee := Callee.value (Operand.func 17), args := #[Operand.tmp 44], argTypes := #[22] }, type := 3, pos := "ref.go:95", after := #[{ on := 4, ground := Ground.data }, { on := 3, ground := Ground.chain }, { on := 3, ground := Ground.guard }], guard := some (3, true) } : Oper)) (v := undef) rfl (by kernel_rfl) (by kernel_rfl) (by kernel_rfl) (fun _ _ _ h => h) (Or.inr ⟨by rfl, rfl⟩) (by assumption) ?_
            try simp only [Act.put, List.setIfInBounds_toArray, List.set_cons_zero, List.set_cons_succ]
            refine wpAnyH_take (i := 6) (oi := ({ dst := some 46, op := Op.move (Operand.tmp 0), type := 22, pos := "ref.go:95", after := #[{ on := 3, ground := Ground.guard }], guard := some (3, true) } : Oper)) (v := undef) rfl (by kernel_rfl) (by kernel_rfl) (by kernel_rfl) (fun _ _ _ h => h) (Or.inr ⟨by rfl, rfl⟩) (by assumption) ?_
            try simp only [Act.put, List.setIfInBounds_toArray, List.set_cons_zero, List.set_cons_succ]
            refine wpAnyH_take (i := 7) (oi := ({ dst := some 47, op := Op.move (Operand.tmp 7), type := 3, pos := "ref.go:95", after := #[{ on := 3, ground := Ground.guard }], guard := some (3, true) } : Oper)) (v := undef) rfl (by kernel_rfl) (by kernel_rfl) (by kernel_rfl) (fun _ _ _ h => h) (Or.inr ⟨by rfl, rfl⟩) (by assumption) ?_
            try simp only [Act.put, List.setIfInBounds_toArray, List.set_cons_zero, List.set_cons_succ]
            refine wpAnyH_take (i := 8) (oi := ({ dst := some 48, op := Op.move (Operand.tmp 8), type := 3, pos := "ref.go:95", after := #[{ on := 3, ground := Ground.guard }], guard := some (3, true) } : Oper)) (v := undef) rfl (by kernel_rfl) (by kernel_rfl) (by kernel_rfl) (fun _ _ _ h => h) (Or.inr ⟨by rfl, rfl⟩) (by assumption) ?_
            try simp only [Act.put, List.setIfInBounds_toArray, List.set_cons_zero, List.set_cons_succ]
            refine wpAnyH_take (i := 9) (oi := ({ dst := some 49, op := Op.slice 22 (Operand.tmp 46) (some (Operand.tmp 47)) (some (Operand.tmp 48)) none, type := 22, pos := "ref.go:95", after := #[{ on := 6, ground := Ground.data }, { on := 7, ground := Ground.data }, { on := 8, ground := Ground.data }, { on := 3, ground := Ground.guard }], guard := some (3, true) } : Oper)) (v := undef) rfl (by kernel_rfl) (by kernel_rfl) (by kernel_rfl) (fun _ _ _ h => h) (Or.inr ⟨by rfl, rfl⟩) (by assumption) ?_
            try simp only [Act.put, List.setIfInBounds_toArray, List.set_cons_zero, List.set_cons_succ]
            refine wpAnyH_take (i := 10) (oi := ({ dst := some 50, op := Op.call { callee := Callee.value (Operand.func 17), args := #[Operand.tmp 49], argTypes := #[22] }, type := 3, pos := "ref.go:95", after := #[{ on := 9, ground := Ground.data }, { on := 5, ground := Ground.chain }, { on := 3, ground := Ground.guard }], guard := some (3, true) } : Oper)) (v := undef) rfl (by kernel_rfl) (by kernel_rfl) (by kernel_rfl) (fun _ _ _ h => h) (Or.inr ⟨by rfl, rfl⟩) (by assumption) ?_
            try simp only [Act.put, List.setIfInBounds_toArray, List.set_cons_zero, List.set_cons_succ]
            refine wpAnyH_take (i := 11) (oi := ({ dst := some 51, op := Op.binOp BinOp.add 3 (Operand.tmp 45) (Operand.tmp 50) 3, type := 3, pos := "ref.go:95", after := #[{ on := 5, ground := Ground.data }, { on := 10, ground := Ground.data }, { on := 3, ground := Ground.guard }], guard := some (3, true) } : Oper)) (v := undef) rfl (by kernel_rfl) (by kernel_rfl) (by kernel_rfl) (fun _ _ _ h => h) (Or.inr ⟨by rfl, rfl⟩) (by assumption) ?_
            try simp only [Act.put, List.setIfInBounds_toArray, List.set_cons_zero, List.set_cons_succ]
            refine wpAnyH_take (i := 12) (oi := ({ dst := some 52, op := Op.move (Operand.tmp 1), type := 3, pos := "ref.go:95", after := #[{ on := 3, ground := Ground.guard }], guard := some (3, true) } : Oper)) (v := undef) rfl (by kernel_rfl) (by kernel_rfl) (by kernel_rfl) (fun _ _ _ h => h) (Or.inr ⟨by rfl, rfl⟩) (by assumption) ?_
            try simp only [Act.put, List.setIfInBounds_toArray, List.set_cons_zero, List.set_cons_succ]
            refine wpAnyH_take (i := 13) (oi := ({ dst := some 53, op := Op.binOp BinOp.gtr 3 (Operand.tmp 51) (Operand.tmp 52) 3, type := 4, pos := "ref.go:95", after := #[{ on := 11, ground := Ground.data }, { on := 12, ground := Ground.data }, { on := 3, ground := Ground.guard }], guard := some (3, true) } : Oper)) (v := undef) rfl (by kernel_rfl) (by kernel_rfl) (by kernel_rfl) (fun _ _ _ h => h) (Or.inr ⟨by rfl, rfl⟩) (by assumption) ?_
            try simp only [Act.put, List.setIfInBounds_toArray, List.set_cons_zero, List.set_cons_succ]
            refine wpAnyH_take (i := 14) (oi := ({ dst := some 54, op := Op.pick (Operand.tmp 43) (Operand.tmp 53) (Operand.const (Value.bool false)), type := 4, pos := "ref.go:95", after := #[{ on := 3, ground := Ground.data }, { on := 13, ground := Ground.data }], guard := none } : Oper)) (v := ?_) rfl (by kernel_rfl) (by kernel_rfl) (by kernel_rfl) (fun _ _ _ h => h) (Or.inl ⟨by rfl, ?_⟩) (by assumption) ?_
            rotate_left
            · (intro w hSw; (try dsimp only at hSw); go_simp; try with_reducible rfl)
            try simp only [Act.put, List.setIfInBounds_toArray, List.set_cons_zero, List.set_cons_succ]
            refine wpAnyH_done (by kernel_rfl) ?_ _
            have hbx : Below wo.heap.size wo (wo.drewN (q + (nq + 1))) := belD wo (q + (nq + 1))
            try simp only [World.drew_drewN, World.drewN_drewN, Nat.add_assoc]
            generalize wo.drewN (q + (nq + 1)) = wx at hbx ⊢
            have HTX : Hid (TI w s wx (.slice va nv vc) (.slice ua np uc) pcs p) := HTI.out.below hbx
            obtain ⟨vs, β, t1, t2, t3, t4, t5⟩ := HTX.out.ex
            have tb := HTX.out.bel
            rw [HLP.out] at t5
            have HRU : Hid (RowAt wx β 29 4 (.slice ua np uc) np (flC p)) := t5
            have HTG : Hid (∀ (w5 : World) u2, w5.ownsRow β 29 4 u2 (np + (k - i)) (flC p ++ flC K) → wx.grownBy w5 (Value.slice ua np uc).ownBlock → TI w s w5 (.slice va nv vc) u2 pcs (p ++ K)) := fun w5 u2 g1 g2 => TI.grow HLP.out HKL.out t1 t2 t3 t4 t5 tb g1 g2
            have HNX := HNK.out wx tb
            have HSX : Hid (β ≤ wx.heap.size) := t3
            clear t1 t2 t3 t4 t5 tb HTX HTI
            go_wp2_with (at_builtin; refine wpList_append_own _ rfl _ _ 22 rfl β 29 i0 (.agg #[.string ByteArray.empty, .int .u64 0, .string ByteArray.empty, .bool false]) 4 48 Try.underlying22 hi hz0 hz1 hz2 rfl (by decide) _ _ _ rfl HRU.out ⟨b, off + i * 4, none⟩ (k - i) (cp - i) (flC K) rfl HFK.out HNX (flC_one _) (by unfold maxLen; omega) (by omega) HSX.out ?_; intro v2 w5 hown2 hg2 _; obtain ⟨na2, nc2, rfl⟩ := row_form4 hown2; have HT5 : Hid (TI w s w5 (.slice va nv vc) (.slice na2 (np + (k - i)) nc2) pcs (p ++ K)) := HTG.out w5 _ hown2 hg2; clear hown2 hg2)
            go_roundw
            case rel => exact ⟨k, pre ++ [(i, k - i)], g, pcs, p ++ K, by omega, rfl, HGK.out, ref_on HR.out HKE.out (by have h := HON.out; rcases h with h | h; exact Or.inl h; exact Or.inr (by omega)), ⟨by have := HLQ.out; omega, by rw [List.length_append, HLP.out, HKL.out]; omega⟩, by first | exact HT5.out | (have h := HT5.out; rw [hnp0, Nat.zero_add] at h; exact h)⟩
            case measure => simp [intOf]; omega
          · have hdp : decide ((0 : Int) < (np : Int)) = true := decide_eq_true (by omega)
            have hdp2 : decide (0 < np) = true := decide_eq_true (by omega)
            have HNE : Hid (p.length ≠ 0) := by rw [HLP.out]; exact hnp0
            have SD : Below wo.heap.size wo (wo.drewN (q + nq + 1)) := belD wo (q + nq + 1)
            by_cases hbig : most < wrap64 (x1 + x2)
            · have HBG : Hid (most < wrap64 (wtI p + wtI K)) := by rw [hx1, hx2]; exact hbig
              have hdb : decide (most < wrap64 (x1 + x2)) = true := decide_eq_true hbig
              have hdb2 : decide (most < IntKind.i64.wrap (x1 + x2)) = true := by rw [IntKind.wrap_i64]; exact decide_eq_true (by unfold wrap64 at hbig; omega)
              clear HQ HK
              refine wp_region_held_drew (S := (fun _ => True)) (by kernel_rfl) trivial (fun hHeld => ?_)
              refine wpAnyH_take (i := 0) (oi := ({ dst := some 40, op := Op.move (Operand.tmp 6), type := 22, pos := "ref.go:95", after := #[], guard := none } : Oper)) (v := ?_) rfl (by kernel_rfl) (by kernel_rfl) (by kernel_rfl) (fun _ _ _ h => h) (Or.inl ⟨by rfl, ?_⟩) (by assumption) ?_
              rotate_left
              · (intro w hSw; (try dsimp only at hSw); go_simp; try with_reducible rfl)
              try simp only [Act.put, List.setIfInBounds_toArray, List.set_cons_zero, List.set_cons_succ]
              refine wpAnyH_take (i := 1) (oi := ({ dst := some 41, op := Op.call { callee := Callee.builtin Builtin.len, args := #[Operand.tmp 40], argTypes := #[22] }, type := 3, pos := "ref.go:95", after := #[{ on := 0, ground := Ground.data }], guard := none } : Oper)) (v := ?_) rfl (by kernel_rfl) (by kernel_rfl) (by kernel_rfl) (fun _ _ _ h => h) (Or.inl ⟨by rfl, ?_⟩) (by assumption) ?_
              rotate_left
              · (intro w hSw; (try dsimp only at hSw); go_simp; try with_reducible rfl)
              try simp only [Act.put, List.setIfInBounds_toArray, List.set_cons_zero, List.set_cons_succ]
              refine wpAnyH_take (i := 2) (oi := ({ dst := some 42, op := Op.binOp BinOp.gtr 3 (Operand.tmp 41) (Operand.const (Value.int IntKind.i64 0)) 3, type := 4, pos := "ref.go:95", after := #[{ on := 1, ground := Ground.data }], guard := none } : Oper)) (v := ?_) rfl (by kernel_rfl) (by kernel_rfl) (by kernel_rfl) (fun _ _ _ h => h) (Or.inl ⟨by rfl, ?_⟩) (by assumption) ?_
              rotate_left
              · (intro w hSw; (try dsimp only at hSw); go_simp; try with_reducible rfl)
              try simp only [Act.put, List.setIfInBounds_toArray, List.set_cons_zero, List.set_cons_succ]
              refine wpAnyH_take (i := 3) (oi := ({ dst := some 43, op := Op.move (Operand.tmp 42), type := 4, pos := "ref.go:95", after := #[{ on := 2, ground := Ground.data }], guard := none } : Oper)) (v := ?_) rfl (by kernel_rfl) (by kernel_rfl) (by kernel_rfl) (fun _ _ _ h => h) (Or.inl ⟨by rfl, ?_⟩) (by assumption) ?_
              rotate_left
              · (intro w hSw; (try dsimp only at hSw); go_simp; try with_reducible rfl)
              try simp only [Act.put, List.setIfInBounds_toArray, List.set_cons_zero, List.set_cons_succ]
              refine wpAnyH_take (i := 4) (oi := ({ dst := some 44, op := Op.move (Operand.tmp 6), type := 22, pos := "ref.go:95", after := #[{ on := 3, ground := Ground.guard }], guard := some (3, true) } : Oper)) (v := ?_) rfl (by kernel_rfl) (by kernel_rfl) (by kernel_rfl) (fun _ _ _ h => h) (Or.inl ⟨by rfl, ?_⟩) (by assumption) ?_
              rotate_left
              · (intro w hSw; (try dsimp only at hSw); go_simp; try with_reducible rfl)
              try simp only [Act.put, List.setIfInBounds_toArray, List.set_cons_zero, List.set_cons_succ]
              refine wpAnyH_take (i := 6) (oi := ({ dst := some 46, op := Op.move (Operand.tmp 0), type := 22, pos := "ref.go:95", after := #[{ on := 3, ground := Ground.guard }], guard := some (3, true) } : Oper)) (v := ?_) rfl (by kernel_rfl) (by kernel_rfl) (by kernel_rfl) (fun _ _ _ h => h) (Or.inl ⟨by rfl, ?_⟩) (by assumption) ?_
              rotate_left
              · (intro w hSw; (try dsimp only at hSw); go_simp; try with_reducible rfl)
              try simp only [Act.put, List.setIfInBounds_toArray, List.set_cons_zero, List.set_cons_succ]
              refine wpAnyH_take (i := 7) (oi := ({ dst := some 47, op := Op.move (Operand.tmp 7), type := 3, pos := "ref.go:95", after := #[{ on := 3, ground := Ground.guard }], guard := some (3, true) } : Oper)) (v := ?_) rfl (by kernel_rfl) (by kernel_rfl) (by kernel_rfl) (fun _ _ _ h => h) (Or.inl ⟨by rfl, ?_⟩) (by assumption) ?_
              rotate_left
              · (intro w hSw; (try dsimp only at hSw); go_simp; try with_reducible rfl)
              try simp only [Act.put, List.setIfInBounds_toArray, List.set_cons_zero, List.set_cons_succ]
              refine wpAnyH_take (i := 8) (oi := ({ dst := some 48, op := Op.move (Operand.tmp 8), type := 3, pos := "ref.go:95", after := #[{ on := 3, ground := Ground.guard }], guard := some (3, true) } : Oper)) (v := ?_) rfl (by kernel_rfl) (by kernel_rfl) (by kernel_rfl) (fun _ _ _ h => h) (Or.inl ⟨by rfl, ?_⟩) (by assumption) ?_
              rotate_left
              · (intro w hSw; (try dsimp only at hSw); go_simp; try with_reducible rfl)
              try simp only [Act.put, List.setIfInBounds_toArray, List.set_cons_zero, List.set_cons_succ]
              refine wpAnyH_take (i := 9) (oi := ({ dst := some 49, op := Op.slice 22 (Operand.tmp 46) (some (Operand.tmp 47)) (some (Operand.tmp 48)) none, type := 22, pos := "ref.go:95", after := #[{ on := 6, ground := Ground.data }, { on := 7, ground := Ground.data }, { on := 8, ground := Ground.data }, { on := 3, ground := Ground.guard }], guard := some (3, true) } : Oper)) (v := ?_) rfl (by kernel_rfl) (by kernel_rfl) (by kernel_rfl) (fun _ _ _ h => h) (Or.inl ⟨by rfl, ?_⟩) (by assumption) ?_
              rotate_left
              · (intro w hSw; (try dsimp only at hSw); go_simp; try with_reducible rfl)
              try simp only [Act.put, List.setIfInBounds_toArray, List.set_cons_zero, List.set_cons_succ]
              refine wpAnyH_take (i := 12) (oi := ({ dst := some 52, op := Op.move (Operand.tmp 1), type := 3, pos := "ref.go:95", after := #[{ on := 3, ground := Ground.guard }], guard := some (3, true) } : Oper)) (v := ?_) rfl (by kernel_rfl) (by kernel_rfl) (by kernel_rfl) (fun _ _ _ h => h) (Or.inl ⟨by rfl, ?_⟩) (by assumption) ?_
              rotate_left
              · (intro w hSw; (try dsimp only at hSw); go_simp; try with_reducible rfl)
              try simp only [Act.put, List.setIfInBounds_toArray, List.set_cons_zero, List.set_cons_succ]
              refine wpAnyH_ready (rs := [5]) (by kernel_rfl) (by simp) ?_
              refine AllReadyH.cons rfl (fun K hK => ?_) AllReadyH.nil
              go_simp
              go_wp2_with (go_at_call 17; refine Calls.mono (Z1.out _ (by assumption)) ?_; rintro e wa ⟨rfl, ba⟩)
              refine hK.out _ _ (by trivial) (fun hHeld => ?_)
              clear hK K
              refine wpAnyH_ready (rs := [10]) (by kernel_rfl) (by simp) ?_
              refine AllReadyH.cons rfl (fun K hK => ?_) AllReadyH.nil
              go_simp
              go_wp2_with (go_at_call 17; refine Calls.mono (Z2.out _ (by assumption)) ?_; rintro e wb ⟨rfl, bb⟩)
              refine hK.out _ _ (by trivial) (fun hHeld => ?_)
              clear hK K
              refine wpAnyH_take (i := 11) (oi := ({ dst := some 51, op := Op.binOp BinOp.add 3 (Operand.tmp 45) (Operand.tmp 50) 3, type := 3, pos := "ref.go:95", after := #[{ on := 5, ground := Ground.data }, { on := 10, ground := Ground.data }, { on := 3, ground := Ground.guard }], guard := some (3, true) } : Oper)) (v := ?_) rfl (by kernel_rfl) (by kernel_rfl) (by kernel_rfl) (fun _ _ _ h => h) (Or.inl ⟨by rfl, ?_⟩) (by assumption) ?_
              rotate_left
              · (intro w hSw; (try dsimp only at hSw); go_simp; try with_reducible rfl)
              try simp only [Act.put, List.setIfInBounds_toArray, List.set_cons_zero, List.set_cons_succ]
              refine wpAnyH_take (i := 13) (oi := ({ dst := some 53, op := Op.binOp BinOp.gtr 3 (Operand.tmp 51) (Operand.tmp 52) 3, type := 4, pos := "ref.go:95", after := #[{ on := 11, ground := Ground.data }, { on := 12, ground := Ground.data }, { on := 3, ground := Ground.guard }], guard := some (3, true) } : Oper)) (v := ?_) rfl (by kernel_rfl) (by kernel_rfl) (by kernel_rfl) (fun _ _ _ h => h) (Or.inl ⟨by rfl, ?_⟩) (by assumption) ?_
              rotate_left
              · (intro w hSw; (try dsimp only at hSw); go_simp; try with_reducible rfl)
              try simp only [Act.put, List.setIfInBounds_toArray, List.set_cons_zero, List.set_cons_succ]
              refine wpAnyH_take (i := 14) (oi := ({ dst := some 54, op := Op.pick (Operand.tmp 43) (Operand.tmp 53) (Operand.const (Value.bool false)), type := 4, pos := "ref.go:95", after := #[{ on := 3, ground := Ground.data }, { on := 13, ground := Ground.data }], guard := none } : Oper)) (v := ?_) rfl (by kernel_rfl) (by kernel_rfl) (by kernel_rfl) (fun _ _ _ h => h) (Or.inl ⟨by rfl, ?_⟩) (by assumption) ?_
              rotate_left
              · (intro w hSw; (try dsimp only at hSw); go_simp; try with_reducible rfl)
              try simp only [Act.put, List.setIfInBounds_toArray, List.set_cons_zero, List.set_cons_succ]
              refine wpAnyH_done (by kernel_rfl) ?_ _
              have HTX : Hid (TI w s wb (.slice va nv vc) (.slice ua np uc) pcs p) := HTI.out.below bb
              obtain ⟨vs, β, t1, t2, t3, t4, t5⟩ := HTX.out.ex
              have tb := HTX.out.bel
              rw [HLP.out] at t5
              rw [HLQ.out] at t1
              have HRV : Hid (RowAt (wb.alloc (.cells #[.slice ua np uc] 22)) s 22 1 (.slice va nv vc) nv vs) := World.ownsRow.alloc t1 _
              have HTP : Hid (∀ (w4 : World) v2, w4.ownsRow s 22 1 v2 (nv + 1) (vs ++ [.slice ua np uc]) → (wb.alloc (.cells #[.slice ua np uc] 22)).grownBy w4 (Value.slice va nv vc).ownBlock → TI w s w4 v2 (.slice none 0 0) (pcs ++ [p]) []) := fun w4 v2 g1 g2 => TI.push HLQ.out HLP.out t1 t2 t3 t4 t5 tb g1 g2
              have HN1 : Hid (∀ j u, ([Value.slice ua np uc] : List Value)[j]? = some u → (wb.alloc (.cells #[.slice ua np uc] 22)).cell? ((⟨wb.heap.size, 0, none⟩ : Addr).add j) = some u) := fun j u h => by
                rw [addr_add, Nat.zero_add, cells_of_block (World.alloc_heap_new wb _) j]
                simpa using h
              have HS1 : Hid (s ≤ (wb.alloc (.cells #[.slice ua np uc] 22)).heap.size) := by have := t2; have := t3; rw [Hid, World.size_alloc]; omega
              clear t1 t2 t3 t4 t5 tb HTX HTI
              go_wp2_with (first
                | (at_builtin; refine wpList_append_own _ rfl _ _ 22 rfl β4 29 i0 (.agg #[.string ByteArray.empty, .int .u64 0, .string ByteArray.empty, .bool false]) 4 48 Try.underlying22 hi hz0 hz1 hz2 rfl (by decide) _ _ _ rfl HRU.out ⟨b, off + i * 4, none⟩ (k - i) (cp - i) (flC K) rfl HFK.out HNX.out (flC_one _) (by unfold maxLen; omega) (by omega) HSX.out ?_; intro v2 w5 hown2 hg2 _; obtain ⟨na2, nc2, rfl⟩ := row_form4 hown2; have HT5 : Hid (TI w s w5 (.slice va3 (nv + 1) vc3) (.slice na2 (k - i) nc2) (pcs ++ [p]) K) := (by have h := HTG.out w5 _ hown2 hg2; rw [Nat.zero_add, List.nil_append] at h; exact h); clear hown2 hg2)
                | (at_builtin; refine wpList_append_own _ rfl _ _ 24 rfl s 22 i1 (.slice none 0 0) 1 24 Try.underlying24 hj hj0 hj1 hj2 rfl (by decide) _ _ _ rfl HRV.out ⟨wb.heap.size, 0, none⟩ 1 1 [.slice ua np uc] rfl rfl HN1.out (by simp [Value.oneCell']) (by unfold maxLen; omega) (by omega) HS1.out ?_; intro v3 w4 hown3 hg3 _; obtain ⟨va3, vc3, rfl⟩ := row_form4 hown3; have HT4 : Hid (TI w s w4 (.slice va3 (nv + 1) vc3) (.slice none 0 0) (pcs ++ [p]) []) := HTP.out w4 _ hown3 hg3; obtain ⟨vs4, β4, s1, s2, s3, s4, s5⟩ := HT4.out.ex; have sb := HT4.out.bel; have HRU : Hid (RowAt w4 β4 29 4 (.slice none 0 0) 0 []) := s5; have HTG : Hid (∀ (w5 : World) u2, w5.ownsRow β4 29 4 u2 (0 + (k - i)) (([] : List Value) ++ flC K) → w4.grownBy w5 (Value.slice none 0 0).ownBlock → TI w s w5 (.slice va3 (nv + 1) vc3) u2 (pcs ++ [p]) ([] ++ K)) := (fun w5 u2 g1 g2 => TI.grow (p := []) rfl HKL.out s1 s2 s3 s4 s5 sb g1 g2); have HNX : Hid _ := HNK.out w4 sb; have HSX : Hid (β4 ≤ w4.heap.size) := s3; clear s1 s2 s3 s4 s5 sb hown3 hg3 HT4 HRV HTP))
              go_roundw
              case rel => exact ⟨k, pre ++ [(i, k - i)], g, pcs ++ [p], K, by omega, rfl, HGK.out, ref_new HR.out HKE.out HNE.out HBG.out, ⟨by rw [List.length_append, HLQ.out, List.length_singleton]; omega, by rw [HKL.out]; omega⟩, HT5.out⟩
              case measure => simp [intOf]; omega
            · have HON : Hid (p.length = 0 ∨ ¬ most < wrap64 (wtI p + wtI K)) := Or.inr (by rw [hx1, hx2]; exact hbig)
              have hdb : decide (most < wrap64 (x1 + x2)) = false := decide_eq_false hbig
              have hdb2 : decide (most < IntKind.i64.wrap (x1 + x2)) = false := by rw [IntKind.wrap_i64]; exact decide_eq_false (by unfold wrap64 at hbig; omega)
              clear HQ HK
              refine wp_region_held_drew (S := (fun _ => True)) (by kernel_rfl) trivial (fun hHeld => ?_)
              refine wpAnyH_take (i := 0) (oi := ({ dst := some 40, op := Op.move (Operand.tmp 6), type := 22, pos := "ref.go:95", after := #[], guard := none } : Oper)) (v := ?_) rfl (by kernel_rfl) (by kernel_rfl) (by kernel_rfl) (fun _ _ _ h => h) (Or.inl ⟨by rfl, ?_⟩) (by assumption) ?_
              rotate_left
              · (intro w hSw; (try dsimp only at hSw); go_simp; try with_reducible rfl)
              try simp only [Act.put, List.setIfInBounds_toArray, List.set_cons_zero, List.set_cons_succ]
              refine wpAnyH_take (i := 1) (oi := ({ dst := some 41, op := Op.call { callee := Callee.builtin Builtin.len, args := #[Operand.tmp 40], argTypes := #[22] }, type := 3, pos := "ref.go:95", after := #[{ on := 0, ground := Ground.data }], guard := none } : Oper)) (v := ?_) rfl (by kernel_rfl) (by kernel_rfl) (by kernel_rfl) (fun _ _ _ h => h) (Or.inl ⟨by rfl, ?_⟩) (by assumption) ?_
              rotate_left
              · (intro w hSw; (try dsimp only at hSw); go_simp; try with_reducible rfl)
              try simp only [Act.put, List.setIfInBounds_toArray, List.set_cons_zero, List.set_cons_succ]
              refine wpAnyH_take (i := 2) (oi := ({ dst := some 42, op := Op.binOp BinOp.gtr 3 (Operand.tmp 41) (Operand.const (Value.int IntKind.i64 0)) 3, type := 4, pos := "ref.go:95", after := #[{ on := 1, ground := Ground.data }], guard := none } : Oper)) (v := ?_) rfl (by kernel_rfl) (by kernel_rfl) (by kernel_rfl) (fun _ _ _ h => h) (Or.inl ⟨by rfl, ?_⟩) (by assumption) ?_
              rotate_left
              · (intro w hSw; (try dsimp only at hSw); go_simp; try with_reducible rfl)
              try simp only [Act.put, List.setIfInBounds_toArray, List.set_cons_zero, List.set_cons_succ]
              refine wpAnyH_take (i := 3) (oi := ({ dst := some 43, op := Op.move (Operand.tmp 42), type := 4, pos := "ref.go:95", after := #[{ on := 2, ground := Ground.data }], guard := none } : Oper)) (v := ?_) rfl (by kernel_rfl) (by kernel_rfl) (by kernel_rfl) (fun _ _ _ h => h) (Or.inl ⟨by rfl, ?_⟩) (by assumption) ?_
              rotate_left
              · (intro w hSw; (try dsimp only at hSw); go_simp; try with_reducible rfl)
              try simp only [Act.put, List.setIfInBounds_toArray, List.set_cons_zero, List.set_cons_succ]
              refine wpAnyH_take (i := 4) (oi := ({ dst := some 44, op := Op.move (Operand.tmp 6), type := 22, pos := "ref.go:95", after := #[{ on := 3, ground := Ground.guard }], guard := some (3, true) } : Oper)) (v := ?_) rfl (by kernel_rfl) (by kernel_rfl) (by kernel_rfl) (fun _ _ _ h => h) (Or.inl ⟨by rfl, ?_⟩) (by assumption) ?_
              rotate_left
              · (intro w hSw; (try dsimp only at hSw); go_simp; try with_reducible rfl)
              try simp only [Act.put, List.setIfInBounds_toArray, List.set_cons_zero, List.set_cons_succ]
              refine wpAnyH_take (i := 6) (oi := ({ dst := some 46, op := Op.move (Operand.tmp 0), type := 22, pos := "ref.go:95", after := #[{ on := 3, ground := Ground.guard }], guard := some (3, true) } : Oper)) (v := ?_) rfl (by kernel_rfl) (by kernel_rfl) (by kernel_rfl) (fun _ _ _ h => h) (Or.inl ⟨by rfl, ?_⟩) (by assumption) ?_
              rotate_left
              · (intro w hSw; (try dsimp only at hSw); go_simp; try with_reducible rfl)
              try simp only [Act.put, List.setIfInBounds_toArray, List.set_cons_zero, List.set_cons_succ]
              refine wpAnyH_take (i := 7) (oi := ({ dst := some 47, op := Op.move (Operand.tmp 7), type := 3, pos := "ref.go:95", after := #[{ on := 3, ground := Ground.guard }], guard := some (3, true) } : Oper)) (v := ?_) rfl (by kernel_rfl) (by kernel_rfl) (by kernel_rfl) (fun _ _ _ h => h) (Or.inl ⟨by rfl, ?_⟩) (by assumption) ?_
              rotate_left
              · (intro w hSw; (try dsimp only at hSw); go_simp; try with_reducible rfl)
              try simp only [Act.put, List.setIfInBounds_toArray, List.set_cons_zero, List.set_cons_succ]
              refine wpAnyH_take (i := 8) (oi := ({ dst := some 48, op := Op.move (Operand.tmp 8), type := 3, pos := "ref.go:95", after := #[{ on := 3, ground := Ground.guard }], guard := some (3, true) } : Oper)) (v := ?_) rfl (by kernel_rfl) (by kernel_rfl) (by kernel_rfl) (fun _ _ _ h => h) (Or.inl ⟨by rfl, ?_⟩) (by assumption) ?_
              rotate_left
              · (intro w hSw; (try dsimp only at hSw); go_simp; try with_reducible rfl)
              try simp only [Act.put, List.setIfInBounds_toArray, List.set_cons_zero, List.set_cons_succ]
              refine wpAnyH_take (i := 9) (oi := ({ dst := some 49, op := Op.slice 22 (Operand.tmp 46) (some (Operand.tmp 47)) (some (Operand.tmp 48)) none, type := 22, pos := "ref.go:95", after := #[{ on := 6, ground := Ground.data }, { on := 7, ground := Ground.data }, { on := 8, ground := Ground.data }, { on := 3, ground := Ground.guard }], guard := some (3, true) } : Oper)) (v := ?_) rfl (by kernel_rfl) (by kernel_rfl) (by kernel_rfl) (fun _ _ _ h => h) (Or.inl ⟨by rfl, ?_⟩) (by assumption) ?_
              rotate_left
              · (intro w hSw; (try dsimp only at hSw); go_simp; try with_reducible rfl)
              try simp only [Act.put, List.setIfInBounds_toArray, List.set_cons_zero, List.set_cons_succ]
              refine wpAnyH_take (i := 12) (oi := ({ dst := some 52, op := Op.move (Operand.tmp 1), type := 3, pos := "ref.go:95", after := #[{ on := 3, ground := Ground.guard }], guard := some (3, true) } : Oper)) (v := ?_) rfl (by kernel_rfl) (by kernel_rfl) (by kernel_rfl) (fun _ _ _ h => h) (Or.inl ⟨by rfl, ?_⟩) (by assumption) ?_
              rotate_left
              · (intro w hSw; (try dsimp only at hSw); go_simp; try with_reducible rfl)
              try simp only [Act.put, List.setIfInBounds_toArray, List.set_cons_zero, List.set_cons_succ]
              refine wpAnyH_ready (rs := [5]) (by kernel_rfl) (by simp) ?_
              refine AllReadyH.cons rfl (fun K hK => ?_) AllReadyH.nil
              go_simp
              go_wp2_with (go_at_call 17; refine Calls.mono (Z1.out _ (by assumption)) ?_; rintro e wa ⟨rfl, ba⟩)
              refine hK.out _ _ (by trivial) (fun hHeld => ?_)
              clear hK K
              refine wpAnyH_ready (rs := [10]) (by kernel_rfl) (by simp) ?_
              refine AllReadyH.cons rfl (fun K hK => ?_) AllReadyH.nil
              go_simp
              go_wp2_with (go_at_call 17; refine Calls.mono (Z2.out _ (by assumption)) ?_; rintro e wb ⟨rfl, bb⟩)
              refine hK.out _ _ (by trivial) (fun hHeld => ?_)
              clear hK K
              refine wpAnyH_take (i := 11) (oi := ({ dst := some 51, op := Op.binOp BinOp.add 3 (Operand.tmp 45) (Operand.tmp 50) 3, type := 3, pos := "ref.go:95", after := #[{ on := 5, ground := Ground.data }, { on := 10, ground := Ground.data }, { on := 3, ground := Ground.guard }], guard := some (3, true) } : Oper)) (v := ?_) rfl (by kernel_rfl) (by kernel_rfl) (by kernel_rfl) (fun _ _ _ h => h) (Or.inl ⟨by rfl, ?_⟩) (by assumption) ?_
              rotate_left
              · (intro w hSw; (try dsimp only at hSw); go_simp; try with_reducible rfl)
              try simp only [Act.put, List.setIfInBounds_toArray, List.set_cons_zero, List.set_cons_succ]
              refine wpAnyH_take (i := 13) (oi := ({ dst := some 53, op := Op.binOp BinOp.gtr 3 (Operand.tmp 51) (Operand.tmp 52) 3, type := 4, pos := "ref.go:95", after := #[{ on := 11, ground := Ground.data }, { on := 12, ground := Ground.data }, { on := 3, ground := Ground.guard }], guard := some (3, true) } : Oper)) (v := ?_) rfl (by kernel_rfl) (by kernel_rfl) (by kernel_rfl) (fun _ _ _ h => h) (Or.inl ⟨by rfl, ?_⟩) (by assumption) ?_
              rotate_left
              · (intro w hSw; (try dsimp only at hSw); go_simp; try with_reducible rfl)
              try simp only [Act.put, List.setIfInBounds_toArray, List.set_cons_zero, List.set_cons_succ]
              refine wpAnyH_take (i := 14) (oi := ({ dst := some 54, op := Op.pick (Operand.tmp 43) (Operand.tmp 53) (Operand.const (Value.bool false)), type := 4, pos := "ref.go:95", after := #[{ on := 3, ground := Ground.data }, { on := 13, ground := Ground.data }], guard := none } : Oper)) (v := ?_) rfl (by kernel_rfl) (by kernel_rfl) (by kernel_rfl) (fun _ _ _ h => h) (Or.inl ⟨by rfl, ?_⟩) (by assumption) ?_
              rotate_left
              · (intro w hSw; (try dsimp only at hSw); go_simp; try with_reducible rfl)
              try simp only [Act.put, List.setIfInBounds_toArray, List.set_cons_zero, List.set_cons_succ]
              refine wpAnyH_done (by kernel_rfl) ?_ _
              have HTX : Hid (TI w s wb (.slice va nv vc) (.slice ua np uc) pcs p) := HTI.out.below bb
              obtain ⟨vs, β, t1, t2, t3, t4, t5⟩ := HTX.out.ex
              have tb := HTX.out.bel
              rw [HLP.out] at t5
              have HRU : Hid (RowAt wb β 29 4 (.slice ua np uc) np (flC p)) := t5
              have HTG : Hid (∀ (w5 : World) u2, w5.ownsRow β 29 4 u2 (np + (k - i)) (flC p ++ flC K) → wb.grownBy w5 (Value.slice ua np uc).ownBlock → TI w s w5 (.slice va nv vc) u2 pcs (p ++ K)) := fun w5 u2 g1 g2 => TI.grow HLP.out HKL.out t1 t2 t3 t4 t5 tb g1 g2
              have HNX := HNK.out wb tb
              have HSX : Hid (β ≤ wb.heap.size) := t3
              clear t1 t2 t3 t4 t5 tb HTX HTI
              go_wp2_with (at_builtin; refine wpList_append_own _ rfl _ _ 22 rfl β 29 i0 (.agg #[.string ByteArray.empty, .int .u64 0, .string ByteArray.empty, .bool false]) 4 48 Try.underlying22 hi hz0 hz1 hz2 rfl (by decide) _ _ _ rfl HRU.out ⟨b, off + i * 4, none⟩ (k - i) (cp - i) (flC K) rfl HFK.out HNX (flC_one _) (by unfold maxLen; omega) (by omega) HSX.out ?_; intro v2 w5 hown2 hg2 _; obtain ⟨na2, nc2, rfl⟩ := row_form4 hown2; have HT5 : Hid (TI w s w5 (.slice va nv vc) (.slice na2 (np + (k - i)) nc2) pcs (p ++ K)) := HTG.out w5 _ hown2 hg2; clear hown2 hg2)
              go_roundw
              case rel => exact ⟨k, pre ++ [(i, k - i)], g, pcs, p ++ K, by omega, rfl, HGK.out, ref_on HR.out HKE.out (by have h := HON.out; rcases h with h | h; exact Or.inl h; exact Or.inr (by omega)), ⟨by have := HLQ.out; omega, by rw [List.length_append, HLP.out, HKL.out]; omega⟩, by first | exact HT5.out | (have h := HT5.out; rw [hnp0, Nat.zero_add] at h; exact h)⟩
              case measure => simp [intOf]; omega
    · obtain rfl : i = m := by omega
      have HPR : Hid (refP l most (allG l) = (pcs, p)) := by
        have h0 := HG.out.1
        have : grps l g i = [] := by
          cases g with
          | zero => rfl
          | succ g => rw [grps, if_neg (by rw [HL.out]; omega)]
        rw [this, List.append_nil] at h0
        rw [Hid, h0]
        exact HR.out
      by_cases hnp0 : np = 0
      · have HQ : Hid (cutQ l most = pcs) := by
          unfold cutQ
          rw [Hid, if_neg (by have := HMO.out; omega), HPR.out, if_pos (by show p.length = 0; rw [HLP.out]; exact hnp0)]
        have hdp : decide ((0 : Int) < (np : Int)) = false := decide_eq_false (by omega)
        clear hbel hnp hnv HG HR
        go_wp2_with fail
        go_ret
        rw [HQ.out]
        exact ti_out HTI.out HSZ.out
      · have HQ : Hid (cutQ l most = pcs ++ [p]) := by
          unfold cutQ
          rw [Hid, if_neg (by have := HMO.out; omega), HPR.out, if_neg (by show ¬ p.length = 0; rw [HLP.out]; exact hnp0)]
        have hdp : decide ((0 : Int) < (np : Int)) = true := decide_eq_true (by omega)
        have hpos : 0 < np := by omega
        clear hbel hnp hnv HG HR
        have HTX : Hid (TI w s wr (.slice va nv vc) (.slice ua np uc) pcs p) := HTI.out.below (Below.refl _ _)
        obtain ⟨vs, β, t1, t2, t3, t4, t5⟩ := HTX.out.ex
        have tb := HTX.out.bel
        rw [HLP.out] at t5
        rw [HLQ.out] at t1
        have HRV : Hid (RowAt (wr.alloc (.cells #[.slice ua np uc] 22)) s 22 1 (.slice va nv vc) nv vs) := World.ownsRow.alloc t1 _
        have HTP : Hid (∀ (w4 : World) v2, w4.ownsRow s 22 1 v2 (nv + 1) (vs ++ [.slice ua np uc]) → (wr.alloc (.cells #[.slice ua np uc] 22)).grownBy w4 (Value.slice va nv vc).ownBlock → TI w s w4 v2 (.slice none 0 0) (pcs ++ [p]) []) := fun w4 v2 g1 g2 => TI.push HLQ.out HLP.out t1 t2 t3 t4 t5 tb g1 g2
        have HN1 : Hid (∀ j u, ([Value.slice ua np uc] : List Value)[j]? = some u → (wr.alloc (.cells #[.slice ua np uc] 22)).cell? ((⟨wr.heap.size, 0, none⟩ : Addr).add j) = some u) := fun j u h => by
          rw [addr_add, Nat.zero_add, cells_of_block (World.alloc_heap_new wr _) j]
          simpa using h
        have HS1 : Hid (s ≤ (wr.alloc (.cells #[.slice ua np uc] 22)).heap.size) := by have := t2; have := t3; rw [Hid, World.size_alloc]; omega
        clear t1 t2 t3 t4 t5 tb HTX HTI
        go_wp2_with (at_builtin; refine wpList_append_own _ rfl _ _ 24 rfl s 22 i1 (.slice none 0 0) 1 24 Try.underlying24 hj hj0 hj1 hj2 rfl (by decide) _ _ _ rfl HRV.out ⟨wr.heap.size, 0, none⟩ 1 1 [.slice ua np uc] rfl rfl HN1.out (by simp [Value.oneCell']) (by unfold maxLen; omega) (by omega) HS1.out ?_; intro v3 w4 hown3 hg3 _; obtain ⟨va3, vc3, rfl⟩ := row_form4 hown3; have HT4 : Hid (TI w s w4 (.slice va3 (nv + 1) vc3) (.slice none 0 0) (pcs ++ [p]) []) := HTP.out w4 _ hown3 hg3; clear hown3 hg3 HRV HTP)
        go_ret
        rw [HQ.out]
        exact ti_out HT4.out HSZ.out
end Go.Proofs.Ytohamjoiohfoiab
