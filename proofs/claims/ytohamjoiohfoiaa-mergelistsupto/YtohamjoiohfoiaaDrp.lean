/-
  The contract of Drop.
-/
import Derived.Test.YtohamjoiohfoiaaVis
import Derived.Sort.CutIn
namespace Go.Proofs.Ytohamjoiohfoiaa
open Go.RowKit Go.Shelf
attribute [local go_sem] Oper.semAt_some
/-- What is left of a key's versions. -/
def pickD (vs : List Cl) (seq : Nat) (bt : Bool) : List Cl := vs.take (newN vs seq) ++ match vs[newN vs seq]? with
  | some c => if bt && c.gone then [] else [c]
  | none => []
def drpP (l : List Cl) (seq : Nat) (bt : Bool) (pre : List (Nat × Nat)) : List Cl := pre.flatMap (fun y => pickD (cutL l y) seq bt)
theorem drpP_snoc (l : List Cl) (seq : Nat) (bt : Bool) (pre : List (Nat × Nat)) (y : Nat × Nat) : drpP l seq bt (pre ++ [y]) = drpP l seq bt pre ++ pickD (cutL l y) seq bt := by simp [drpP]
theorem pickD_len (vs : List Cl) (seq : Nat) (bt : Bool) : (pickD vs seq bt).length ≤ vs.length := by
  unfold pickD
  rw [List.length_append, List.length_take]
  split
  · rename_i c hc
    have := (List.getElem?_eq_some_iff.1 hc).1
    split <;> simp <;> omega
  · simp; omega
theorem flC_cons (c : Cl) (l : List Cl) : flC (c :: l) = clL c ++ flC l := rfl
theorem flC_at : ∀ {l : List Cl} {j : Nat} {u : Value}, (flC l)[j]? = some u → ∃ c, l[j / 4]? = some c ∧ (clL c)[j % 4]? = some u
  | [], j, u, h => by simp [flC] at h
  | c :: l, j, u, h => by
    rw [flC_cons] at h
    by_cases hj : j < 4
    · rw [List.getElem?_append_left (by simp [clL]; omega)] at h
      exact ⟨c, by rw [show j / 4 = 0 by omega]; rfl, by rw [show j % 4 = j by omega]; exact h⟩
    · rw [List.getElem?_append_right (by simp [clL]; omega)] at h
      obtain ⟨c', h1, h2⟩ := flC_at (l := l) h
      have e : (clL c).length = 4 := rfl
      rw [e] at h1 h2
      refine ⟨c', ?_, by rw [show j % 4 = (j - 4) % 4 by omega]; exact h2⟩
      rw [show j / 4 = (j - 4) / 4 + 1 by omega]
      simpa using h1
theorem ca_flat {B : Nat} {w : World} {b off : Nat} {l : List Cl} (h : CA B w (some ⟨b, off, none⟩) l) : ∀ j u, (flC l)[j]? = some u → w.cell? ((⟨b, off, none⟩ : Addr).add j) = some u := fun j u hj => by
  obtain ⟨c, h1, h2⟩ := flC_at hj
  obtain ⟨b', off', e, _, k0, k1, k2, k3⟩ := h _ c h1
  cases e
  rw [addr_add]
  have hm : j % 4 = 0 ∨ j % 4 = 1 ∨ j % 4 = 2 ∨ j % 4 = 3 := by omega
  rcases hm with e | e | e | e <;> (rw [e] at h2; simp [clL] at h2; subst h2)
  · rw [show off + j = off + j / 4 * 4 by omega]; exact k0
  · rw [show off + j = off + j / 4 * 4 + 1 by omega]; exact k1
  · rw [show off + j = off + j / 4 * 4 + 2 by omega]; exact k2
  · rw [show off + j = off + j / 4 * 4 + 3 by omega]; exact k3
def sumL (ys : List (Nat × Nat)) : Nat := (ys.map (·.2)).sum
theorem grps_sum (l : List Cl) : ∀ g k, k ≤ l.length → sumL (grps l g k) + k ≤ l.length
  | 0, k, h => by simp [grps, sumL]; exact h
  | g + 1, k, h => by
    rw [grps]
    split
    · rename_i hk
      have h1 := runN_le (l.drop k)
      simp at h1
      have := grps_sum l g (k + runN (l.drop k)) (by omega)
      simp only [sumL, List.map_cons, List.sum_cons] at this ⊢
      omega
    · simp [sumL]; exact h
theorem allG_sum (l : List Cl) : sumL (allG l) ≤ l.length := by
  unfold allG
  split
  · have := grps_sum l (l.length + 1) 0 (Nat.zero_le _)
    omega
  · simp [sumL]
theorem drp_le (l : List Cl) (seq : Nat) (bt : Bool) : ∀ pre, (drpP l seq bt pre).length ≤ sumL pre
  | [] => by simp [drpP, sumL]
  | y :: pre => by
    have h1 := drp_le l seq bt pre
    have h2 : (pickD (cutL l y) seq bt).length ≤ y.2 := Nat.le_trans (pickD_len _ _ _) (by unfold cutL; simp; omega)
    show (pickD (cutL l y) seq bt ++ drpP l seq bt pre).length ≤ _
    rw [List.length_append]
    simp only [sumL, List.map_cons, List.sum_cons] at h1 ⊢
    omega
theorem drpP_len (l : List Cl) (seq : Nat) (bt : Bool) {pre rest : List (Nat × Nat)} {y : Nat × Nat} (h : pre ++ y :: rest = allG l) : (drpP l seq bt pre).length + y.2 ≤ l.length := by
  have h1 := drp_le l seq bt pre
  have h2 := allG_sum l
  rw [← h] at h2
  simp only [sumL, List.map_append, List.map_cons, List.sum_append, List.sum_cons] at h1 h2
  omega
set_option maxRecDepth 100000 in
set_option maxHeartbeats 4000000 in
theorem drop_any (a : Option Addr) (m cp seq : Nat) (bt : Bool) (l : List Cl) (w : World) (hca : CA w.heap.size w a l) (hl : l.length = m) (hm : m ≤ cp) (hmx : m * 48 ≤ 140737488355328) :
    Calls Try.prog 21 #[.slice a m cp, .int .u64 (seq : Nat), .bool bt] w fun r w' => ∃ v, r = .returned v ∧ w'.ownsRow w.heap.size 24 4 v (drpP l seq bt (allG l)).length (flC (drpP l seq bt (allG l))) ∧ Below w.heap.size w w' := by
  obtain ⟨i0, hi, hz0, hz1, hz2⟩ := info_parts info24
  obtain ⟨ob, bl, off, hob, hal, HSQ⟩ := keys_seq a m cp l w hca hl hm (by omega)
  have HKA : Hid (∀ W : World, Calls Try.prog 28 #[.slice a m cp] W fun r w' => r = .returned (.func (.func 39) #[] #[.pointer (some ⟨W.heap.size, 0, none⟩)]) ∧ w' = W.alloc (.cells #[.slice a m cp] 25)) := fun W => keys_any a m cp W
  refine callsIn_wide.1 (callsIn_of_wp_marks (F := Fence.wide) (n := 8) Try.func21 rfl trivial ?_ rfl)
  refine wpIn_wide.2 ?_
  simp only [Try.ntmps21, List.size_toArray, List.length_cons, List.length_nil, Nat.reduceAdd, Nat.reduceSub, Array.replicate_succ, Array.replicate_zero, List.push_toArray, List.append_toArray, List.nil_append, List.cons_append]
  go_wp2_with fail
  refine Calls.mono (HKA.out _) ?_
  rintro e w1 ⟨rfl, rfl⟩
  go_wp2_with fail
  obtain ⟨s, hs⟩ : ∃ s, w.heap.size = s := ⟨_, rfl⟩
  have B0 : Below s w ((((w.alloc (.cells #[.int .u64 (seq : Nat)] 22)).alloc (.cells #[.bool bt] 4)).alloc (.cells #[.slice none 0 0] 25)).alloc (.cells #[.slice a m cp] 25)) := by
    rw [← hs]
    exact ((((Below.refl _ w).alloc (Nat.le_refl _) _).alloc (by simp) _).alloc (by simp; omega) _).alloc (by simp; omega) _
  have q0 : ((((w.alloc (.cells #[.int .u64 (seq : Nat)] 22)).alloc (.cells #[.bool bt] 4)).alloc (.cells #[.slice none 0 0] 25)).alloc (.cells #[.slice a m cp] 25)).heap[s]? = some (.cells #[.int .u64 (seq : Nat)] 22 (0, 0)) := by
    rw [← hs, Below.heap_alloc _ _ _ (by simp; omega), Below.heap_alloc _ _ _ (by simp; omega), Below.heap_alloc _ _ _ (by simp)]
    exact World.alloc_heap_new _ _
  have q1 : ((((w.alloc (.cells #[.int .u64 (seq : Nat)] 22)).alloc (.cells #[.bool bt] 4)).alloc (.cells #[.slice none 0 0] 25)).alloc (.cells #[.slice a m cp] 25)).heap[s + 1]? = some (.cells #[.bool bt] 4 (0, 0)) := by
    rw [Below.heap_alloc _ _ _ (by simp; omega), Below.heap_alloc _ _ _ (by simp; omega)]
    have := World.alloc_heap_new (w.alloc (.cells #[.int .u64 (seq : Nat)] 22)) (.cells #[.bool bt] 4)
    rw [World.size_alloc, hs] at this
    exact this
  have q2 : ((((w.alloc (.cells #[.int .u64 (seq : Nat)] 22)).alloc (.cells #[.bool bt] 4)).alloc (.cells #[.slice none 0 0] 25)).alloc (.cells #[.slice a m cp] 25)).heap[s + 2]? = some (.cells #[.slice none 0 0] 25 (0, 0)) := by
    rw [Below.heap_alloc _ _ _ (by simp; omega)]
    have := World.alloc_heap_new ((w.alloc (.cells #[.int .u64 (seq : Nat)] 22)).alloc (.cells #[.bool bt] 4)) (.cells #[.slice none 0 0] 25)
    rw [World.size_alloc, World.size_alloc, hs] at this
    exact this
  have q3 : ((((w.alloc (.cells #[.int .u64 (seq : Nat)] 22)).alloc (.cells #[.bool bt] 4)).alloc (.cells #[.slice none 0 0] 25)).alloc (.cells #[.slice a m cp] 25)).heap[s + 3]? = some (.cells #[.slice a m cp] 25 (0, 0)) := by
    have := World.alloc_heap_new (((w.alloc (.cells #[.int .u64 (seq : Nat)] 22)).alloc (.cells #[.bool bt] 4)).alloc (.cells #[.slice none 0 0] 25)) (.cells #[.slice a m cp] 25)
    rw [World.size_alloc, World.size_alloc, World.size_alloc, hs] at this
    exact this
  have hsz : ((((w.alloc (.cells #[.int .u64 (seq : Nat)] 22)).alloc (.cells #[.bool bt] 4)).alloc (.cells #[.slice none 0 0] 25)).alloc (.cells #[.slice a m cp] 25)).heap.size = s + 4 := by simp; omega
  rw [hs] at HSQ hob ⊢
  generalize ((((w.alloc (.cells #[.int .u64 (seq : Nat)] 22)).alloc (.cells #[.bool bt] 4)).alloc (.cells #[.slice none 0 0] 25)).alloc (.cells #[.slice a m cp] 25)) = W0 at *
  have HS3 : ∀ o, SeqK Fence.wide (8 - 1) Try.prog 39 #[] #[.pointer (some ⟨s + 1 + 1 + 1, 0, none⟩)] (encG bl off) (RkC (s + 4) ob) (KcC ob) (fun pre y => ∃ rest, pre ++ y :: rest = allG l) (fun xs => xs = allG l) (fun pre => ∃ rest, pre ++ rest = allG l) ((W0.alloc (.deferred (some []))).alloc o) := fun o => by
    have bz : Below W0.heap.size W0 ((W0.alloc (.deferred (some []))).alloc o) := ((Below.refl _ W0).alloc (Nat.le_refl _) _).alloc (by simp) _
    refine HSQ (s + 4) _ (s + 3) _ (by omega) (by simp; omega) (B0.trans (bz.mono (by omega))) ?_
    have := (bz.block (s + 3) (by omega)).trans q3
    exact Boxed.cell (t := 25) this
  have HI0 : ColI w s (s + 2) (drpP l seq bt []) W0 ∧ Boxed W0 s 22 (.int .u64 (seq : Nat)) ∧ Boxed W0 (s + 1) 4 (.bool bt) := ⟨⟨⟨.slice none 0 0, q2, World.ownsRow_nil _ _ _ _⟩, B0⟩, q0, q1⟩
  clear q0 q1 q2 q3 HSQ
  refine (wpIn_wide (n := 8)).1 ?_
  refine wpIn_rangeFunc_keeps rfl (by omega) (gf := 39) (pa := #[]) (lb := #[.pointer (some ⟨s + 1 + 1 + 1, 0, none⟩)]) rfl trivial (enters_of Try.func39 (by kernel_rfl) rfl) (fun A B h => h.others) (fun A B C h k => h.trans k) KcC.put HS3 (fun _ => rfl)
    (fun pre W => ColI w s (s + 2) (drpP l seq bt pre) W ∧ Boxed W s 22 (.int .u64 (seq : Nat)) ∧ Boxed W (s + 1) 4 (.bool bt)) (fun _ _ _ => False)
    (fun pre A A' row h hg hr => ⟨col_own (L := drpP l seq bt) (by omega) (by omega) pre A A' row h.1 hg hr, (own_block h.2.1 hg hr).trans h.2.1, (own_block h.2.2 hg hr).trans h.2.2⟩) (fun _ _ _ _ _ h _ _ => h)
    (fun pre A B h k => ⟨col_rk (by omega) (by omega) (by omega) h.1 k, k.block s _ h.2.1 (Or.inl (by omega)), k.block (s + 1) _ h.2.2 (Or.inl (by omega))⟩) (fun _ _ _ _ h _ => h) HI0 ?a1 ?assign ?body ?done ?stop
  case assign =>
    intro lp y W K hK
    simp only [encG]
    gi_wp2
    exact hK
  case body =>
    rintro lp pre y W ⟨hcol, hsq, hbt⟩ hpr
    obtain ⟨rest, hrest⟩ := hpr
    obtain ⟨hso, hyl, hy1, hfa, hcl⟩ := allG_mem (l := l) (y := y) (by rw [← hrest]; simp)
    have hne : l ≠ [] := by intro e; rw [e] at hyl; simp at hyl; omega
    have haa := hal hne
    subst haa
    have c3 : W.cell? ⟨s, 0, none⟩ = some (.int .u64 (seq : Nat)) := hsq.cell
    have hcW : CA W.heap.size W (some ⟨bl, off, none⟩) l := (CA.below hca (fun b hb => hcol.bel.block b (by omega))).up hcol.bel.size
    have hcut := hcW.cut y
    have HNW : Hid (Calls Try.prog 29 #[.slice (some ⟨bl, off + y.1 * 4, none⟩) y.2 y.2, .int .u64 (seq : Nat)] W fun r w' => r = .returned (.int .i64 (newN (cutL l y) seq : Nat)) ∧ Below W.heap.size W w') := newest_any bl (off + y.1 * 4) y.2 y.2 seq (cutL l y) W hcut hcl hfa (by omega)
    obtain ⟨nw, hnw⟩ : ∃ nw, newN (cutL l y) seq = nw := ⟨_, rfl⟩
    rw [hnw] at HNW
    have HCUT : Hid (CA W.heap.size W (some ⟨bl, off + y.1 * 4, none⟩) (cutL l y)) := hcut
    have HCOL : Hid (ColI w s (s + 2) (drpP l seq bt pre) W) := hcol
    have HBT : Hid (Boxed W (s + 1) 4 (.bool bt)) := hbt
    have HSQ : Hid (Boxed W s 22 (.int .u64 (seq : Nat))) := hsq
    have HCL : Hid ((cutL l y).length = y.2) := hcl
    obtain ⟨y1, y2⟩ := y
    simp only at HNW HCUT hy1 hyl HCL
    obtain ⟨oo, hoo⟩ : ∃ oo, off + y1 * 4 = oo := ⟨_, rfl⟩
    rw [hoo] at HNW HCUT
    have HOO : Hid (off + y1 * 4 = oo) := hoo
    obtain ⟨vs, hvs⟩ : ∃ vs, cutL l (y1, y2) = vs := ⟨_, rfl⟩
    rw [hvs] at HCUT hnw HCL
    have HVS : Hid (cutL l (y1, y2) = vs ∧ newN vs seq = nw) := ⟨hvs, hnw⟩
    have HLE : Hid ((drpP l seq bt pre).length + y2 ≤ m) := by
      have h1 := drpP_len l seq bt hrest
      show _ + y2 ≤ m
      omega
    clear hcut hcW hcol hsq hbt hcl hfa hso hnw hvs HI0 HS3
    rw [hoo]
    clear hoo
    gi_wp2
    refine ⟨trivial, (CallsIn.inRound lp (callsIn_wide.2 HNW.out)).mono ?_⟩
    rintro e w2 ⟨rfl, b2⟩
    have HB2 : Hid (Below W.heap.size W w2) := b2
    have hcb : CA w2.heap.size w2 (some ⟨bl, oo, none⟩) vs := (CA.below HCUT.out (fun b hb => HB2.out.block b hb)).up HB2.out.size
    clear b2
    obtain ⟨v, hv, hrow⟩ := (col_below (by omega) HCOL.out HB2.out).col
    obtain ⟨va, vc, rfl⟩ : ∃ va vc, v = .slice va (drpP l seq bt pre).length vc := row_form4 hrow
    obtain ⟨nL, hnL⟩ : ∃ nL, (drpP l seq bt pre).length = nL := ⟨_, rfl⟩
    rw [hnL] at hv hrow HLE
    have c5 : w2.cell? ⟨s + 1 + 1, 0, none⟩ = some (.slice va nL vc) := hv.cell
    have hnwle : nw ≤ y2 := by rw [← HVS.out.2, ← HCL.out]; exact (List.takeWhile_prefix _).length_le
    gi_wp2
    gi_cut [] from 16 (fun wx => Hid (KeepsOthers W wx ∧ KcC ob W wx ∧ ColI w s (s + 2) (drpP l seq bt pre ++ vs.take nw) wx ∧ Boxed wx s 22 (.int .u64 (seq : Nat)) ∧ Boxed wx (s + 1) 4 (.bool bt)))
    case first =>
      rename_i J K2 hRJ hMK
      obtain ⟨V, hV⟩ : ∃ V, w2.drew = V := ⟨_, rfl⟩
      have kV : Below w2.heap.size w2 V := by rw [← hV]; exact (Below.refl _ _).drew
      have d5 : V.cell? ⟨s + 1 + 1, 0, none⟩ = some (.slice va nL vc) := by rw [← hV]; exact c5
      have HRX : Hid (V.ownsRow s 24 4 (.slice va nL vc) nL (flC (drpP l seq bt pre))) := owns_same hrow (fun g e => kV.block g (hrow.lt g e).2)
      have HTL : Hid ((flC (vs.take nw)).length = nw * 4) := by
        have := HCL.out
        rw [Hid, flC_len, List.length_take]
        congr 1
        omega
      have HNC : Hid (∀ j u, (flC (vs.take nw))[j]? = some u → V.cell? ((⟨bl, oo, none⟩ : Addr).add j) = some u) := ca_flat ((CA.below hcb (fun b hb => kV.block b hb)).take nw)
      have HST : Hid (∀ w3 v2, w3.ownsRow s 24 4 v2 (nL + nw) (flC (drpP l seq bt pre) ++ flC (vs.take nw)) → V.grownBy w3 (Value.slice va nL vc).ownBlock → ∃ a2 c2, v2 = .slice a2 (nL + nw) c2 ∧ w3.cell? ⟨s + 1 + 1, 0, none⟩ = some (.slice va nL vc) ∧ w3.frozen? ⟨s + 1 + 1, 0, none⟩ = false ∧ Hid (KeepsOthers W (w3.setCell ⟨s + 1 + 1, 0, none⟩ v2) ∧ KcC ob W (w3.setCell ⟨s + 1 + 1, 0, none⟩ v2) ∧ ColI w s (s + 2) (drpP l seq bt pre ++ vs.take nw) (w3.setCell ⟨s + 1 + 1, 0, none⟩ v2) ∧ Boxed (w3.setCell ⟨s + 1 + 1, 0, none⟩ v2) s 22 (.int .u64 (seq : Nat)) ∧ Boxed (w3.setCell ⟨s + 1 + 1, 0, none⟩ v2) (s + 1) 4 (.bool bt))) := fun w3 v2 q1 q2 => by
        obtain ⟨v0, hv0, hr0⟩ := HCOL.out.col
        have e0 : v0 = .slice va nL vc := by
          have := (HB2.out.block (s + 2) hv0.lt).trans hv0
          have := (Boxed.cell this).symm.trans hv.cell
          simpa using this
        subst e0
        rw [hnL] at hr0
        obtain ⟨a2, c2, r1, r2, r3, r4⟩ := col_step (cs := vs.take nw) (m := nw) (by omega) hob (by omega) hnL (by rw [List.length_take, HCL.out]; omega) (HB2.out.trans (kV.mono HB2.out.size)) hv0 hr0 HCOL.out.bel (Below.refl _ V) q1 q2
        exact ⟨a2, c2, r1, r2, r3, r4.out.1, r4.out.2.1, r4.out.2.2.1, r4.out.2.2.2 s _ _ HSQ.out (by omega) (by decide), r4.out.2.2.2 (s + 1) _ _ HBT.out (by omega) (by decide)⟩
      have hsV : s ≤ V.heap.size := by have := HCOL.out.bel.size; have := HB2.out.size; have := kV.size; omega
      refine wpIn_region_any (by kernel_rfl) ?_
      rw [show ({ w2 with drawn := w2.drawn + 1 } : World) = V from hV]
      clear c5 hcb hrow hv hV
      refine wpAnyIn_ready (rs := [0, 1, 2]) (by kernel_rfl) (by simp) ?_
      refine AllReadyIn.cons rfl (fun K hK => ?_) ?_
      ·
        go_simp
        refine hK _ _ ?_
        clear hK K
        refine wpAnyIn_ready (rs := [1, 2]) (by kernel_rfl) (by simp) ?_
        refine AllReadyIn.cons rfl (fun K hK => ?_) ?_
        ·
          go_simp
          refine hK _ _ ?_
          clear hK K
          refine wpAnyIn_ready (rs := [2]) (by kernel_rfl) (by simp) ?_
          refine AllReadyIn.cons rfl (fun K hK => ?_) AllReadyIn.nil
          go_simp
          refine hK _ _ ?_
          clear hK K
          refine wpAnyIn_ready (rs := [3]) (by kernel_rfl) (by simp) ?_
          refine AllReadyIn.cons rfl (fun K hK => ?_) AllReadyIn.nil
          go_simp
          refine hK _ _ ?_
          clear hK K
          refine wpAnyIn_ready (rs := [4]) (by kernel_rfl) (by simp) ?_
          refine AllReadyIn.cons rfl (fun K hK => ?_) AllReadyIn.nil
          refine stepIn_append_own rfl (.tmp 16) (.tmp 19) 25 rfl s 24 i0 (.agg #[.string ByteArray.empty, .int .u64 0, .string ByteArray.empty, .bool false]) 4 48 Try.underlying25 hi hz0 hz1 hz2 rfl (by decide) (.slice va nL vc) nL (flC (drpP l seq bt pre)) rfl HRX.out ⟨bl, oo, none⟩ nw y2 (flC (vs.take nw)) rfl HTL.out HNC.out (flC_one _) (by have := HLE.out; unfold maxLen; omega) (by have := HLE.out; omega) hsV ?_
          intro v2 w3 hown2 hg2
          obtain ⟨a2, c2, rfl, z5, f5, HF⟩ := HST.out w3 v2 hown2 hg2
          clear hown2 hg2
          refine hK _ _ ?_
          clear hK K
          refine wpAnyIn_ready (rs := [5]) (by kernel_rfl) (by simp) ?_
          refine AllReadyIn.cons rfl (fun K hK => ?_) AllReadyIn.nil
          go_simp
          refine hK _ _ ?_
          clear hK K
          refine wpAnyIn_done (by kernel_rfl) ?_ _
          refine hMK _ _ (Met.intro (hRJ _ _ ?_))
          repeat apply Exists.intro
          exact ⟨HF, rfl⟩
        refine AllReadyIn.cons rfl (fun K hK => ?_) AllReadyIn.nil
        go_simp
        refine hK _ _ ?_
        clear hK K
        refine wpAnyIn_ready (rs := [1]) (by kernel_rfl) (by simp) ?_
        refine AllReadyIn.cons rfl (fun K hK => ?_) AllReadyIn.nil
        go_simp
        refine hK _ _ ?_
        clear hK K
        refine wpAnyIn_ready (rs := [3]) (by kernel_rfl) (by simp) ?_
        refine AllReadyIn.cons rfl (fun K hK => ?_) AllReadyIn.nil
        go_simp
        refine hK _ _ ?_
        clear hK K
        refine wpAnyIn_ready (rs := [4]) (by kernel_rfl) (by simp) ?_
        refine AllReadyIn.cons rfl (fun K hK => ?_) AllReadyIn.nil
        refine stepIn_append_own rfl (.tmp 16) (.tmp 19) 25 rfl s 24 i0 (.agg #[.string ByteArray.empty, .int .u64 0, .string ByteArray.empty, .bool false]) 4 48 Try.underlying25 hi hz0 hz1 hz2 rfl (by decide) (.slice va nL vc) nL (flC (drpP l seq bt pre)) rfl HRX.out ⟨bl, oo, none⟩ nw y2 (flC (vs.take nw)) rfl HTL.out HNC.out (flC_one _) (by have := HLE.out; unfold maxLen; omega) (by have := HLE.out; omega) hsV ?_
        intro v2 w3 hown2 hg2
        obtain ⟨a2, c2, rfl, z5, f5, HF⟩ := HST.out w3 v2 hown2 hg2
        clear hown2 hg2
        refine hK _ _ ?_
        clear hK K
        refine wpAnyIn_ready (rs := [5]) (by kernel_rfl) (by simp) ?_
        refine AllReadyIn.cons rfl (fun K hK => ?_) AllReadyIn.nil
        go_simp
        refine hK _ _ ?_
        clear hK K
        refine wpAnyIn_done (by kernel_rfl) ?_ _
        refine hMK _ _ (Met.intro (hRJ _ _ ?_))
        repeat apply Exists.intro
        exact ⟨HF, rfl⟩
      refine AllReadyIn.cons rfl (fun K hK => ?_) ?_
      ·
        go_simp
        refine hK _ _ ?_
        clear hK K
        refine wpAnyIn_ready (rs := [0, 2]) (by kernel_rfl) (by simp) ?_
        refine AllReadyIn.cons rfl (fun K hK => ?_) ?_
        ·
          go_simp
          refine hK _ _ ?_
          clear hK K
          refine wpAnyIn_ready (rs := [2]) (by kernel_rfl) (by simp) ?_
          refine AllReadyIn.cons rfl (fun K hK => ?_) AllReadyIn.nil
          go_simp
          refine hK _ _ ?_
          clear hK K
          refine wpAnyIn_ready (rs := [3]) (by kernel_rfl) (by simp) ?_
          refine AllReadyIn.cons rfl (fun K hK => ?_) AllReadyIn.nil
          go_simp
          refine hK _ _ ?_
          clear hK K
          refine wpAnyIn_ready (rs := [4]) (by kernel_rfl) (by simp) ?_
          refine AllReadyIn.cons rfl (fun K hK => ?_) AllReadyIn.nil
          refine stepIn_append_own rfl (.tmp 16) (.tmp 19) 25 rfl s 24 i0 (.agg #[.string ByteArray.empty, .int .u64 0, .string ByteArray.empty, .bool false]) 4 48 Try.underlying25 hi hz0 hz1 hz2 rfl (by decide) (.slice va nL vc) nL (flC (drpP l seq bt pre)) rfl HRX.out ⟨bl, oo, none⟩ nw y2 (flC (vs.take nw)) rfl HTL.out HNC.out (flC_one _) (by have := HLE.out; unfold maxLen; omega) (by have := HLE.out; omega) hsV ?_
          intro v2 w3 hown2 hg2
          obtain ⟨a2, c2, rfl, z5, f5, HF⟩ := HST.out w3 v2 hown2 hg2
          clear hown2 hg2
          refine hK _ _ ?_
          clear hK K
          refine wpAnyIn_ready (rs := [5]) (by kernel_rfl) (by simp) ?_
          refine AllReadyIn.cons rfl (fun K hK => ?_) AllReadyIn.nil
          go_simp
          refine hK _ _ ?_
          clear hK K
          refine wpAnyIn_done (by kernel_rfl) ?_ _
          refine hMK _ _ (Met.intro (hRJ _ _ ?_))
          repeat apply Exists.intro
          exact ⟨HF, rfl⟩
        refine AllReadyIn.cons rfl (fun K hK => ?_) AllReadyIn.nil
        go_simp
        refine hK _ _ ?_
        clear hK K
        refine wpAnyIn_ready (rs := [0, 3]) (by kernel_rfl) (by simp) ?_
        refine AllReadyIn.cons rfl (fun K hK => ?_) ?_
        ·
          go_simp
          refine hK _ _ ?_
          clear hK K
          refine wpAnyIn_ready (rs := [3]) (by kernel_rfl) (by simp) ?_
          refine AllReadyIn.cons rfl (fun K hK => ?_) AllReadyIn.nil
          go_simp
          refine hK _ _ ?_
          clear hK K
          refine wpAnyIn_ready (rs := [4]) (by kernel_rfl) (by simp) ?_
          refine AllReadyIn.cons rfl (fun K hK => ?_) AllReadyIn.nil
          refine stepIn_append_own rfl (.tmp 16) (.tmp 19) 25 rfl s 24 i0 (.agg #[.string ByteArray.empty, .int .u64 0, .string ByteArray.empty, .bool false]) 4 48 Try.underlying25 hi hz0 hz1 hz2 rfl (by decide) (.slice va nL vc) nL (flC (drpP l seq bt pre)) rfl HRX.out ⟨bl, oo, none⟩ nw y2 (flC (vs.take nw)) rfl HTL.out HNC.out (flC_one _) (by have := HLE.out; unfold maxLen; omega) (by have := HLE.out; omega) hsV ?_
          intro v2 w3 hown2 hg2
          obtain ⟨a2, c2, rfl, z5, f5, HF⟩ := HST.out w3 v2 hown2 hg2
          clear hown2 hg2
          refine hK _ _ ?_
          clear hK K
          refine wpAnyIn_ready (rs := [5]) (by kernel_rfl) (by simp) ?_
          refine AllReadyIn.cons rfl (fun K hK => ?_) AllReadyIn.nil
          go_simp
          refine hK _ _ ?_
          clear hK K
          refine wpAnyIn_done (by kernel_rfl) ?_ _
          refine hMK _ _ (Met.intro (hRJ _ _ ?_))
          repeat apply Exists.intro
          exact ⟨HF, rfl⟩
        refine AllReadyIn.cons rfl (fun K hK => ?_) AllReadyIn.nil
        go_simp
        refine hK _ _ ?_
        clear hK K
        refine wpAnyIn_ready (rs := [0]) (by kernel_rfl) (by simp) ?_
        refine AllReadyIn.cons rfl (fun K hK => ?_) AllReadyIn.nil
        go_simp
        refine hK _ _ ?_
        clear hK K
        refine wpAnyIn_ready (rs := [4]) (by kernel_rfl) (by simp) ?_
        refine AllReadyIn.cons rfl (fun K hK => ?_) AllReadyIn.nil
        refine stepIn_append_own rfl (.tmp 16) (.tmp 19) 25 rfl s 24 i0 (.agg #[.string ByteArray.empty, .int .u64 0, .string ByteArray.empty, .bool false]) 4 48 Try.underlying25 hi hz0 hz1 hz2 rfl (by decide) (.slice va nL vc) nL (flC (drpP l seq bt pre)) rfl HRX.out ⟨bl, oo, none⟩ nw y2 (flC (vs.take nw)) rfl HTL.out HNC.out (flC_one _) (by have := HLE.out; unfold maxLen; omega) (by have := HLE.out; omega) hsV ?_
        intro v2 w3 hown2 hg2
        obtain ⟨a2, c2, rfl, z5, f5, HF⟩ := HST.out w3 v2 hown2 hg2
        clear hown2 hg2
        refine hK _ _ ?_
        clear hK K
        refine wpAnyIn_ready (rs := [5]) (by kernel_rfl) (by simp) ?_
        refine AllReadyIn.cons rfl (fun K hK => ?_) AllReadyIn.nil
        go_simp
        refine hK _ _ ?_
        clear hK K
        refine wpAnyIn_done (by kernel_rfl) ?_ _
        refine hMK _ _ (Met.intro (hRJ _ _ ?_))
        repeat apply Exists.intro
        exact ⟨HF, rfl⟩
      refine AllReadyIn.cons rfl (fun K hK => ?_) AllReadyIn.nil
      go_simp
      refine hK _ _ ?_
      clear hK K
      refine wpAnyIn_ready (rs := [0, 1]) (by kernel_rfl) (by simp) ?_
      refine AllReadyIn.cons rfl (fun K hK => ?_) ?_
      ·
        go_simp
        refine hK _ _ ?_
        clear hK K
        refine wpAnyIn_ready (rs := [1]) (by kernel_rfl) (by simp) ?_
        refine AllReadyIn.cons rfl (fun K hK => ?_) AllReadyIn.nil
        go_simp
        refine hK _ _ ?_
        clear hK K
        refine wpAnyIn_ready (rs := [3]) (by kernel_rfl) (by simp) ?_
        refine AllReadyIn.cons rfl (fun K hK => ?_) AllReadyIn.nil
        go_simp
        refine hK _ _ ?_
        clear hK K
        refine wpAnyIn_ready (rs := [4]) (by kernel_rfl) (by simp) ?_
        refine AllReadyIn.cons rfl (fun K hK => ?_) AllReadyIn.nil
        refine stepIn_append_own rfl (.tmp 16) (.tmp 19) 25 rfl s 24 i0 (.agg #[.string ByteArray.empty, .int .u64 0, .string ByteArray.empty, .bool false]) 4 48 Try.underlying25 hi hz0 hz1 hz2 rfl (by decide) (.slice va nL vc) nL (flC (drpP l seq bt pre)) rfl HRX.out ⟨bl, oo, none⟩ nw y2 (flC (vs.take nw)) rfl HTL.out HNC.out (flC_one _) (by have := HLE.out; unfold maxLen; omega) (by have := HLE.out; omega) hsV ?_
        intro v2 w3 hown2 hg2
        obtain ⟨a2, c2, rfl, z5, f5, HF⟩ := HST.out w3 v2 hown2 hg2
        clear hown2 hg2
        refine hK _ _ ?_
        clear hK K
        refine wpAnyIn_ready (rs := [5]) (by kernel_rfl) (by simp) ?_
        refine AllReadyIn.cons rfl (fun K hK => ?_) AllReadyIn.nil
        go_simp
        refine hK _ _ ?_
        clear hK K
        refine wpAnyIn_done (by kernel_rfl) ?_ _
        refine hMK _ _ (Met.intro (hRJ _ _ ?_))
        repeat apply Exists.intro
        exact ⟨HF, rfl⟩
      refine AllReadyIn.cons rfl (fun K hK => ?_) AllReadyIn.nil
      go_simp
      refine hK _ _ ?_
      clear hK K
      refine wpAnyIn_ready (rs := [0, 3]) (by kernel_rfl) (by simp) ?_
      refine AllReadyIn.cons rfl (fun K hK => ?_) ?_
      ·
        go_simp
        refine hK _ _ ?_
        clear hK K
        refine wpAnyIn_ready (rs := [3]) (by kernel_rfl) (by simp) ?_
        refine AllReadyIn.cons rfl (fun K hK => ?_) AllReadyIn.nil
        go_simp
        refine hK _ _ ?_
        clear hK K
        refine wpAnyIn_ready (rs := [4]) (by kernel_rfl) (by simp) ?_
        refine AllReadyIn.cons rfl (fun K hK => ?_) AllReadyIn.nil
        refine stepIn_append_own rfl (.tmp 16) (.tmp 19) 25 rfl s 24 i0 (.agg #[.string ByteArray.empty, .int .u64 0, .string ByteArray.empty, .bool false]) 4 48 Try.underlying25 hi hz0 hz1 hz2 rfl (by decide) (.slice va nL vc) nL (flC (drpP l seq bt pre)) rfl HRX.out ⟨bl, oo, none⟩ nw y2 (flC (vs.take nw)) rfl HTL.out HNC.out (flC_one _) (by have := HLE.out; unfold maxLen; omega) (by have := HLE.out; omega) hsV ?_
        intro v2 w3 hown2 hg2
        obtain ⟨a2, c2, rfl, z5, f5, HF⟩ := HST.out w3 v2 hown2 hg2
        clear hown2 hg2
        refine hK _ _ ?_
        clear hK K
        refine wpAnyIn_ready (rs := [5]) (by kernel_rfl) (by simp) ?_
        refine AllReadyIn.cons rfl (fun K hK => ?_) AllReadyIn.nil
        go_simp
        refine hK _ _ ?_
        clear hK K
        refine wpAnyIn_done (by kernel_rfl) ?_ _
        refine hMK _ _ (Met.intro (hRJ _ _ ?_))
        repeat apply Exists.intro
        exact ⟨HF, rfl⟩
      refine AllReadyIn.cons rfl (fun K hK => ?_) AllReadyIn.nil
      go_simp
      refine hK _ _ ?_
      clear hK K
      refine wpAnyIn_ready (rs := [0]) (by kernel_rfl) (by simp) ?_
      refine AllReadyIn.cons rfl (fun K hK => ?_) AllReadyIn.nil
      go_simp
      refine hK _ _ ?_
      clear hK K
      refine wpAnyIn_ready (rs := [4]) (by kernel_rfl) (by simp) ?_
      refine AllReadyIn.cons rfl (fun K hK => ?_) AllReadyIn.nil
      refine stepIn_append_own rfl (.tmp 16) (.tmp 19) 25 rfl s 24 i0 (.agg #[.string ByteArray.empty, .int .u64 0, .string ByteArray.empty, .bool false]) 4 48 Try.underlying25 hi hz0 hz1 hz2 rfl (by decide) (.slice va nL vc) nL (flC (drpP l seq bt pre)) rfl HRX.out ⟨bl, oo, none⟩ nw y2 (flC (vs.take nw)) rfl HTL.out HNC.out (flC_one _) (by have := HLE.out; unfold maxLen; omega) (by have := HLE.out; omega) hsV ?_
      intro v2 w3 hown2 hg2
      obtain ⟨a2, c2, rfl, z5, f5, HF⟩ := HST.out w3 v2 hown2 hg2
      clear hown2 hg2
      refine hK _ _ ?_
      clear hK K
      refine wpAnyIn_ready (rs := [5]) (by kernel_rfl) (by simp) ?_
      refine AllReadyIn.cons rfl (fun K hK => ?_) AllReadyIn.nil
      go_simp
      refine hK _ _ ?_
      clear hK K
      refine wpAnyIn_done (by kernel_rfl) ?_ _
      refine hMK _ _ (Met.intro (hRJ _ _ ?_))
      repeat apply Exists.intro
      exact ⟨HF, rfl⟩
    case rest =>
    clear hcb hrow hv c5 c3
    have HCC : Hid (KeepsOthers W wc ∧ KcC ob W wc ∧ ColI w s (s + 2) (drpP l seq bt pre ++ vs.take nw) wc ∧ Boxed wc s 22 (.int .u64 (seq : Nat)) ∧ Boxed wc (s + 1) 4 (.bool bt)) := hcut.out
    clear hcut
    have cb : wc.cell? ⟨s + 1, 0, none⟩ = some (.bool bt) := HCC.out.2.2.2.2.cell
    obtain ⟨u, hub, hur⟩ := HCC.out.2.2.1.col
    obtain ⟨nM, hnM⟩ : ∃ nM, (drpP l seq bt pre ++ vs.take nw).length = nM := ⟨_, rfl⟩
    rw [hnM] at hur
    obtain ⟨ua, uc, rfl⟩ := row_form4 hur
    have u5 : wc.cell? ⟨s + 1 + 1, 0, none⟩ = some (.slice ua nM uc) := hub.cell
    have HUR : Hid (wc.ownsRow s 24 4 (.slice ua nM uc) nM (flC (drpP l seq bt pre ++ vs.take nw))) := hur
    have HUB : Hid (Boxed wc (s + 2) 25 (.slice ua nM uc)) := hub
    have HNM : Hid ((drpP l seq bt pre ++ vs.take nw).length = nM) := hnM
    have HME : Hid (nM = nL + nw) := by rw [Hid, ← hnM, List.length_append, hnL, List.length_take, HCL.out]; omega
    have hcW : CA wc.heap.size wc (some ⟨bl, oo, none⟩) vs := by
      have h1 : CA wc.heap.size wc (some ⟨bl, off, none⟩) l := (CA.below hca (fun b hb => HCC.out.2.2.1.bel.block b (by omega))).up HCC.out.2.2.1.bel.size
      have h2 := h1.cut (y1, y2)
      rw [HVS.out.1] at h2
      rw [← HOO.out]
      exact h2
    have HE : Hid (pickD (cutL l (y1, y2)) seq bt = vs.take nw → KeepsOthers W wc ∧ KcC ob W wc ∧ ColI w s (s + 2) (drpP l seq bt (pre ++ [(y1, y2)])) wc ∧ Boxed wc s 22 (.int .u64 (seq : Nat)) ∧ Boxed wc (s + 1) 4 (.bool bt)) := fun e => by
      rw [drpP_snoc, e]
      exact HCC.out
    clear hur hub hnM hnL
    by_cases hnv : nw < y2
    · obtain ⟨c, hc⟩ : ∃ c, vs[nw]? = some c := ⟨vs[nw]'(by rw [HCL.out]; exact hnv), List.getElem?_eq_getElem _⟩
      obtain ⟨b', off', e, _, k0, k1, k2, k3⟩ := hcW nw c hc
      cases e
      have HPK0 : Hid (pickD (cutL l (y1, y2)) seq bt = vs.take nw ++ if bt && c.gone then [] else [c]) := by
        unfold pickD
        rw [HVS.out.1, HVS.out.2, hc]
        exact rfl
      obtain ⟨ck, cs, cv, cg⟩ := c
      simp only at k0 k1 k2 k3
      clear hc hcW
      cases bt with
      | true =>
        cases cg with
        | true =>
          have HEE : Hid _ := HE.out (by rw [HPK0.out]; simp)
          gi_wp2
          exact HEE.out
        | false =>
          have HPK : Hid (pickD (cutL l (y1, y2)) seq true = vs.take nw ++ [⟨ck, cs, cv, false⟩]) := HPK0.out
          gi_wp2
          obtain ⟨V, hV⟩ : ∃ V, wc.drew = V := ⟨_, rfl⟩
          have kV : Below wc.heap.size wc V := by rw [← hV]; exact (Below.refl _ _).drew
          have d0 : V.cell? ⟨bl, oo + nw * 4, none⟩ = some (.string ck) := by rw [← hV]; exact k0
          have d1 : V.cell? ⟨bl, oo + nw * 4 + 1, none⟩ = some (.int .u64 (cs : Nat)) := by rw [← hV]; exact k1
          have d2 : V.cell? ⟨bl, oo + nw * 4 + 2, none⟩ = some (.string cv) := by rw [← hV]; exact k2
          have d3 : V.cell? ⟨bl, oo + nw * 4 + 3, none⟩ = some (.bool false) := by rw [← hV]; exact k3
          have d5 : V.cell? ⟨s + 1 + 1, 0, none⟩ = some (.slice ua nM uc) := by rw [← hV]; exact u5
          have HRX : Hid (∀ o, (V.alloc o).ownsRow s 24 4 (.slice ua nM uc) nM (flC (drpP l seq true pre ++ vs.take nw))) := fun o => World.ownsRow.alloc (owns_same HUR.out (fun g e => kV.block g (World.ownsRow.lt HUR.out g e).2)) o
          have HNC : Hid (∀ j u, [Value.string ck, .int .u64 (cs : Nat), .string cv, .bool false][j]? = some u → (V.alloc (.cells #[.string ck, .int .u64 (cs : Nat), .string cv, .bool false] 24)).cell? ((⟨V.heap.size, 0, none⟩ : Addr).add j) = some u) := fun j u hj => by
            rw [addr_add, cells_of_block (World.alloc_heap_new V _), Nat.zero_add]
            simpa using hj
          have HST : Hid (∀ w3 v2, w3.ownsRow s 24 4 v2 (nM + 1) (flC (drpP l seq true pre ++ vs.take nw) ++ [Value.string ck, .int .u64 (cs : Nat), .string cv, .bool false]) → (V.alloc (.cells #[.string ck, .int .u64 (cs : Nat), .string cv, .bool false] 24)).grownBy w3 (Value.slice ua nM uc).ownBlock → ∃ a2 c2, v2 = .slice a2 (nM + 1) c2 ∧ w3.cell? ⟨s + 1 + 1, 0, none⟩ = some (.slice ua nM uc) ∧ w3.frozen? ⟨s + 1 + 1, 0, none⟩ = false ∧ Hid (KeepsOthers W (w3.setCell ⟨s + 1 + 1, 0, none⟩ v2) ∧ KcC ob W (w3.setCell ⟨s + 1 + 1, 0, none⟩ v2) ∧ ColI w s (s + 2) (drpP l seq true (pre ++ [(y1, y2)])) (w3.setCell ⟨s + 1 + 1, 0, none⟩ v2) ∧ Boxed (w3.setCell ⟨s + 1 + 1, 0, none⟩ v2) s 22 (.int .u64 (seq : Nat)) ∧ Boxed (w3.setCell ⟨s + 1 + 1, 0, none⟩ v2) (s + 1) 4 (.bool true))) := fun w3 v2 q1 q2 => by
            obtain ⟨a2, c2, r1, r2, r3, r4⟩ := col_step (cs := [⟨ck, cs, cv, false⟩]) (m := 1) (ob := ob) (by omega) hob (by omega) HNM.out rfl kV HUB.out HUR.out HCC.out.2.2.1.bel ((Below.refl _ V).alloc (Nat.le_refl _) _) q1 q2
            refine ⟨a2, c2, r1, r2, r3, HCC.out.1.trans r4.out.1, HCC.out.2.1.trans r4.out.2.1, ?_, r4.out.2.2.2 s _ _ HCC.out.2.2.2.1 (by omega) (by decide), r4.out.2.2.2 (s + 1) _ _ HCC.out.2.2.2.2 (by omega) (by decide)⟩
            rw [drpP_snoc, HPK.out, ← List.append_assoc]
            exact r4.out.2.2.1
          have d6 : (V.alloc (.cells #[.string ck, .int .u64 (cs : Nat), .string cv, .bool false] 24)).cell? ⟨s + 1 + 1, 0, none⟩ = some (.slice ua nM uc) := ((Below.refl _ V).alloc (Nat.le_refl _) _).cell (p := ⟨s + 1 + 1, 0, none⟩) (World.block_lt_of_cell? V _ d5) |>.trans d5
          have hsV : s ≤ V.heap.size := by have := HCC.out.2.2.1.bel.size; have := kV.size; omega
          refine wpIn_region_any (by kernel_rfl) ?_
          rw [show ({ wc with drawn := wc.drawn + 1 } : World) = V from hV]
          clear k0 k1 k2 k3 u5 hV
          refine wpAnyIn_ready (rs := [0, 1, 2]) (by kernel_rfl) (by simp) ?_
          refine AllReadyIn.cons rfl (fun K hK => ?_) ?_
          ·
            go_simp
            refine hK _ _ ?_
            clear hK K
            refine wpAnyIn_ready (rs := [1, 2]) (by kernel_rfl) (by simp) ?_
            refine AllReadyIn.cons rfl (fun K hK => ?_) ?_
            ·
              go_simp
              refine hK _ _ ?_
              clear hK K
              refine wpAnyIn_ready (rs := [2]) (by kernel_rfl) (by simp) ?_
              refine AllReadyIn.cons rfl (fun K hK => ?_) AllReadyIn.nil
              go_simp
              refine hK _ _ ?_
              clear hK K
              refine wpAnyIn_ready (rs := [3]) (by kernel_rfl) (by simp) ?_
              refine AllReadyIn.cons rfl (fun K hK => ?_) AllReadyIn.nil
              go_simp
              refine hK _ _ ?_
              clear hK K
              refine wpAnyIn_ready (rs := [4]) (by kernel_rfl) (by simp) ?_
              refine AllReadyIn.cons rfl (fun K hK => ?_) AllReadyIn.nil
              go_simp
              refine hK _ _ ?_
              clear hK K
              refine wpAnyIn_ready (rs := [5]) (by kernel_rfl) (by simp) ?_
              refine AllReadyIn.cons rfl (fun K hK => ?_) AllReadyIn.nil
              go_simp
              refine hK _ _ ?_
              clear hK K
              refine wpAnyIn_ready (rs := [6]) (by kernel_rfl) (by simp) ?_
              refine AllReadyIn.cons rfl (fun K hK => ?_) AllReadyIn.nil
              refine stepIn_append_own rfl (.tmp 36) (.tmp 41) 25 rfl s 24 i0 (.agg #[.string ByteArray.empty, .int .u64 0, .string ByteArray.empty, .bool false]) 4 48 Try.underlying25 hi hz0 hz1 hz2 rfl (by decide) (.slice ua nM uc) nM (flC (drpP l seq true pre ++ vs.take nw)) rfl (HRX.out _) ⟨V.heap.size, 0, none⟩ 1 1 [.string ck, .int .u64 (cs : Nat), .string cv, .bool false] rfl rfl (HNC.out) (clL_one ⟨ck, cs, cv, false⟩) (by have := HLE.out; have := HME.out; unfold maxLen; omega) (by have := HLE.out; have := HME.out; omega) (by simp; omega) ?_
              intro v2 w3 hown2 hg2
              obtain ⟨a2, c2, rfl, z5, f5, HF⟩ := HST.out w3 v2 hown2 hg2
              clear hown2 hg2
              refine hK _ _ ?_
              clear hK K
              refine wpAnyIn_ready (rs := [7]) (by kernel_rfl) (by simp) ?_
              refine AllReadyIn.cons rfl (fun K hK => ?_) AllReadyIn.nil
              go_simp
              refine hK _ _ ?_
              clear hK K
              refine wpAnyIn_done (by kernel_rfl) ?_ _
              exact HF.out
            refine AllReadyIn.cons rfl (fun K hK => ?_) AllReadyIn.nil
            go_simp
            refine hK _ _ ?_
            clear hK K
            refine wpAnyIn_ready (rs := [1]) (by kernel_rfl) (by simp) ?_
            refine AllReadyIn.cons rfl (fun K hK => ?_) AllReadyIn.nil
            go_simp
            refine hK _ _ ?_
            clear hK K
            refine wpAnyIn_ready (rs := [3]) (by kernel_rfl) (by simp) ?_
            refine AllReadyIn.cons rfl (fun K hK => ?_) AllReadyIn.nil
            go_simp
            refine hK _ _ ?_
            clear hK K
            refine wpAnyIn_ready (rs := [4]) (by kernel_rfl) (by simp) ?_
            refine AllReadyIn.cons rfl (fun K hK => ?_) AllReadyIn.nil
            go_simp
            refine hK _ _ ?_
            clear hK K
            refine wpAnyIn_ready (rs := [5]) (by kernel_rfl) (by simp) ?_
            refine AllReadyIn.cons rfl (fun K hK => ?_) AllReadyIn.nil
            go_simp
            refine hK _ _ ?_
            clear hK K
            refine wpAnyIn_ready (rs := [6]) (by kernel_rfl) (by simp) ?_
            refine AllReadyIn.cons rfl (fun K hK => ?_) AllReadyIn.nil
            refine stepIn_append_own rfl (.tmp 36) (.tmp 41) 25 rfl s 24 i0 (.agg #[.string ByteArray.empty, .int .u64 0, .string ByteArray.empty, .bool false]) 4 48 Try.underlying25 hi hz0 hz1 hz2 rfl (by decide) (.slice ua nM uc) nM (flC (drpP l seq true pre ++ vs.take nw)) rfl (HRX.out _) ⟨V.heap.size, 0, none⟩ 1 1 [.string ck, .int .u64 (cs : Nat), .string cv, .bool false] rfl rfl (HNC.out) (clL_one ⟨ck, cs, cv, false⟩) (by have := HLE.out; have := HME.out; unfold maxLen; omega) (by have := HLE.out; have := HME.out; omega) (by simp; omega) ?_
            intro v2 w3 hown2 hg2
            obtain ⟨a2, c2, rfl, z5, f5, HF⟩ := HST.out w3 v2 hown2 hg2
            clear hown2 hg2
            refine hK _ _ ?_
            clear hK K
            refine wpAnyIn_ready (rs := [7]) (by kernel_rfl) (by simp) ?_
            refine AllReadyIn.cons rfl (fun K hK => ?_) AllReadyIn.nil
            go_simp
            refine hK _ _ ?_
            clear hK K
            refine wpAnyIn_done (by kernel_rfl) ?_ _
            exact HF.out
          refine AllReadyIn.cons rfl (fun K hK => ?_) ?_
          ·
            go_simp
            refine hK _ _ ?_
            clear hK K
            refine wpAnyIn_ready (rs := [0, 2]) (by kernel_rfl) (by simp) ?_
            refine AllReadyIn.cons rfl (fun K hK => ?_) ?_
            ·
              go_simp
              refine hK _ _ ?_
              clear hK K
              refine wpAnyIn_ready (rs := [2]) (by kernel_rfl) (by simp) ?_
              refine AllReadyIn.cons rfl (fun K hK => ?_) AllReadyIn.nil
              go_simp
              refine hK _ _ ?_
              clear hK K
              refine wpAnyIn_ready (rs := [3]) (by kernel_rfl) (by simp) ?_
              refine AllReadyIn.cons rfl (fun K hK => ?_) AllReadyIn.nil
              go_simp
              refine hK _ _ ?_
              clear hK K
              refine wpAnyIn_ready (rs := [4]) (by kernel_rfl) (by simp) ?_
              refine AllReadyIn.cons rfl (fun K hK => ?_) AllReadyIn.nil
              go_simp
              refine hK _ _ ?_
              clear hK K
              refine wpAnyIn_ready (rs := [5]) (by kernel_rfl) (by simp) ?_
              refine AllReadyIn.cons rfl (fun K hK => ?_) AllReadyIn.nil
              go_simp
              refine hK _ _ ?_
              clear hK K
              refine wpAnyIn_ready (rs := [6]) (by kernel_rfl) (by simp) ?_
              refine AllReadyIn.cons rfl (fun K hK => ?_) AllReadyIn.nil
              refine stepIn_append_own rfl (.tmp 36) (.tmp 41) 25 rfl s 24 i0 (.agg #[.string ByteArray.empty, .int .u64 0, .string ByteArray.empty, .bool false]) 4 48 Try.underlying25 hi hz0 hz1 hz2 rfl (by decide) (.slice ua nM uc) nM (flC (drpP l seq true pre ++ vs.take nw)) rfl (HRX.out _) ⟨V.heap.size, 0, none⟩ 1 1 [.string ck, .int .u64 (cs : Nat), .string cv, .bool false] rfl rfl (HNC.out) (clL_one ⟨ck, cs, cv, false⟩) (by have := HLE.out; have := HME.out; unfold maxLen; omega) (by have := HLE.out; have := HME.out; omega) (by simp; omega) ?_
              intro v2 w3 hown2 hg2
              obtain ⟨a2, c2, rfl, z5, f5, HF⟩ := HST.out w3 v2 hown2 hg2
              clear hown2 hg2
              refine hK _ _ ?_
              clear hK K
              refine wpAnyIn_ready (rs := [7]) (by kernel_rfl) (by simp) ?_
              refine AllReadyIn.cons rfl (fun K hK => ?_) AllReadyIn.nil
              go_simp
              refine hK _ _ ?_
              clear hK K
              refine wpAnyIn_done (by kernel_rfl) ?_ _
              exact HF.out
            refine AllReadyIn.cons rfl (fun K hK => ?_) AllReadyIn.nil
            go_simp
            refine hK _ _ ?_
            clear hK K
            refine wpAnyIn_ready (rs := [0, 3]) (by kernel_rfl) (by simp) ?_
            refine AllReadyIn.cons rfl (fun K hK => ?_) ?_
            ·
              go_simp
              refine hK _ _ ?_
              clear hK K
              refine wpAnyIn_ready (rs := [3]) (by kernel_rfl) (by simp) ?_
              refine AllReadyIn.cons rfl (fun K hK => ?_) AllReadyIn.nil
              go_simp
              refine hK _ _ ?_
              clear hK K
              refine wpAnyIn_ready (rs := [4]) (by kernel_rfl) (by simp) ?_
              refine AllReadyIn.cons rfl (fun K hK => ?_) AllReadyIn.nil
              go_simp
              refine hK _ _ ?_
              clear hK K
              refine wpAnyIn_ready (rs := [5]) (by kernel_rfl) (by simp) ?_
              refine AllReadyIn.cons rfl (fun K hK => ?_) AllReadyIn.nil
              go_simp
              refine hK _ _ ?_
              clear hK K
              refine wpAnyIn_ready (rs := [6]) (by kernel_rfl) (by simp) ?_
              refine AllReadyIn.cons rfl (fun K hK => ?_) AllReadyIn.nil
              refine stepIn_append_own rfl (.tmp 36) (.tmp 41) 25 rfl s 24 i0 (.agg #[.string ByteArray.empty, .int .u64 0, .string ByteArray.empty, .bool false]) 4 48 Try.underlying25 hi hz0 hz1 hz2 rfl (by decide) (.slice ua nM uc) nM (flC (drpP l seq true pre ++ vs.take nw)) rfl (HRX.out _) ⟨V.heap.size, 0, none⟩ 1 1 [.string ck, .int .u64 (cs : Nat), .string cv, .bool false] rfl rfl (HNC.out) (clL_one ⟨ck, cs, cv, false⟩) (by have := HLE.out; have := HME.out; unfold maxLen; omega) (by have := HLE.out; have := HME.out; omega) (by simp; omega) ?_
              intro v2 w3 hown2 hg2
              obtain ⟨a2, c2, rfl, z5, f5, HF⟩ := HST.out w3 v2 hown2 hg2
              clear hown2 hg2
              refine hK _ _ ?_
              clear hK K
              refine wpAnyIn_ready (rs := [7]) (by kernel_rfl) (by simp) ?_
              refine AllReadyIn.cons rfl (fun K hK => ?_) AllReadyIn.nil
              go_simp
              refine hK _ _ ?_
              clear hK K
              refine wpAnyIn_done (by kernel_rfl) ?_ _
              exact HF.out
            refine AllReadyIn.cons rfl (fun K hK => ?_) AllReadyIn.nil
            go_simp
            refine hK _ _ ?_
            clear hK K
            refine wpAnyIn_ready (rs := [0, 4]) (by kernel_rfl) (by simp) ?_
            refine AllReadyIn.cons rfl (fun K hK => ?_) ?_
            ·
              go_simp
              refine hK _ _ ?_
              clear hK K
              refine wpAnyIn_ready (rs := [4]) (by kernel_rfl) (by simp) ?_
              refine AllReadyIn.cons rfl (fun K hK => ?_) AllReadyIn.nil
              go_simp
              refine hK _ _ ?_
              clear hK K
              refine wpAnyIn_ready (rs := [5]) (by kernel_rfl) (by simp) ?_
              refine AllReadyIn.cons rfl (fun K hK => ?_) AllReadyIn.nil
              go_simp
              refine hK _ _ ?_
              clear hK K
              refine wpAnyIn_ready (rs := [6]) (by kernel_rfl) (by simp) ?_
              refine AllReadyIn.cons rfl (fun K hK => ?_) AllReadyIn.nil
              refine stepIn_append_own rfl (.tmp 36) (.tmp 41) 25 rfl s 24 i0 (.agg #[.string ByteArray.empty, .int .u64 0, .string ByteArray.empty, .bool false]) 4 48 Try.underlying25 hi hz0 hz1 hz2 rfl (by decide) (.slice ua nM uc) nM (flC (drpP l seq true pre ++ vs.take nw)) rfl (HRX.out _) ⟨V.heap.size, 0, none⟩ 1 1 [.string ck, .int .u64 (cs : Nat), .string cv, .bool false] rfl rfl (HNC.out) (clL_one ⟨ck, cs, cv, false⟩) (by have := HLE.out; have := HME.out; unfold maxLen; omega) (by have := HLE.out; have := HME.out; omega) (by simp; omega) ?_
              intro v2 w3 hown2 hg2
              obtain ⟨a2, c2, rfl, z5, f5, HF⟩ := HST.out w3 v2 hown2 hg2
              clear hown2 hg2
              refine hK _ _ ?_
              clear hK K
              refine wpAnyIn_ready (rs := [7]) (by kernel_rfl) (by simp) ?_
              refine AllReadyIn.cons rfl (fun K hK => ?_) AllReadyIn.nil
              go_simp
              refine hK _ _ ?_
              clear hK K
              refine wpAnyIn_done (by kernel_rfl) ?_ _
              exact HF.out
            refine AllReadyIn.cons rfl (fun K hK => ?_) AllReadyIn.nil
            go_simp
            refine hK _ _ ?_
            clear hK K
            refine wpAnyIn_ready (rs := [0, 5]) (by kernel_rfl) (by simp) ?_
            refine AllReadyIn.cons rfl (fun K hK => ?_) ?_
            ·
              go_simp
              refine hK _ _ ?_
              clear hK K
              refine wpAnyIn_ready (rs := [5]) (by kernel_rfl) (by simp) ?_
              refine AllReadyIn.cons rfl (fun K hK => ?_) AllReadyIn.nil
              go_simp
              refine hK _ _ ?_
              clear hK K
              refine wpAnyIn_ready (rs := [6]) (by kernel_rfl) (by simp) ?_
              refine AllReadyIn.cons rfl (fun K hK => ?_) AllReadyIn.nil
              refine stepIn_append_own rfl (.tmp 36) (.tmp 41) 25 rfl s 24 i0 (.agg #[.string ByteArray.empty, .int .u64 0, .string ByteArray.empty, .bool false]) 4 48 Try.underlying25 hi hz0 hz1 hz2 rfl (by decide) (.slice ua nM uc) nM (flC (drpP l seq true pre ++ vs.take nw)) rfl (HRX.out _) ⟨V.heap.size, 0, none⟩ 1 1 [.string ck, .int .u64 (cs : Nat), .string cv, .bool false] rfl rfl (HNC.out) (clL_one ⟨ck, cs, cv, false⟩) (by have := HLE.out; have := HME.out; unfold maxLen; omega) (by have := HLE.out; have := HME.out; omega) (by simp; omega) ?_
              intro v2 w3 hown2 hg2
              obtain ⟨a2, c2, rfl, z5, f5, HF⟩ := HST.out w3 v2 hown2 hg2
              clear hown2 hg2
              refine hK _ _ ?_
              clear hK K
              refine wpAnyIn_ready (rs := [7]) (by kernel_rfl) (by simp) ?_
              refine AllReadyIn.cons rfl (fun K hK => ?_) AllReadyIn.nil
              go_simp
              refine hK _ _ ?_
              clear hK K
              refine wpAnyIn_done (by kernel_rfl) ?_ _
              exact HF.out
            refine AllReadyIn.cons rfl (fun K hK => ?_) AllReadyIn.nil
            go_simp
            refine hK _ _ ?_
            clear hK K
            refine wpAnyIn_ready (rs := [0]) (by kernel_rfl) (by simp) ?_
            refine AllReadyIn.cons rfl (fun K hK => ?_) AllReadyIn.nil
            go_simp
            refine hK _ _ ?_
            clear hK K
            refine wpAnyIn_ready (rs := [6]) (by kernel_rfl) (by simp) ?_
            refine AllReadyIn.cons rfl (fun K hK => ?_) AllReadyIn.nil
            refine stepIn_append_own rfl (.tmp 36) (.tmp 41) 25 rfl s 24 i0 (.agg #[.string ByteArray.empty, .int .u64 0, .string ByteArray.empty, .bool false]) 4 48 Try.underlying25 hi hz0 hz1 hz2 rfl (by decide) (.slice ua nM uc) nM (flC (drpP l seq true pre ++ vs.take nw)) rfl (HRX.out _) ⟨V.heap.size, 0, none⟩ 1 1 [.string ck, .int .u64 (cs : Nat), .string cv, .bool false] rfl rfl (HNC.out) (clL_one ⟨ck, cs, cv, false⟩) (by have := HLE.out; have := HME.out; unfold maxLen; omega) (by have := HLE.out; have := HME.out; omega) (by simp; omega) ?_
            intro v2 w3 hown2 hg2
            obtain ⟨a2, c2, rfl, z5, f5, HF⟩ := HST.out w3 v2 hown2 hg2
            clear hown2 hg2
            refine hK _ _ ?_
            clear hK K
            refine wpAnyIn_ready (rs := [7]) (by kernel_rfl) (by simp) ?_
            refine AllReadyIn.cons rfl (fun K hK => ?_) AllReadyIn.nil
            go_simp
            refine hK _ _ ?_
            clear hK K
            refine wpAnyIn_done (by kernel_rfl) ?_ _
            exact HF.out
          refine AllReadyIn.cons rfl (fun K hK => ?_) AllReadyIn.nil
          go_simp
          refine hK _ _ ?_
          clear hK K
          refine wpAnyIn_ready (rs := [0, 1]) (by kernel_rfl) (by simp) ?_
          refine AllReadyIn.cons rfl (fun K hK => ?_) ?_
          ·
            go_simp
            refine hK _ _ ?_
            clear hK K
            refine wpAnyIn_ready (rs := [1]) (by kernel_rfl) (by simp) ?_
            refine AllReadyIn.cons rfl (fun K hK => ?_) AllReadyIn.nil
            go_simp
            refine hK _ _ ?_
            clear hK K
            refine wpAnyIn_ready (rs := [3]) (by kernel_rfl) (by simp) ?_
            refine AllReadyIn.cons rfl (fun K hK => ?_) AllReadyIn.nil
            go_simp
            refine hK _ _ ?_
            clear hK K
            refine wpAnyIn_ready (rs := [4]) (by kernel_rfl) (by simp) ?_
            refine AllReadyIn.cons rfl (fun K hK => ?_) AllReadyIn.nil
            go_simp
            refine hK _ _ ?_
            clear hK K
            refine wpAnyIn_ready (rs := [5]) (by kernel_rfl) (by simp) ?_
            refine AllReadyIn.cons rfl (fun K hK => ?_) AllReadyIn.nil
            go_simp
            refine hK _ _ ?_
            clear hK K
            refine wpAnyIn_ready (rs := [6]) (by kernel_rfl) (by simp) ?_
            refine AllReadyIn.cons rfl (fun K hK => ?_) AllReadyIn.nil
            refine stepIn_append_own rfl (.tmp 36) (.tmp 41) 25 rfl s 24 i0 (.agg #[.string ByteArray.empty, .int .u64 0, .string ByteArray.empty, .bool false]) 4 48 Try.underlying25 hi hz0 hz1 hz2 rfl (by decide) (.slice ua nM uc) nM (flC (drpP l seq true pre ++ vs.take nw)) rfl (HRX.out _) ⟨V.heap.size, 0, none⟩ 1 1 [.string ck, .int .u64 (cs : Nat), .string cv, .bool false] rfl rfl (HNC.out) (clL_one ⟨ck, cs, cv, false⟩) (by have := HLE.out; have := HME.out; unfold maxLen; omega) (by have := HLE.out; have := HME.out; omega) (by simp; omega) ?_
            intro v2 w3 hown2 hg2
            obtain ⟨a2, c2, rfl, z5, f5, HF⟩ := HST.out w3 v2 hown2 hg2
            clear hown2 hg2
            refine hK _ _ ?_
            clear hK K
            refine wpAnyIn_ready (rs := [7]) (by kernel_rfl) (by simp) ?_
            refine AllReadyIn.cons rfl (fun K hK => ?_) AllReadyIn.nil
            go_simp
            refine hK _ _ ?_
            clear hK K
            refine wpAnyIn_done (by kernel_rfl) ?_ _
            exact HF.out
          refine AllReadyIn.cons rfl (fun K hK => ?_) AllReadyIn.nil
          go_simp
          refine hK _ _ ?_
          clear hK K
          refine wpAnyIn_ready (rs := [0, 3]) (by kernel_rfl) (by simp) ?_
          refine AllReadyIn.cons rfl (fun K hK => ?_) ?_
          ·
            go_simp
            refine hK _ _ ?_
            clear hK K
            refine wpAnyIn_ready (rs := [3]) (by kernel_rfl) (by simp) ?_
            refine AllReadyIn.cons rfl (fun K hK => ?_) AllReadyIn.nil
            go_simp
            refine hK _ _ ?_
            clear hK K
            refine wpAnyIn_ready (rs := [4]) (by kernel_rfl) (by simp) ?_
            refine AllReadyIn.cons rfl (fun K hK => ?_) AllReadyIn.nil
            go_simp
            refine hK _ _ ?_
            clear hK K
            refine wpAnyIn_ready (rs := [5]) (by kernel_rfl) (by simp) ?_
            refine AllReadyIn.cons rfl (fun K hK => ?_) AllReadyIn.nil
            go_simp
            refine hK _ _ ?_
            clear hK K
            refine wpAnyIn_ready (rs := [6]) (by kernel_rfl) (by simp) ?_
            refine AllReadyIn.cons rfl (fun K hK => ?_) AllReadyIn.nil
            refine stepIn_append_own rfl (.tmp 36) (.tmp 41) 25 rfl s 24 i0 (.agg #[.string ByteArray.empty, .int .u64 0, .string ByteArray.empty, .bool false]) 4 48 Try.underlying25 hi hz0 hz1 hz2 rfl (by decide) (.slice ua nM uc) nM (flC (drpP l seq true pre ++ vs.take nw)) rfl (HRX.out _) ⟨V.heap.size, 0, none⟩ 1 1 [.string ck, .int .u64 (cs : Nat), .string cv, .bool false] rfl rfl (HNC.out) (clL_one ⟨ck, cs, cv, false⟩) (by have := HLE.out; have := HME.out; unfold maxLen; omega) (by have := HLE.out; have := HME.out; omega) (by simp; omega) ?_
            intro v2 w3 hown2 hg2
            obtain ⟨a2, c2, rfl, z5, f5, HF⟩ := HST.out w3 v2 hown2 hg2
            clear hown2 hg2
            refine hK _ _ ?_
            clear hK K
            refine wpAnyIn_ready (rs := [7]) (by kernel_rfl) (by simp) ?_
            refine AllReadyIn.cons rfl (fun K hK => ?_) AllReadyIn.nil
            go_simp
            refine hK _ _ ?_
            clear hK K
            refine wpAnyIn_done (by kernel_rfl) ?_ _
            exact HF.out
          refine AllReadyIn.cons rfl (fun K hK => ?_) AllReadyIn.nil
          go_simp
          refine hK _ _ ?_
          clear hK K
          refine wpAnyIn_ready (rs := [0, 4]) (by kernel_rfl) (by simp) ?_
          refine AllReadyIn.cons rfl (fun K hK => ?_) ?_
          ·
            go_simp
            refine hK _ _ ?_
            clear hK K
            refine wpAnyIn_ready (rs := [4]) (by kernel_rfl) (by simp) ?_
            refine AllReadyIn.cons rfl (fun K hK => ?_) AllReadyIn.nil
            go_simp
            refine hK _ _ ?_
            clear hK K
            refine wpAnyIn_ready (rs := [5]) (by kernel_rfl) (by simp) ?_
            refine AllReadyIn.cons rfl (fun K hK => ?_) AllReadyIn.nil
            go_simp
            refine hK _ _ ?_
            clear hK K
            refine wpAnyIn_ready (rs := [6]) (by kernel_rfl) (by simp) ?_
            refine AllReadyIn.cons rfl (fun K hK => ?_) AllReadyIn.nil
            refine stepIn_append_own rfl (.tmp 36) (.tmp 41) 25 rfl s 24 i0 (.agg #[.string ByteArray.empty, .int .u64 0, .string ByteArray.empty, .bool false]) 4 48 Try.underlying25 hi hz0 hz1 hz2 rfl (by decide) (.slice ua nM uc) nM (flC (drpP l seq true pre ++ vs.take nw)) rfl (HRX.out _) ⟨V.heap.size, 0, none⟩ 1 1 [.string ck, .int .u64 (cs : Nat), .string cv, .bool false] rfl rfl (HNC.out) (clL_one ⟨ck, cs, cv, false⟩) (by have := HLE.out; have := HME.out; unfold maxLen; omega) (by have := HLE.out; have := HME.out; omega) (by simp; omega) ?_
            intro v2 w3 hown2 hg2
            obtain ⟨a2, c2, rfl, z5, f5, HF⟩ := HST.out w3 v2 hown2 hg2
            clear hown2 hg2
            refine hK _ _ ?_
            clear hK K
            refine wpAnyIn_ready (rs := [7]) (by kernel_rfl) (by simp) ?_
            refine AllReadyIn.cons rfl (fun K hK => ?_) AllReadyIn.nil
            go_simp
            refine hK _ _ ?_
            clear hK K
            refine wpAnyIn_done (by kernel_rfl) ?_ _
            exact HF.out
          refine AllReadyIn.cons rfl (fun K hK => ?_) AllReadyIn.nil
          go_simp
          refine hK _ _ ?_
          clear hK K
          refine wpAnyIn_ready (rs := [0, 5]) (by kernel_rfl) (by simp) ?_
          refine AllReadyIn.cons rfl (fun K hK => ?_) ?_
          ·
            go_simp
            refine hK _ _ ?_
            clear hK K
            refine wpAnyIn_ready (rs := [5]) (by kernel_rfl) (by simp) ?_
            refine AllReadyIn.cons rfl (fun K hK => ?_) AllReadyIn.nil
            go_simp
            refine hK _ _ ?_
            clear hK K
            refine wpAnyIn_ready (rs := [6]) (by kernel_rfl) (by simp) ?_
            refine AllReadyIn.cons rfl (fun K hK => ?_) AllReadyIn.nil
            refine stepIn_append_own rfl (.tmp 36) (.tmp 41) 25 rfl s 24 i0 (.agg #[.string ByteArray.empty, .int .u64 0, .string ByteArray.empty, .bool false]) 4 48 Try.underlying25 hi hz0 hz1 hz2 rfl (by decide) (.slice ua nM uc) nM (flC (drpP l seq true pre ++ vs.take nw)) rfl (HRX.out _) ⟨V.heap.size, 0, none⟩ 1 1 [.string ck, .int .u64 (cs : Nat), .string cv, .bool false] rfl rfl (HNC.out) (clL_one ⟨ck, cs, cv, false⟩) (by have := HLE.out; have := HME.out; unfold maxLen; omega) (by have := HLE.out; have := HME.out; omega) (by simp; omega) ?_
            intro v2 w3 hown2 hg2
            obtain ⟨a2, c2, rfl, z5, f5, HF⟩ := HST.out w3 v2 hown2 hg2
            clear hown2 hg2
            refine hK _ _ ?_
            clear hK K
            refine wpAnyIn_ready (rs := [7]) (by kernel_rfl) (by simp) ?_
            refine AllReadyIn.cons rfl (fun K hK => ?_) AllReadyIn.nil
            go_simp
            refine hK _ _ ?_
            clear hK K
            refine wpAnyIn_done (by kernel_rfl) ?_ _
            exact HF.out
          refine AllReadyIn.cons rfl (fun K hK => ?_) AllReadyIn.nil
          go_simp
          refine hK _ _ ?_
          clear hK K
          refine wpAnyIn_ready (rs := [0]) (by kernel_rfl) (by simp) ?_
          refine AllReadyIn.cons rfl (fun K hK => ?_) AllReadyIn.nil
          go_simp
          refine hK _ _ ?_
          clear hK K
          refine wpAnyIn_ready (rs := [6]) (by kernel_rfl) (by simp) ?_
          refine AllReadyIn.cons rfl (fun K hK => ?_) AllReadyIn.nil
          refine stepIn_append_own rfl (.tmp 36) (.tmp 41) 25 rfl s 24 i0 (.agg #[.string ByteArray.empty, .int .u64 0, .string ByteArray.empty, .bool false]) 4 48 Try.underlying25 hi hz0 hz1 hz2 rfl (by decide) (.slice ua nM uc) nM (flC (drpP l seq true pre ++ vs.take nw)) rfl (HRX.out _) ⟨V.heap.size, 0, none⟩ 1 1 [.string ck, .int .u64 (cs : Nat), .string cv, .bool false] rfl rfl (HNC.out) (clL_one ⟨ck, cs, cv, false⟩) (by have := HLE.out; have := HME.out; unfold maxLen; omega) (by have := HLE.out; have := HME.out; omega) (by simp; omega) ?_
          intro v2 w3 hown2 hg2
          obtain ⟨a2, c2, rfl, z5, f5, HF⟩ := HST.out w3 v2 hown2 hg2
          clear hown2 hg2
          refine hK _ _ ?_
          clear hK K
          refine wpAnyIn_ready (rs := [7]) (by kernel_rfl) (by simp) ?_
          refine AllReadyIn.cons rfl (fun K hK => ?_) AllReadyIn.nil
          go_simp
          refine hK _ _ ?_
          clear hK K
          refine wpAnyIn_done (by kernel_rfl) ?_ _
          exact HF.out
      | false =>
        have HPK : Hid (pickD (cutL l (y1, y2)) seq false = vs.take nw ++ [⟨ck, cs, cv, cg⟩]) := HPK0.out
        gi_wp2
        obtain ⟨V, hV⟩ : ∃ V, wc.drew = V := ⟨_, rfl⟩
        have kV : Below wc.heap.size wc V := by rw [← hV]; exact (Below.refl _ _).drew
        have d0 : V.cell? ⟨bl, oo + nw * 4, none⟩ = some (.string ck) := by rw [← hV]; exact k0
        have d1 : V.cell? ⟨bl, oo + nw * 4 + 1, none⟩ = some (.int .u64 (cs : Nat)) := by rw [← hV]; exact k1
        have d2 : V.cell? ⟨bl, oo + nw * 4 + 2, none⟩ = some (.string cv) := by rw [← hV]; exact k2
        have d3 : V.cell? ⟨bl, oo + nw * 4 + 3, none⟩ = some (.bool cg) := by rw [← hV]; exact k3
        have d5 : V.cell? ⟨s + 1 + 1, 0, none⟩ = some (.slice ua nM uc) := by rw [← hV]; exact u5
        have HRX : Hid (∀ o, (V.alloc o).ownsRow s 24 4 (.slice ua nM uc) nM (flC (drpP l seq false pre ++ vs.take nw))) := fun o => World.ownsRow.alloc (owns_same HUR.out (fun g e => kV.block g (World.ownsRow.lt HUR.out g e).2)) o
        have HNC : Hid (∀ j u, [Value.string ck, .int .u64 (cs : Nat), .string cv, .bool cg][j]? = some u → (V.alloc (.cells #[.string ck, .int .u64 (cs : Nat), .string cv, .bool cg] 24)).cell? ((⟨V.heap.size, 0, none⟩ : Addr).add j) = some u) := fun j u hj => by
          rw [addr_add, cells_of_block (World.alloc_heap_new V _), Nat.zero_add]
          simpa using hj
        have HST : Hid (∀ w3 v2, w3.ownsRow s 24 4 v2 (nM + 1) (flC (drpP l seq false pre ++ vs.take nw) ++ [Value.string ck, .int .u64 (cs : Nat), .string cv, .bool cg]) → (V.alloc (.cells #[.string ck, .int .u64 (cs : Nat), .string cv, .bool cg] 24)).grownBy w3 (Value.slice ua nM uc).ownBlock → ∃ a2 c2, v2 = .slice a2 (nM + 1) c2 ∧ w3.cell? ⟨s + 1 + 1, 0, none⟩ = some (.slice ua nM uc) ∧ w3.frozen? ⟨s + 1 + 1, 0, none⟩ = false ∧ Hid (KeepsOthers W (w3.setCell ⟨s + 1 + 1, 0, none⟩ v2) ∧ KcC ob W (w3.setCell ⟨s + 1 + 1, 0, none⟩ v2) ∧ ColI w s (s + 2) (drpP l seq false (pre ++ [(y1, y2)])) (w3.setCell ⟨s + 1 + 1, 0, none⟩ v2) ∧ Boxed (w3.setCell ⟨s + 1 + 1, 0, none⟩ v2) s 22 (.int .u64 (seq : Nat)) ∧ Boxed (w3.setCell ⟨s + 1 + 1, 0, none⟩ v2) (s + 1) 4 (.bool false))) := fun w3 v2 q1 q2 => by
          obtain ⟨a2, c2, r1, r2, r3, r4⟩ := col_step (cs := [⟨ck, cs, cv, cg⟩]) (m := 1) (ob := ob) (by omega) hob (by omega) HNM.out rfl kV HUB.out HUR.out HCC.out.2.2.1.bel ((Below.refl _ V).alloc (Nat.le_refl _) _) q1 q2
          refine ⟨a2, c2, r1, r2, r3, HCC.out.1.trans r4.out.1, HCC.out.2.1.trans r4.out.2.1, ?_, r4.out.2.2.2 s _ _ HCC.out.2.2.2.1 (by omega) (by decide), r4.out.2.2.2 (s + 1) _ _ HCC.out.2.2.2.2 (by omega) (by decide)⟩
          rw [drpP_snoc, HPK.out, ← List.append_assoc]
          exact r4.out.2.2.1
        have d6 : (V.alloc (.cells #[.string ck, .int .u64 (cs : Nat), .string cv, .bool cg] 24)).cell? ⟨s + 1 + 1, 0, none⟩ = some (.slice ua nM uc) := ((Below.refl _ V).alloc (Nat.le_refl _) _).cell (p := ⟨s + 1 + 1, 0, none⟩) (World.block_lt_of_cell? V _ d5) |>.trans d5
        have hsV : s ≤ V.heap.size := by have := HCC.out.2.2.1.bel.size; have := kV.size; omega
        refine wpIn_region_any (by kernel_rfl) ?_
        rw [show ({ wc with drawn := wc.drawn + 1 } : World) = V from hV]
        clear k0 k1 k2 k3 u5 hV
        refine wpAnyIn_ready (rs := [0, 1, 2]) (by kernel_rfl) (by simp) ?_
        refine AllReadyIn.cons rfl (fun K hK => ?_) ?_
        ·
          go_simp
          refine hK _ _ ?_
          clear hK K
          refine wpAnyIn_ready (rs := [1, 2]) (by kernel_rfl) (by simp) ?_
          refine AllReadyIn.cons rfl (fun K hK => ?_) ?_
          ·
            go_simp
            refine hK _ _ ?_
            clear hK K
            refine wpAnyIn_ready (rs := [2]) (by kernel_rfl) (by simp) ?_
            refine AllReadyIn.cons rfl (fun K hK => ?_) AllReadyIn.nil
            go_simp
            refine hK _ _ ?_
            clear hK K
            refine wpAnyIn_ready (rs := [3]) (by kernel_rfl) (by simp) ?_
            refine AllReadyIn.cons rfl (fun K hK => ?_) AllReadyIn.nil
            go_simp
            refine hK _ _ ?_
            clear hK K
            refine wpAnyIn_ready (rs := [4]) (by kernel_rfl) (by simp) ?_
            refine AllReadyIn.cons rfl (fun K hK => ?_) AllReadyIn.nil
            go_simp
            refine hK _ _ ?_
            clear hK K
            refine wpAnyIn_ready (rs := [5]) (by kernel_rfl) (by simp) ?_
            refine AllReadyIn.cons rfl (fun K hK => ?_) AllReadyIn.nil
            go_simp
            refine hK _ _ ?_
            clear hK K
            refine wpAnyIn_ready (rs := [6]) (by kernel_rfl) (by simp) ?_
            refine AllReadyIn.cons rfl (fun K hK => ?_) AllReadyIn.nil
            refine stepIn_append_own rfl (.tmp 36) (.tmp 41) 25 rfl s 24 i0 (.agg #[.string ByteArray.empty, .int .u64 0, .string ByteArray.empty, .bool false]) 4 48 Try.underlying25 hi hz0 hz1 hz2 rfl (by decide) (.slice ua nM uc) nM (flC (drpP l seq false pre ++ vs.take nw)) rfl (HRX.out _) ⟨V.heap.size, 0, none⟩ 1 1 [.string ck, .int .u64 (cs : Nat), .string cv, .bool cg] rfl rfl (HNC.out) (clL_one ⟨ck, cs, cv, cg⟩) (by have := HLE.out; have := HME.out; unfold maxLen; omega) (by have := HLE.out; have := HME.out; omega) (by simp; omega) ?_
            intro v2 w3 hown2 hg2
            obtain ⟨a2, c2, rfl, z5, f5, HF⟩ := HST.out w3 v2 hown2 hg2
            clear hown2 hg2
            refine hK _ _ ?_
            clear hK K
            refine wpAnyIn_ready (rs := [7]) (by kernel_rfl) (by simp) ?_
            refine AllReadyIn.cons rfl (fun K hK => ?_) AllReadyIn.nil
            go_simp
            refine hK _ _ ?_
            clear hK K
            refine wpAnyIn_done (by kernel_rfl) ?_ _
            exact HF.out
          refine AllReadyIn.cons rfl (fun K hK => ?_) AllReadyIn.nil
          go_simp
          refine hK _ _ ?_
          clear hK K
          refine wpAnyIn_ready (rs := [1]) (by kernel_rfl) (by simp) ?_
          refine AllReadyIn.cons rfl (fun K hK => ?_) AllReadyIn.nil
          go_simp
          refine hK _ _ ?_
          clear hK K
          refine wpAnyIn_ready (rs := [3]) (by kernel_rfl) (by simp) ?_
          refine AllReadyIn.cons rfl (fun K hK => ?_) AllReadyIn.nil
          go_simp
          refine hK _ _ ?_
          clear hK K
          refine wpAnyIn_ready (rs := [4]) (by kernel_rfl) (by simp) ?_
          refine AllReadyIn.cons rfl (fun K hK => ?_) AllReadyIn.nil
          go_simp
          refine hK _ _ ?_
          clear hK K
          refine wpAnyIn_ready (rs := [5]) (by kernel_rfl) (by simp) ?_
          refine AllReadyIn.cons rfl (fun K hK => ?_) AllReadyIn.nil
          go_simp
          refine hK _ _ ?_
          clear hK K
          refine wpAnyIn_ready (rs := [6]) (by kernel_rfl) (by simp) ?_
          refine AllReadyIn.cons rfl (fun K hK => ?_) AllReadyIn.nil
          refine stepIn_append_own rfl (.tmp 36) (.tmp 41) 25 rfl s 24 i0 (.agg #[.string ByteArray.empty, .int .u64 0, .string ByteArray.empty, .bool false]) 4 48 Try.underlying25 hi hz0 hz1 hz2 rfl (by decide) (.slice ua nM uc) nM (flC (drpP l seq false pre ++ vs.take nw)) rfl (HRX.out _) ⟨V.heap.size, 0, none⟩ 1 1 [.string ck, .int .u64 (cs : Nat), .string cv, .bool cg] rfl rfl (HNC.out) (clL_one ⟨ck, cs, cv, cg⟩) (by have := HLE.out; have := HME.out; unfold maxLen; omega) (by have := HLE.out; have := HME.out; omega) (by simp; omega) ?_
          intro v2 w3 hown2 hg2
          obtain ⟨a2, c2, rfl, z5, f5, HF⟩ := HST.out w3 v2 hown2 hg2
          clear hown2 hg2
          refine hK _ _ ?_
          clear hK K
          refine wpAnyIn_ready (rs := [7]) (by kernel_rfl) (by simp) ?_
          refine AllReadyIn.cons rfl (fun K hK => ?_) AllReadyIn.nil
          go_simp
          refine hK _ _ ?_
          clear hK K
          refine wpAnyIn_done (by kernel_rfl) ?_ _
          exact HF.out
        refine AllReadyIn.cons rfl (fun K hK => ?_) ?_
        ·
          go_simp
          refine hK _ _ ?_
          clear hK K
          refine wpAnyIn_ready (rs := [0, 2]) (by kernel_rfl) (by simp) ?_
          refine AllReadyIn.cons rfl (fun K hK => ?_) ?_
          ·
            go_simp
            refine hK _ _ ?_
            clear hK K
            refine wpAnyIn_ready (rs := [2]) (by kernel_rfl) (by simp) ?_
            refine AllReadyIn.cons rfl (fun K hK => ?_) AllReadyIn.nil
            go_simp
            refine hK _ _ ?_
            clear hK K
            refine wpAnyIn_ready (rs := [3]) (by kernel_rfl) (by simp) ?_
            refine AllReadyIn.cons rfl (fun K hK => ?_) AllReadyIn.nil
            go_simp
            refine hK _ _ ?_
            clear hK K
            refine wpAnyIn_ready (rs := [4]) (by kernel_rfl) (by simp) ?_
            refine AllReadyIn.cons rfl (fun K hK => ?_) AllReadyIn.nil
            go_simp
            refine hK _ _ ?_
            clear hK K
            refine wpAnyIn_ready (rs := [5]) (by kernel_rfl) (by simp) ?_
            refine AllReadyIn.cons rfl (fun K hK => ?_) AllReadyIn.nil
            go_simp
            refine hK _ _ ?_
            clear hK K
            refine wpAnyIn_ready (rs := [6]) (by kernel_rfl) (by simp) ?_
            refine AllReadyIn.cons rfl (fun K hK => ?_) AllReadyIn.nil
            refine stepIn_append_own rfl (.tmp 36) (.tmp 41) 25 rfl s 24 i0 (.agg #[.string ByteArray.empty, .int .u64 0, .string ByteArray.empty, .bool false]) 4 48 Try.underlying25 hi hz0 hz1 hz2 rfl (by decide) (.slice ua nM uc) nM (flC (drpP l seq false pre ++ vs.take nw)) rfl (HRX.out _) ⟨V.heap.size, 0, none⟩ 1 1 [.string ck, .int .u64 (cs : Nat), .string cv, .bool cg] rfl rfl (HNC.out) (clL_one ⟨ck, cs, cv, cg⟩) (by have := HLE.out; have := HME.out; unfold maxLen; omega) (by have := HLE.out; have := HME.out; omega) (by simp; omega) ?_
            intro v2 w3 hown2 hg2
            obtain ⟨a2, c2, rfl, z5, f5, HF⟩ := HST.out w3 v2 hown2 hg2
            clear hown2 hg2
            refine hK _ _ ?_
            clear hK K
            refine wpAnyIn_ready (rs := [7]) (by kernel_rfl) (by simp) ?_
            refine AllReadyIn.cons rfl (fun K hK => ?_) AllReadyIn.nil
            go_simp
            refine hK _ _ ?_
            clear hK K
            refine wpAnyIn_done (by kernel_rfl) ?_ _
            exact HF.out
          refine AllReadyIn.cons rfl (fun K hK => ?_) AllReadyIn.nil
          go_simp
          refine hK _ _ ?_
          clear hK K
          refine wpAnyIn_ready (rs := [0, 3]) (by kernel_rfl) (by simp) ?_
          refine AllReadyIn.cons rfl (fun K hK => ?_) ?_
          ·
            go_simp
            refine hK _ _ ?_
            clear hK K
            refine wpAnyIn_ready (rs := [3]) (by kernel_rfl) (by simp) ?_
            refine AllReadyIn.cons rfl (fun K hK => ?_) AllReadyIn.nil
            go_simp
            refine hK _ _ ?_
            clear hK K
            refine wpAnyIn_ready (rs := [4]) (by kernel_rfl) (by simp) ?_
            refine AllReadyIn.cons rfl (fun K hK => ?_) AllReadyIn.nil
            go_simp
            refine hK _ _ ?_
            clear hK K
            refine wpAnyIn_ready (rs := [5]) (by kernel_rfl) (by simp) ?_
            refine AllReadyIn.cons rfl (fun K hK => ?_) AllReadyIn.nil
            go_simp
            refine hK _ _ ?_
            clear hK K
            refine wpAnyIn_ready (rs := [6]) (by kernel_rfl) (by simp) ?_
            refine AllReadyIn.cons rfl (fun K hK => ?_) AllReadyIn.nil
            refine stepIn_append_own rfl (.tmp 36) (.tmp 41) 25 rfl s 24 i0 (.agg #[.string ByteArray.empty, .int .u64 0, .string ByteArray.empty, .bool false]) 4 48 Try.underlying25 hi hz0 hz1 hz2 rfl (by decide) (.slice ua nM uc) nM (flC (drpP l seq false pre ++ vs.take nw)) rfl (HRX.out _) ⟨V.heap.size, 0, none⟩ 1 1 [.string ck, .int .u64 (cs : Nat), .string cv, .bool cg] rfl rfl (HNC.out) (clL_one ⟨ck, cs, cv, cg⟩) (by have := HLE.out; have := HME.out; unfold maxLen; omega) (by have := HLE.out; have := HME.out; omega) (by simp; omega) ?_
            intro v2 w3 hown2 hg2
            obtain ⟨a2, c2, rfl, z5, f5, HF⟩ := HST.out w3 v2 hown2 hg2
            clear hown2 hg2
            refine hK _ _ ?_
            clear hK K
            refine wpAnyIn_ready (rs := [7]) (by kernel_rfl) (by simp) ?_
            refine AllReadyIn.cons rfl (fun K hK => ?_) AllReadyIn.nil
            go_simp
            refine hK _ _ ?_
            clear hK K
            refine wpAnyIn_done (by kernel_rfl) ?_ _
            exact HF.out
          refine AllReadyIn.cons rfl (fun K hK => ?_) AllReadyIn.nil
          go_simp
          refine hK _ _ ?_
          clear hK K
          refine wpAnyIn_ready (rs := [0, 4]) (by kernel_rfl) (by simp) ?_
          refine AllReadyIn.cons rfl (fun K hK => ?_) ?_
          ·
            go_simp
            refine hK _ _ ?_
            clear hK K
            refine wpAnyIn_ready (rs := [4]) (by kernel_rfl) (by simp) ?_
            refine AllReadyIn.cons rfl (fun K hK => ?_) AllReadyIn.nil
            go_simp
            refine hK _ _ ?_
            clear hK K
            refine wpAnyIn_ready (rs := [5]) (by kernel_rfl) (by simp) ?_
            refine AllReadyIn.cons rfl (fun K hK => ?_) AllReadyIn.nil
            go_simp
            refine hK _ _ ?_
            clear hK K
            refine wpAnyIn_ready (rs := [6]) (by kernel_rfl) (by simp) ?_
            refine AllReadyIn.cons rfl (fun K hK => ?_) AllReadyIn.nil
            refine stepIn_append_own rfl (.tmp 36) (.tmp 41) 25 rfl s 24 i0 (.agg #[.string ByteArray.empty, .int .u64 0, .string ByteArray.empty, .bool false]) 4 48 Try.underlying25 hi hz0 hz1 hz2 rfl (by decide) (.slice ua nM uc) nM (flC (drpP l seq false pre ++ vs.take nw)) rfl (HRX.out _) ⟨V.heap.size, 0, none⟩ 1 1 [.string ck, .int .u64 (cs : Nat), .string cv, .bool cg] rfl rfl (HNC.out) (clL_one ⟨ck, cs, cv, cg⟩) (by have := HLE.out; have := HME.out; unfold maxLen; omega) (by have := HLE.out; have := HME.out; omega) (by simp; omega) ?_
            intro v2 w3 hown2 hg2
            obtain ⟨a2, c2, rfl, z5, f5, HF⟩ := HST.out w3 v2 hown2 hg2
            clear hown2 hg2
            refine hK _ _ ?_
            clear hK K
            refine wpAnyIn_ready (rs := [7]) (by kernel_rfl) (by simp) ?_
            refine AllReadyIn.cons rfl (fun K hK => ?_) AllReadyIn.nil
            go_simp
            refine hK _ _ ?_
            clear hK K
            refine wpAnyIn_done (by kernel_rfl) ?_ _
            exact HF.out
          refine AllReadyIn.cons rfl (fun K hK => ?_) AllReadyIn.nil
          go_simp
          refine hK _ _ ?_
          clear hK K
          refine wpAnyIn_ready (rs := [0, 5]) (by kernel_rfl) (by simp) ?_
          refine AllReadyIn.cons rfl (fun K hK => ?_) ?_
          ·
            go_simp
            refine hK _ _ ?_
            clear hK K
            refine wpAnyIn_ready (rs := [5]) (by kernel_rfl) (by simp) ?_
            refine AllReadyIn.cons rfl (fun K hK => ?_) AllReadyIn.nil
            go_simp
            refine hK _ _ ?_
            clear hK K
            refine wpAnyIn_ready (rs := [6]) (by kernel_rfl) (by simp) ?_
            refine AllReadyIn.cons rfl (fun K hK => ?_) AllReadyIn.nil
            refine stepIn_append_own rfl (.tmp 36) (.tmp 41) 25 rfl s 24 i0 (.agg #[.string ByteArray.empty, .int .u64 0, .string ByteArray.empty, .bool false]) 4 48 Try.underlying25 hi hz0 hz1 hz2 rfl (by decide) (.slice ua nM uc) nM (flC (drpP l seq false pre ++ vs.take nw)) rfl (HRX.out _) ⟨V.heap.size, 0, none⟩ 1 1 [.string ck, .int .u64 (cs : Nat), .string cv, .bool cg] rfl rfl (HNC.out) (clL_one ⟨ck, cs, cv, cg⟩) (by have := HLE.out; have := HME.out; unfold maxLen; omega) (by have := HLE.out; have := HME.out; omega) (by simp; omega) ?_
            intro v2 w3 hown2 hg2
            obtain ⟨a2, c2, rfl, z5, f5, HF⟩ := HST.out w3 v2 hown2 hg2
            clear hown2 hg2
            refine hK _ _ ?_
            clear hK K
            refine wpAnyIn_ready (rs := [7]) (by kernel_rfl) (by simp) ?_
            refine AllReadyIn.cons rfl (fun K hK => ?_) AllReadyIn.nil
            go_simp
            refine hK _ _ ?_
            clear hK K
            refine wpAnyIn_done (by kernel_rfl) ?_ _
            exact HF.out
          refine AllReadyIn.cons rfl (fun K hK => ?_) AllReadyIn.nil
          go_simp
          refine hK _ _ ?_
          clear hK K
          refine wpAnyIn_ready (rs := [0]) (by kernel_rfl) (by simp) ?_
          refine AllReadyIn.cons rfl (fun K hK => ?_) AllReadyIn.nil
          go_simp
          refine hK _ _ ?_
          clear hK K
          refine wpAnyIn_ready (rs := [6]) (by kernel_rfl) (by simp) ?_
          refine AllReadyIn.cons rfl (fun K hK => ?_) AllReadyIn.nil
          refine stepIn_append_own rfl (.tmp 36) (.tmp 41) 25 rfl s 24 i0 (.agg #[.string ByteArray.empty, .int .u64 0, .string ByteArray.empty, .bool false]) 4 48 Try.underlying25 hi hz0 hz1 hz2 rfl (by decide) (.slice ua nM uc) nM (flC (drpP l seq false pre ++ vs.take nw)) rfl (HRX.out _) ⟨V.heap.size, 0, none⟩ 1 1 [.string ck, .int .u64 (cs : Nat), .string cv, .bool cg] rfl rfl (HNC.out) (clL_one ⟨ck, cs, cv, cg⟩) (by have := HLE.out; have := HME.out; unfold maxLen; omega) (by have := HLE.out; have := HME.out; omega) (by simp; omega) ?_
          intro v2 w3 hown2 hg2
          obtain ⟨a2, c2, rfl, z5, f5, HF⟩ := HST.out w3 v2 hown2 hg2
          clear hown2 hg2
          refine hK _ _ ?_
          clear hK K
          refine wpAnyIn_ready (rs := [7]) (by kernel_rfl) (by simp) ?_
          refine AllReadyIn.cons rfl (fun K hK => ?_) AllReadyIn.nil
          go_simp
          refine hK _ _ ?_
          clear hK K
          refine wpAnyIn_done (by kernel_rfl) ?_ _
          exact HF.out
        refine AllReadyIn.cons rfl (fun K hK => ?_) AllReadyIn.nil
        go_simp
        refine hK _ _ ?_
        clear hK K
        refine wpAnyIn_ready (rs := [0, 1]) (by kernel_rfl) (by simp) ?_
        refine AllReadyIn.cons rfl (fun K hK => ?_) ?_
        ·
          go_simp
          refine hK _ _ ?_
          clear hK K
          refine wpAnyIn_ready (rs := [1]) (by kernel_rfl) (by simp) ?_
          refine AllReadyIn.cons rfl (fun K hK => ?_) AllReadyIn.nil
          go_simp
          refine hK _ _ ?_
          clear hK K
          refine wpAnyIn_ready (rs := [3]) (by kernel_rfl) (by simp) ?_
          refine AllReadyIn.cons rfl (fun K hK => ?_) AllReadyIn.nil
          go_simp
          refine hK _ _ ?_
          clear hK K
          refine wpAnyIn_ready (rs := [4]) (by kernel_rfl) (by simp) ?_
          refine AllReadyIn.cons rfl (fun K hK => ?_) AllReadyIn.nil
          go_simp
          refine hK _ _ ?_
          clear hK K
          refine wpAnyIn_ready (rs := [5]) (by kernel_rfl) (by simp) ?_
          refine AllReadyIn.cons rfl (fun K hK => ?_) AllReadyIn.nil
          go_simp
          refine hK _ _ ?_
          clear hK K
          refine wpAnyIn_ready (rs := [6]) (by kernel_rfl) (by simp) ?_
          refine AllReadyIn.cons rfl (fun K hK => ?_) AllReadyIn.nil
          refine stepIn_append_own rfl (.tmp 36) (.tmp 41) 25 rfl s 24 i0 (.agg #[.string ByteArray.empty, .int .u64 0, .string ByteArray.empty, .bool false]) 4 48 Try.underlying25 hi hz0 hz1 hz2 rfl (by decide) (.slice ua nM uc) nM (flC (drpP l seq false pre ++ vs.take nw)) rfl (HRX.out _) ⟨V.heap.size, 0, none⟩ 1 1 [.string ck, .int .u64 (cs : Nat), .string cv, .bool cg] rfl rfl (HNC.out) (clL_one ⟨ck, cs, cv, cg⟩) (by have := HLE.out; have := HME.out; unfold maxLen; omega) (by have := HLE.out; have := HME.out; omega) (by simp; omega) ?_
          intro v2 w3 hown2 hg2
          obtain ⟨a2, c2, rfl, z5, f5, HF⟩ := HST.out w3 v2 hown2 hg2
          clear hown2 hg2
          refine hK _ _ ?_
          clear hK K
          refine wpAnyIn_ready (rs := [7]) (by kernel_rfl) (by simp) ?_
          refine AllReadyIn.cons rfl (fun K hK => ?_) AllReadyIn.nil
          go_simp
          refine hK _ _ ?_
          clear hK K
          refine wpAnyIn_done (by kernel_rfl) ?_ _
          exact HF.out
        refine AllReadyIn.cons rfl (fun K hK => ?_) AllReadyIn.nil
        go_simp
        refine hK _ _ ?_
        clear hK K
        refine wpAnyIn_ready (rs := [0, 3]) (by kernel_rfl) (by simp) ?_
        refine AllReadyIn.cons rfl (fun K hK => ?_) ?_
        ·
          go_simp
          refine hK _ _ ?_
          clear hK K
          refine wpAnyIn_ready (rs := [3]) (by kernel_rfl) (by simp) ?_
          refine AllReadyIn.cons rfl (fun K hK => ?_) AllReadyIn.nil
          go_simp
          refine hK _ _ ?_
          clear hK K
          refine wpAnyIn_ready (rs := [4]) (by kernel_rfl) (by simp) ?_
          refine AllReadyIn.cons rfl (fun K hK => ?_) AllReadyIn.nil
          go_simp
          refine hK _ _ ?_
          clear hK K
          refine wpAnyIn_ready (rs := [5]) (by kernel_rfl) (by simp) ?_
          refine AllReadyIn.cons rfl (fun K hK => ?_) AllReadyIn.nil
          go_simp
          refine hK _ _ ?_
          clear hK K
          refine wpAnyIn_ready (rs := [6]) (by kernel_rfl) (by simp) ?_
          refine AllReadyIn.cons rfl (fun K hK => ?_) AllReadyIn.nil
          refine stepIn_append_own rfl (.tmp 36) (.tmp 41) 25 rfl s 24 i0 (.agg #[.string ByteArray.empty, .int .u64 0, .string ByteArray.empty, .bool false]) 4 48 Try.underlying25 hi hz0 hz1 hz2 rfl (by decide) (.slice ua nM uc) nM (flC (drpP l seq false pre ++ vs.take nw)) rfl (HRX.out _) ⟨V.heap.size, 0, none⟩ 1 1 [.string ck, .int .u64 (cs : Nat), .string cv, .bool cg] rfl rfl (HNC.out) (clL_one ⟨ck, cs, cv, cg⟩) (by have := HLE.out; have := HME.out; unfold maxLen; omega) (by have := HLE.out; have := HME.out; omega) (by simp; omega) ?_
          intro v2 w3 hown2 hg2
          obtain ⟨a2, c2, rfl, z5, f5, HF⟩ := HST.out w3 v2 hown2 hg2
          clear hown2 hg2
          refine hK _ _ ?_
          clear hK K
          refine wpAnyIn_ready (rs := [7]) (by kernel_rfl) (by simp) ?_
          refine AllReadyIn.cons rfl (fun K hK => ?_) AllReadyIn.nil
          go_simp
          refine hK _ _ ?_
          clear hK K
          refine wpAnyIn_done (by kernel_rfl) ?_ _
          exact HF.out
        refine AllReadyIn.cons rfl (fun K hK => ?_) AllReadyIn.nil
        go_simp
        refine hK _ _ ?_
        clear hK K
        refine wpAnyIn_ready (rs := [0, 4]) (by kernel_rfl) (by simp) ?_
        refine AllReadyIn.cons rfl (fun K hK => ?_) ?_
        ·
          go_simp
          refine hK _ _ ?_
          clear hK K
          refine wpAnyIn_ready (rs := [4]) (by kernel_rfl) (by simp) ?_
          refine AllReadyIn.cons rfl (fun K hK => ?_) AllReadyIn.nil
          go_simp
          refine hK _ _ ?_
          clear hK K
          refine wpAnyIn_ready (rs := [5]) (by kernel_rfl) (by simp) ?_
          refine AllReadyIn.cons rfl (fun K hK => ?_) AllReadyIn.nil
          go_simp
          refine hK _ _ ?_
          clear hK K
          refine wpAnyIn_ready (rs := [6]) (by kernel_rfl) (by simp) ?_
          refine AllReadyIn.cons rfl (fun K hK => ?_) AllReadyIn.nil
          refine stepIn_append_own rfl (.tmp 36) (.tmp 41) 25 rfl s 24 i0 (.agg #[.string ByteArray.empty, .int .u64 0, .string ByteArray.empty, .bool false]) 4 48 Try.underlying25 hi hz0 hz1 hz2 rfl (by decide) (.slice ua nM uc) nM (flC (drpP l seq false pre ++ vs.take nw)) rfl (HRX.out _) ⟨V.heap.size, 0, none⟩ 1 1 [.string ck, .int .u64 (cs : Nat), .string cv, .bool cg] rfl rfl (HNC.out) (clL_one ⟨ck, cs, cv, cg⟩) (by have := HLE.out; have := HME.out; unfold maxLen; omega) (by have := HLE.out; have := HME.out; omega) (by simp; omega) ?_
          intro v2 w3 hown2 hg2
          obtain ⟨a2, c2, rfl, z5, f5, HF⟩ := HST.out w3 v2 hown2 hg2
          clear hown2 hg2
          refine hK _ _ ?_
          clear hK K
          refine wpAnyIn_ready (rs := [7]) (by kernel_rfl) (by simp) ?_
          refine AllReadyIn.cons rfl (fun K hK => ?_) AllReadyIn.nil
          go_simp
          refine hK _ _ ?_
          clear hK K
          refine wpAnyIn_done (by kernel_rfl) ?_ _
          exact HF.out
        refine AllReadyIn.cons rfl (fun K hK => ?_) AllReadyIn.nil
        go_simp
        refine hK _ _ ?_
        clear hK K
        refine wpAnyIn_ready (rs := [0, 5]) (by kernel_rfl) (by simp) ?_
        refine AllReadyIn.cons rfl (fun K hK => ?_) ?_
        ·
          go_simp
          refine hK _ _ ?_
          clear hK K
          refine wpAnyIn_ready (rs := [5]) (by kernel_rfl) (by simp) ?_
          refine AllReadyIn.cons rfl (fun K hK => ?_) AllReadyIn.nil
          go_simp
          refine hK _ _ ?_
          clear hK K
          refine wpAnyIn_ready (rs := [6]) (by kernel_rfl) (by simp) ?_
          refine AllReadyIn.cons rfl (fun K hK => ?_) AllReadyIn.nil
          refine stepIn_append_own rfl (.tmp 36) (.tmp 41) 25 rfl s 24 i0 (.agg #[.string ByteArray.empty, .int .u64 0, .string ByteArray.empty, .bool false]) 4 48 Try.underlying25 hi hz0 hz1 hz2 rfl (by decide) (.slice ua nM uc) nM (flC (drpP l seq false pre ++ vs.take nw)) rfl (HRX.out _) ⟨V.heap.size, 0, none⟩ 1 1 [.string ck, .int .u64 (cs : Nat), .string cv, .bool cg] rfl rfl (HNC.out) (clL_one ⟨ck, cs, cv, cg⟩) (by have := HLE.out; have := HME.out; unfold maxLen; omega) (by have := HLE.out; have := HME.out; omega) (by simp; omega) ?_
          intro v2 w3 hown2 hg2
          obtain ⟨a2, c2, rfl, z5, f5, HF⟩ := HST.out w3 v2 hown2 hg2
          clear hown2 hg2
          refine hK _ _ ?_
          clear hK K
          refine wpAnyIn_ready (rs := [7]) (by kernel_rfl) (by simp) ?_
          refine AllReadyIn.cons rfl (fun K hK => ?_) AllReadyIn.nil
          go_simp
          refine hK _ _ ?_
          clear hK K
          refine wpAnyIn_done (by kernel_rfl) ?_ _
          exact HF.out
        refine AllReadyIn.cons rfl (fun K hK => ?_) AllReadyIn.nil
        go_simp
        refine hK _ _ ?_
        clear hK K
        refine wpAnyIn_ready (rs := [0]) (by kernel_rfl) (by simp) ?_
        refine AllReadyIn.cons rfl (fun K hK => ?_) AllReadyIn.nil
        go_simp
        refine hK _ _ ?_
        clear hK K
        refine wpAnyIn_ready (rs := [6]) (by kernel_rfl) (by simp) ?_
        refine AllReadyIn.cons rfl (fun K hK => ?_) AllReadyIn.nil
        refine stepIn_append_own rfl (.tmp 36) (.tmp 41) 25 rfl s 24 i0 (.agg #[.string ByteArray.empty, .int .u64 0, .string ByteArray.empty, .bool false]) 4 48 Try.underlying25 hi hz0 hz1 hz2 rfl (by decide) (.slice ua nM uc) nM (flC (drpP l seq false pre ++ vs.take nw)) rfl (HRX.out _) ⟨V.heap.size, 0, none⟩ 1 1 [.string ck, .int .u64 (cs : Nat), .string cv, .bool cg] rfl rfl (HNC.out) (clL_one ⟨ck, cs, cv, cg⟩) (by have := HLE.out; have := HME.out; unfold maxLen; omega) (by have := HLE.out; have := HME.out; omega) (by simp; omega) ?_
        intro v2 w3 hown2 hg2
        obtain ⟨a2, c2, rfl, z5, f5, HF⟩ := HST.out w3 v2 hown2 hg2
        clear hown2 hg2
        refine hK _ _ ?_
        clear hK K
        refine wpAnyIn_ready (rs := [7]) (by kernel_rfl) (by simp) ?_
        refine AllReadyIn.cons rfl (fun K hK => ?_) AllReadyIn.nil
        go_simp
        refine hK _ _ ?_
        clear hK K
        refine wpAnyIn_done (by kernel_rfl) ?_ _
        exact HF.out
    · have HEE : Hid _ := HE.out (by
        unfold pickD
        rw [HVS.out.1, HVS.out.2, List.getElem?_eq_none (by rw [HCL.out]; omega), List.append_nil])
      have hd : decide ((nw : Int) < (y2 : Int)) = false := decide_eq_false (by omega)
      gi_wp2
      exact HEE.out
  case done =>
    rintro D xs W hD rfl ⟨hcol, hsq, hbt⟩ hK
    obtain ⟨v, hv, hrow⟩ := hcol.col
    obtain ⟨va, vc, rfl⟩ := row_form4 hrow
    have c5 : W.cell? ⟨s + 1 + 1, 0, none⟩ = some (.slice va (drpP l seq bt (allG l)).length vc) := hv.cell
    have HRW : Hid (W.ownsRow s 24 4 (.slice va (drpP l seq bt (allG l)).length vc) (drpP l seq bt (allG l)).length (flC (drpP l seq bt (allG l)))) := hrow
    have HBL : Hid (Below s w W) := hcol.bel
    have HK : Hid (W.heap[D]? = some (.deferred (some []))) := hK
    clear hv hrow hcol hsq hbt hK HI0 HS3
    go_wp2_with fail
    refine ⟨by simp, .inl ⟨_, _, rfl, run_takeDeferred HK.out, ?_⟩⟩
    refine ⟨.slice va (drpP l seq bt (allG l)).length vc, ?_, _, rfl, ?_, ?_⟩
    · simp [results, Try.f21, go_sem]
    · rw [hs]
      exact ownsRow_putObj HRW.out _ HK.out rfl
    · rw [hs]
      exact HBL.out.trans (belowK_b (w := W0) (by omega) W D _ _ hD HK.out rfl rfl)
  case stop => exact fun _ _ _ _ _ _ h => h.elim
end Go.Proofs.Ytohamjoiohfoiaa
