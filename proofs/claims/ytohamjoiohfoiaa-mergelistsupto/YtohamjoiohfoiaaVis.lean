/-
  The contract of Visible.
-/
import Derived.Test.YtohamjoiohfoiaaCol
namespace Go.Proofs.Ytohamjoiohfoiaa
open Go.RowKit Go.Shelf
attribute [local go_sem] Oper.semAt_some
theorem grps_len (l : List Cl) : ∀ g k, k ≤ l.length → (grps l g k).length + k ≤ l.length
  | 0, k, h => by simp [grps]; exact h
  | g + 1, k, h => by
    rw [grps]
    split
    · rename_i hk
      have h1 := runN_le (l.drop k)
      have h2 := runN_pos (l := l.drop k) (by intro e; have := congrArg List.length e; simp at this; omega)
      simp at h1
      have := grps_len l g (k + runN (l.drop k)) (by omega)
      rw [List.length_cons]
      omega
    · simp; exact h
theorem allG_len (l : List Cl) : (allG l).length ≤ l.length := by
  unfold allG
  split
  · have := grps_len l (l.length + 1) 0 (Nat.zero_le _)
    omega
  · simp
theorem visP_len (l : List Cl) (seq : Nat) : ∀ pre, (visP l seq pre).length ≤ pre.length
  | [] => by simp [visP]
  | y :: pre => by
    have h1 := visP_len l seq pre
    have h2 : (pickV (cutL l y) seq).length ≤ 1 := by
      unfold pickV
      split
      · split <;> simp
      · simp
    show (pickV (cutL l y) seq ++ visP l seq pre).length ≤ _
    rw [List.length_append, List.length_cons]
    omega
set_option maxRecDepth 100000 in
set_option maxHeartbeats 4000000 in
theorem visible_any (a : Option Addr) (m cp seq : Nat) (l : List Cl) (w : World) (hca : CA w.heap.size w a l) (hl : l.length = m) (hm : m ≤ cp) (hmx : m * 48 ≤ 140737488355328) :
    Calls Try.prog 19 #[.slice a m cp, .int .u64 (seq : Nat)] w fun r w' => ∃ v, r = .returned v ∧ w'.ownsRow w.heap.size 24 4 v (visP l seq (allG l)).length (flC (visP l seq (allG l))) ∧ Below w.heap.size w w' := by
  obtain ⟨i0, hi, hz0, hz1, hz2⟩ := info_parts info24
  obtain ⟨ob, bl, off, hob, hal, HSQ⟩ := keys_seq a m cp l w hca hl hm (by omega)
  have HKA : Hid (∀ W : World, Calls Try.prog 28 #[.slice a m cp] W fun r w' => r = .returned (.func (.func 39) #[] #[.pointer (some ⟨W.heap.size, 0, none⟩)]) ∧ w' = W.alloc (.cells #[.slice a m cp] 25)) := fun W => keys_any a m cp W
  refine callsIn_wide.1 (callsIn_of_wp_marks (F := Fence.wide) (n := 8) Try.func19 rfl trivial ?_ rfl)
  refine wpIn_wide.2 ?_
  simp only [Try.ntmps19, List.size_toArray, List.length_cons, List.length_nil, Nat.reduceAdd, Nat.reduceSub, Array.replicate_succ, Array.replicate_zero, List.push_toArray, List.append_toArray, List.nil_append, List.cons_append]
  go_wp2_with fail
  refine Calls.mono (HKA.out _) ?_
  rintro e w1 ⟨rfl, rfl⟩
  go_wp2_with fail
  obtain ⟨s, hs⟩ : ∃ s, w.heap.size = s := ⟨_, rfl⟩
  have B0 : Below s w (((w.alloc (.cells #[.int .u64 (seq : Nat)] 22)).alloc (.cells #[.slice none 0 0] 25)).alloc (.cells #[.slice a m cp] 25)) := by
    rw [← hs]
    exact (((Below.refl _ w).alloc (Nat.le_refl _) _).alloc (by simp) _).alloc (by simp; omega) _
  have q0 : (((w.alloc (.cells #[.int .u64 (seq : Nat)] 22)).alloc (.cells #[.slice none 0 0] 25)).alloc (.cells #[.slice a m cp] 25)).heap[s]? = some (.cells #[.int .u64 (seq : Nat)] 22 (0, 0)) := by
    rw [← hs, Below.heap_alloc _ _ _ (by simp; omega), Below.heap_alloc _ _ _ (by simp)]
    exact World.alloc_heap_new _ _
  have q1 : (((w.alloc (.cells #[.int .u64 (seq : Nat)] 22)).alloc (.cells #[.slice none 0 0] 25)).alloc (.cells #[.slice a m cp] 25)).heap[s + 1]? = some (.cells #[.slice none 0 0] 25 (0, 0)) := by
    rw [Below.heap_alloc _ _ _ (by simp; omega)]
    have := World.alloc_heap_new (w.alloc (.cells #[.int .u64 (seq : Nat)] 22)) (.cells #[.slice none 0 0] 25)
    rw [World.size_alloc, hs] at this
    exact this
  have q2 : (((w.alloc (.cells #[.int .u64 (seq : Nat)] 22)).alloc (.cells #[.slice none 0 0] 25)).alloc (.cells #[.slice a m cp] 25)).heap[s + 2]? = some (.cells #[.slice a m cp] 25 (0, 0)) := by
    have := World.alloc_heap_new ((w.alloc (.cells #[.int .u64 (seq : Nat)] 22)).alloc (.cells #[.slice none 0 0] 25)) (.cells #[.slice a m cp] 25)
    rw [World.size_alloc, World.size_alloc, hs] at this
    exact this
  have hsz : (((w.alloc (.cells #[.int .u64 (seq : Nat)] 22)).alloc (.cells #[.slice none 0 0] 25)).alloc (.cells #[.slice a m cp] 25)).heap.size = s + 3 := by simp; omega
  rw [hs] at HSQ hob ⊢
  generalize (((w.alloc (.cells #[.int .u64 (seq : Nat)] 22)).alloc (.cells #[.slice none 0 0] 25)).alloc (.cells #[.slice a m cp] 25)) = W0 at *
  have HS3 : ∀ o, SeqK Fence.wide (8 - 1) Try.prog 39 #[] #[.pointer (some ⟨s + 1 + 1, 0, none⟩)] (encG bl off) (RkC (s + 3) ob) (KcC ob) (fun pre y => ∃ rest, pre ++ y :: rest = allG l) (fun xs => xs = allG l) (fun pre => ∃ rest, pre ++ rest = allG l) ((W0.alloc (.deferred (some []))).alloc o) := fun o => by
    have bz : Below W0.heap.size W0 ((W0.alloc (.deferred (some []))).alloc o) := ((Below.refl _ W0).alloc (Nat.le_refl _) _).alloc (by simp) _
    refine HSQ (s + 3) _ (s + 2) _ (by omega) (by simp; omega) (B0.trans (bz.mono (by omega))) ?_
    have := (bz.block (s + 2) (by omega)).trans q2
    exact Boxed.cell (t := 25) this
  have HI0 : ColI w s (s + 1) (visP l seq []) W0 ∧ Boxed W0 s 22 (.int .u64 (seq : Nat)) := ⟨⟨⟨.slice none 0 0, q1, World.ownsRow_nil _ _ _ _⟩, B0⟩, q0⟩
  clear q0 q1 q2 HSQ
  refine (wpIn_wide (n := 8)).1 ?_
  refine wpIn_rangeFunc_keeps rfl (by omega) (gf := 39) (pa := #[]) (lb := #[.pointer (some ⟨s + 1 + 1, 0, none⟩)]) rfl trivial (enters_of Try.func39 (by kernel_rfl) rfl) (fun A B h => h.others) (fun A B C h k => h.trans k) KcC.put HS3 (fun _ => rfl)
    (fun pre W => ColI w s (s + 1) (visP l seq pre) W ∧ Boxed W s 22 (.int .u64 (seq : Nat))) (fun _ _ _ => False)
    (fun pre A A' row h hg hr => ⟨col_own (L := visP l seq) (by omega) (by omega) pre A A' row h.1 hg hr, (own_block h.2 hg hr).trans h.2⟩) (fun _ _ _ _ _ h _ _ => h)
    (fun pre A B h k => ⟨col_rk (by omega) (by omega) (by omega) h.1 k, k.block s _ h.2 (Or.inl (by omega))⟩) (fun _ _ _ _ h _ => h) HI0 ?a1 ?assign ?body ?done ?stop
  case assign =>
    intro lp y W K hK
    simp only [encG]
    gi_wp2
    exact hK
  case body =>
    rintro lp pre y W ⟨hcol, hsq⟩ hpr
    obtain ⟨rest, hrest⟩ := hpr
    obtain ⟨hso, hyl, hy1, hfa, hcl⟩ := allG_mem (l := l) (y := y) (by rw [← hrest]; simp)
    have hne : l ≠ [] := by intro e; rw [e] at hyl; simp at hyl; omega
    have haa := hal hne
    subst haa
    have c3 : W.cell? ⟨s, 0, none⟩ = some (.int .u64 (seq : Nat)) := hsq.cell
    have hcW : CA W.heap.size W (some ⟨bl, off, none⟩) l := (CA.below hca (fun b hb => hcol.bel.block b (by omega))).up hcol.bel.size
    have hcut := hcW.cut y
    have HNW : Hid (Calls Try.prog 29 #[.slice (some ⟨bl, off + y.1 * 4, none⟩) y.2 y.2, .int .u64 (seq : Nat)] W fun r w' => r = .returned (.int .i64 (newN (cutL l y) seq : Nat)) ∧ Below W.heap.size W w') := newest_any bl (off + y.1 * 4) y.2 y.2 seq (cutL l y) W hcut hcl hfa (by omega)
    obtain ⟨nw, hnw⟩ : ∃ nw, newN (cutL l y) seq = nw := ⟨_, rfl⟩
    rw [hnw] at HNW
    have HCUT : Hid (CA W.heap.size W (some ⟨bl, off + y.1 * 4, none⟩) (cutL l y)) := hcut
    have HCOL : Hid (ColI w s (s + 1) (visP l seq pre) W) := hcol
    have HSQ : Hid (Boxed W s 22 (.int .u64 (seq : Nat))) := hsq
    have HCL : Hid ((cutL l y).length = y.2) := hcl
    obtain ⟨y1, y2⟩ := y
    simp only at HNW HCUT hy1 hyl HCL
    obtain ⟨oo, hoo⟩ : ∃ oo, off + y1 * 4 = oo := ⟨_, rfl⟩
    rw [hoo] at HNW HCUT
    have HOO : Hid (off + y1 * 4 = oo) := hoo
    obtain ⟨vs, hvs⟩ : ∃ vs, cutL l (y1, y2) = vs := ⟨_, rfl⟩
    rw [hvs] at HCUT hnw HCL
    have HVS : Hid (cutL l (y1, y2) = vs ∧ newN vs seq = nw) := ⟨hvs, hnw⟩
    have HLE : Hid ((visP l seq pre).length + 1 ≤ m) := by
      have h1 := visP_len l seq pre
      have h2 := allG_len l
      rw [← hrest, List.length_append, List.length_cons] at h2
      show _ + 1 ≤ m
      omega
    clear hcut hcW hcol hsq hcl hfa hso hnw hvs HI0 HS3
    rw [hoo]
    clear hoo
    gi_wp2
    refine ⟨trivial, (CallsIn.inRound lp (callsIn_wide.2 HNW.out)).mono ?_⟩
    rintro e w2 ⟨rfl, b2⟩
    have HB2 : Hid (Below W.heap.size W w2) := b2
    have HE : Hid (pickV (cutL l (y1, y2)) seq = [] → KeepsOthers W w2 ∧ KcC ob W w2 ∧ ColI w s (s + 1) (visP l seq (pre ++ [(y1, y2)])) w2 ∧ Boxed w2 s 22 (.int .u64 (seq : Nat))) := fun e => by
      refine ⟨others_below b2, KcC.of_below b2, ?_, (b2.block s HSQ.out.lt).trans HSQ.out⟩
      rw [visP_snoc, e, List.append_nil]
      exact col_below (by omega) HCOL.out b2
    clear b2
    by_cases hnv : nw < y2
    · obtain ⟨c, hc⟩ : ∃ c, vs[nw]? = some c := ⟨vs[nw]'(by rw [HCL.out]; exact hnv), List.getElem?_eq_getElem _⟩
      have hc2 : CA w2.heap.size w2 (some ⟨bl, oo, none⟩) vs := (CA.below HCUT.out (fun b hb => HB2.out.block b hb)).up HB2.out.size
      obtain ⟨b', off', e, _, k0, k1, k2, k3⟩ := hc2 nw c hc
      cases e
      have HPK : Hid (pickV (cutL l (y1, y2)) seq = if c.gone then [] else [c]) := by
        unfold pickV
        rw [HVS.out.1, HVS.out.2, hc]
        exact rfl
      obtain ⟨ck, cs, cv, cg⟩ := c
      simp only at k0 k1 k2 k3
      clear hc hc2
      cases cg with
      | true =>
        have HEE : Hid _ := HE.out (by rw [HPK.out]; rfl)
        gi_wp2
        exact HEE.out
      | false =>
        obtain ⟨v, hv, hrow⟩ := (col_below (by omega) HCOL.out HB2.out).col
        obtain ⟨va, vc, rfl⟩ : ∃ va vc, v = .slice va (visP l seq pre).length vc := row_form4 hrow
        obtain ⟨nL, hnL⟩ : ∃ nL, (visP l seq pre).length = nL := ⟨_, rfl⟩
        rw [hnL] at hv hrow
        have c5 : w2.cell? ⟨s + 1, 0, none⟩ = some (.slice va nL vc) := hv.cell
        gi_wp2
        obtain ⟨V, hV⟩ : ∃ V, w2.drew = V := ⟨_, rfl⟩
        have kV : Below w2.heap.size w2 V := by rw [← hV]; exact (Below.refl _ _).drew
        have d0 : V.cell? ⟨bl, oo + nw * 4, none⟩ = some (.string ck) := by rw [← hV]; exact k0
        have d1 : V.cell? ⟨bl, oo + nw * 4 + 1, none⟩ = some (.int .u64 (cs : Nat)) := by rw [← hV]; exact k1
        have d2 : V.cell? ⟨bl, oo + nw * 4 + 2, none⟩ = some (.string cv) := by rw [← hV]; exact k2
        have d3 : V.cell? ⟨bl, oo + nw * 4 + 3, none⟩ = some (.bool false) := by rw [← hV]; exact k3
        have d5 : V.cell? ⟨s + 1, 0, none⟩ = some (.slice va nL vc) := by rw [← hV]; exact c5
        refine wpIn_region_any (by kernel_rfl) ?_
        rw [show ({ w2 with drawn := w2.drawn + 1 } : World) = V from hV]
        clear k0 k1 k2 k3 c5
        have HRX : Hid (∀ o, (V.alloc o).ownsRow s 24 4 (.slice va nL vc) nL (flC (visP l seq pre))) := fun o => World.ownsRow.alloc (owns_same hrow (fun g e => kV.block g (hrow.lt g e).2)) o
        have HNC : Hid (∀ j u, [Value.string ck, .int .u64 (cs : Nat), .string cv, .bool false][j]? = some u → (V.alloc (.cells #[.string ck, .int .u64 (cs : Nat), .string cv, .bool false] 24)).cell? ((⟨V.heap.size, 0, none⟩ : Addr).add j) = some u) := fun j u hj => by
          rw [addr_add, cells_of_block (World.alloc_heap_new V _), Nat.zero_add]
          simpa using hj
        have HST : Hid (∀ w3 v2, w3.ownsRow s 24 4 v2 (nL + 1) (flC (visP l seq pre) ++ [Value.string ck, .int .u64 (cs : Nat), .string cv, .bool false]) → (V.alloc (.cells #[.string ck, .int .u64 (cs : Nat), .string cv, .bool false] 24)).grownBy w3 (Value.slice va nL vc).ownBlock → ∃ a2 c2, v2 = .slice a2 (nL + 1) c2 ∧ w3.cell? ⟨s + 1, 0, none⟩ = some (.slice va nL vc) ∧ w3.frozen? ⟨s + 1, 0, none⟩ = false ∧ Hid (KeepsOthers W (w3.setCell ⟨s + 1, 0, none⟩ v2) ∧ KcC ob W (w3.setCell ⟨s + 1, 0, none⟩ v2) ∧ ColI w s (s + 1) (visP l seq (pre ++ [(y1, y2)])) (w3.setCell ⟨s + 1, 0, none⟩ v2) ∧ Boxed (w3.setCell ⟨s + 1, 0, none⟩ v2) s 22 (.int .u64 (seq : Nat)))) := fun w3 v2 q1 q2 => by
          obtain ⟨v0, hv0, hr0⟩ := HCOL.out.col
          have e0 : v0 = .slice va nL vc := by
            have := (HB2.out.block (s + 1) hv0.lt).trans hv0
            have := (Boxed.cell this).symm.trans hv.cell
            simpa using this
          subst e0
          rw [hnL] at hr0
          obtain ⟨a2, c2, r1, r2, r3, r4⟩ := col_step (cs := [⟨ck, cs, cv, false⟩]) (m := 1) (by omega) hob (by omega) hnL rfl (HB2.out.trans (kV.mono HB2.out.size)) hv0 hr0 HCOL.out.bel ((Below.refl _ V).alloc (Nat.le_refl _) _) q1 q2
          refine ⟨a2, c2, r1, r2, r3, r4.out.1, r4.out.2.1, ?_, r4.out.2.2.2 s _ _ HSQ.out (by omega) (by decide)⟩
          rw [visP_snoc, HPK.out]
          exact r4.out.2.2.1
        have d6 : (V.alloc (.cells #[.string ck, .int .u64 (cs : Nat), .string cv, .bool false] 24)).cell? ⟨s + 1, 0, none⟩ = some (.slice va nL vc) := ((Below.refl _ V).alloc (Nat.le_refl _) _).cell (p := ⟨s + 1, 0, none⟩) (World.block_lt_of_cell? V _ d5) |>.trans d5
        have hsV : s ≤ V.heap.size := by have := HCOL.out.bel.size; have := HB2.out.size; have := kV.size; omega
        have hnLl : nL + 1 ≤ m := by rw [← hnL]; exact HLE.out
        refine wpAnyIn_ready (rs := [0, 1, 2]) (by kernel_rfl) (by simp) ?_
        refine AllReadyIn.cons rfl (fun K hK => ?_) ?_
        ·
          go_simp
          refine hK _ _ ?_
          clear hK K
          refine wpAnyIn_ready (rs := [1, 2]) (by kernel_rfl) (by simp) ?_
          refine AllReadyIn.cons rfl (fun K hK => ?_) ?_
          ·
            go_simp
            refine hK _ _ ?_
            clear hK K
            refine wpAnyIn_ready (rs := [2]) (by kernel_rfl) (by simp) ?_
            refine AllReadyIn.cons rfl (fun K hK => ?_) AllReadyIn.nil
            go_simp
            refine hK _ _ ?_
            clear hK K
            refine wpAnyIn_ready (rs := [3]) (by kernel_rfl) (by simp) ?_
            refine AllReadyIn.cons rfl (fun K hK => ?_) AllReadyIn.nil
            go_simp
            refine hK _ _ ?_
            clear hK K
            refine wpAnyIn_ready (rs := [4]) (by kernel_rfl) (by simp) ?_
            refine AllReadyIn.cons rfl (fun K hK => ?_) AllReadyIn.nil
            go_simp
            refine hK _ _ ?_
            clear hK K
            refine wpAnyIn_ready (rs := [5]) (by kernel_rfl) (by simp) ?_
            refine AllReadyIn.cons rfl (fun K hK => ?_) AllReadyIn.nil
            go_simp
            refine hK _ _ ?_
            clear hK K
            refine wpAnyIn_ready (rs := [6]) (by kernel_rfl) (by simp) ?_
            refine AllReadyIn.cons rfl (fun K hK => ?_) AllReadyIn.nil
            refine stepIn_append_own rfl (.tmp 26) (.tmp 31) 25 rfl s 24 i0 (.agg #[.string ByteArray.empty, .int .u64 0, .string ByteArray.empty, .bool false]) 4 48 Try.underlying25 hi hz0 hz1 hz2 rfl (by decide) (.slice va nL vc) nL (flC (visP l seq pre)) rfl (HRX.out _) ⟨V.heap.size, 0, none⟩ 1 1 [.string ck, .int .u64 (cs : Nat), .string cv, .bool false] rfl rfl (HNC.out) (clL_one ⟨ck, cs, cv, false⟩) (by unfold maxLen; omega) (by omega) (by simp; omega) ?_
            intro v2 w3 hown2 hg2
            obtain ⟨a2, c2, rfl, z5, f5, HF⟩ := HST.out w3 v2 hown2 hg2
            clear hown2 hg2
            refine hK _ _ ?_
            clear hK K
            refine wpAnyIn_ready (rs := [7]) (by kernel_rfl) (by simp) ?_
            refine AllReadyIn.cons rfl (fun K hK => ?_) AllReadyIn.nil
            go_simp
            refine hK _ _ ?_
            clear hK K
            refine wpAnyIn_done (by kernel_rfl) ?_ _
            exact HF.out
          refine AllReadyIn.cons rfl (fun K hK => ?_) AllReadyIn.nil
          go_simp
          refine hK _ _ ?_
          clear hK K
          refine wpAnyIn_ready (rs := [1]) (by kernel_rfl) (by simp) ?_
          refine AllReadyIn.cons rfl (fun K hK => ?_) AllReadyIn.nil
          go_simp
          refine hK _ _ ?_
          clear hK K
          refine wpAnyIn_ready (rs := [3]) (by kernel_rfl) (by simp) ?_
          refine AllReadyIn.cons rfl (fun K hK => ?_) AllReadyIn.nil
          go_simp
          refine hK _ _ ?_
          clear hK K
          refine wpAnyIn_ready (rs := [4]) (by kernel_rfl) (by simp) ?_
          refine AllReadyIn.cons rfl (fun K hK => ?_) AllReadyIn.nil
          go_simp
          refine hK _ _ ?_
          clear hK K
          refine wpAnyIn_ready (rs := [5]) (by kernel_rfl) (by simp) ?_
          refine AllReadyIn.cons rfl (fun K hK => ?_) AllReadyIn.nil
          go_simp
          refine hK _ _ ?_
          clear hK K
          refine wpAnyIn_ready (rs := [6]) (by kernel_rfl) (by simp) ?_
          refine AllReadyIn.cons rfl (fun K hK => ?_) AllReadyIn.nil
          refine stepIn_append_own rfl (.tmp 26) (.tmp 31) 25 rfl s 24 i0 (.agg #[.string ByteArray.empty, .int .u64 0, .string ByteArray.empty, .bool false]) 4 48 Try.underlying25 hi hz0 hz1 hz2 rfl (by decide) (.slice va nL vc) nL (flC (visP l seq pre)) rfl (HRX.out _) ⟨V.heap.size, 0, none⟩ 1 1 [.string ck, .int .u64 (cs : Nat), .string cv, .bool false] rfl rfl (HNC.out) (clL_one ⟨ck, cs, cv, false⟩) (by unfold maxLen; omega) (by omega) (by simp; omega) ?_
          intro v2 w3 hown2 hg2
          obtain ⟨a2, c2, rfl, z5, f5, HF⟩ := HST.out w3 v2 hown2 hg2
          clear hown2 hg2
          refine hK _ _ ?_
          clear hK K
          refine wpAnyIn_ready (rs := [7]) (by kernel_rfl) (by simp) ?_
          refine AllReadyIn.cons rfl (fun K hK => ?_) AllReadyIn.nil
          go_simp
          refine hK _ _ ?_
          clear hK K
          refine wpAnyIn_done (by kernel_rfl) ?_ _
          exact HF.out
        refine AllReadyIn.cons rfl (fun K hK => ?_) ?_
        ·
          go_simp
          refine hK _ _ ?_
          clear hK K
          refine wpAnyIn_ready (rs := [0, 2]) (by kernel_rfl) (by simp) ?_
          refine AllReadyIn.cons rfl (fun K hK => ?_) ?_
          ·
            go_simp
            refine hK _ _ ?_
            clear hK K
            refine wpAnyIn_ready (rs := [2]) (by kernel_rfl) (by simp) ?_
            refine AllReadyIn.cons rfl (fun K hK => ?_) AllReadyIn.nil
            go_simp
            refine hK _ _ ?_
            clear hK K
            refine wpAnyIn_ready (rs := [3]) (by kernel_rfl) (by simp) ?_
            refine AllReadyIn.cons rfl (fun K hK => ?_) AllReadyIn.nil
            go_simp
            refine hK _ _ ?_
            clear hK K
            refine wpAnyIn_ready (rs := [4]) (by kernel_rfl) (by simp) ?_
            refine AllReadyIn.cons rfl (fun K hK => ?_) AllReadyIn.nil
            go_simp
            refine hK _ _ ?_
            clear hK K
            refine wpAnyIn_ready (rs := [5]) (by kernel_rfl) (by simp) ?_
            refine AllReadyIn.cons rfl (fun K hK => ?_) AllReadyIn.nil
            go_simp
            refine hK _ _ ?_
            clear hK K
            refine wpAnyIn_ready (rs := [6]) (by kernel_rfl) (by simp) ?_
            refine AllReadyIn.cons rfl (fun K hK => ?_) AllReadyIn.nil
            refine stepIn_append_own rfl (.tmp 26) (.tmp 31) 25 rfl s 24 i0 (.agg #[.string ByteArray.empty, .int .u64 0, .string ByteArray.empty, .bool false]) 4 48 Try.underlying25 hi hz0 hz1 hz2 rfl (by decide) (.slice va nL vc) nL (flC (visP l seq pre)) rfl (HRX.out _) ⟨V.heap.size, 0, none⟩ 1 1 [.string ck, .int .u64 (cs : Nat), .string cv, .bool false] rfl rfl (HNC.out) (clL_one ⟨ck, cs, cv, false⟩) (by unfold maxLen; omega) (by omega) (by simp; omega) ?_
            intro v2 w3 hown2 hg2
            obtain ⟨a2, c2, rfl, z5, f5, HF⟩ := HST.out w3 v2 hown2 hg2
            clear hown2 hg2
            refine hK _ _ ?_
            clear hK K
            refine wpAnyIn_ready (rs := [7]) (by kernel_rfl) (by simp) ?_
            refine AllReadyIn.cons rfl (fun K hK => ?_) AllReadyIn.nil
            go_simp
            refine hK _ _ ?_
            clear hK K
            refine wpAnyIn_done (by kernel_rfl) ?_ _
            exact HF.out
          refine AllReadyIn.cons rfl (fun K hK => ?_) AllReadyIn.nil
          go_simp
          refine hK _ _ ?_
          clear hK K
          refine wpAnyIn_ready (rs := [0, 3]) (by kernel_rfl) (by simp) ?_
          refine AllReadyIn.cons rfl (fun K hK => ?_) ?_
          ·
            go_simp
            refine hK _ _ ?_
            clear hK K
            refine wpAnyIn_ready (rs := [3]) (by kernel_rfl) (by simp) ?_
            refine AllReadyIn.cons rfl (fun K hK => ?_) AllReadyIn.nil
            go_simp
            refine hK _ _ ?_
            clear hK K
            refine wpAnyIn_ready (rs := [4]) (by kernel_rfl) (by simp) ?_
            refine AllReadyIn.cons rfl (fun K hK => ?_) AllReadyIn.nil
            go_simp
            refine hK _ _ ?_
            clear hK K
            refine wpAnyIn_ready (rs := [5]) (by kernel_rfl) (by simp) ?_
            refine AllReadyIn.cons rfl (fun K hK => ?_) AllReadyIn.nil
            go_simp
            refine hK _ _ ?_
            clear hK K
            refine wpAnyIn_ready (rs := [6]) (by kernel_rfl) (by simp) ?_
            refine AllReadyIn.cons rfl (fun K hK => ?_) AllReadyIn.nil
            refine stepIn_append_own rfl (.tmp 26) (.tmp 31) 25 rfl s 24 i0 (.agg #[.string ByteArray.empty, .int .u64 0, .string ByteArray.empty, .bool false]) 4 48 Try.underlying25 hi hz0 hz1 hz2 rfl (by decide) (.slice va nL vc) nL (flC (visP l seq pre)) rfl (HRX.out _) ⟨V.heap.size, 0, none⟩ 1 1 [.string ck, .int .u64 (cs : Nat), .string cv, .bool false] rfl rfl (HNC.out) (clL_one ⟨ck, cs, cv, false⟩) (by unfold maxLen; omega) (by omega) (by simp; omega) ?_
            intro v2 w3 hown2 hg2
            obtain ⟨a2, c2, rfl, z5, f5, HF⟩ := HST.out w3 v2 hown2 hg2
            clear hown2 hg2
            refine hK _ _ ?_
            clear hK K
            refine wpAnyIn_ready (rs := [7]) (by kernel_rfl) (by simp) ?_
            refine AllReadyIn.cons rfl (fun K hK => ?_) AllReadyIn.nil
            go_simp
            refine hK _ _ ?_
            clear hK K
            refine wpAnyIn_done (by kernel_rfl) ?_ _
            exact HF.out
          refine AllReadyIn.cons rfl (fun K hK => ?_) AllReadyIn.nil
          go_simp
          refine hK _ _ ?_
          clear hK K
          refine wpAnyIn_ready (rs := [0, 4]) (by kernel_rfl) (by simp) ?_
          refine AllReadyIn.cons rfl (fun K hK => ?_) ?_
          ·
            go_simp
            refine hK _ _ ?_
            clear hK K
            refine wpAnyIn_ready (rs := [4]) (by kernel_rfl) (by simp) ?_
            refine AllReadyIn.cons rfl (fun K hK => ?_) AllReadyIn.nil
            go_simp
            refine hK _ _ ?_
            clear hK K
            refine wpAnyIn_ready (rs := [5]) (by kernel_rfl) (by simp) ?_
            refine AllReadyIn.cons rfl (fun K hK => ?_) AllReadyIn.nil
            go_simp
            refine hK _ _ ?_
            clear hK K
            refine wpAnyIn_ready (rs := [6]) (by kernel_rfl) (by simp) ?_
            refine AllReadyIn.cons rfl (fun K hK => ?_) AllReadyIn.nil
            refine stepIn_append_own rfl (.tmp 26) (.tmp 31) 25 rfl s 24 i0 (.agg #[.string ByteArray.empty, .int .u64 0, .string ByteArray.empty, .bool false]) 4 48 Try.underlying25 hi hz0 hz1 hz2 rfl (by decide) (.slice va nL vc) nL (flC (visP l seq pre)) rfl (HRX.out _) ⟨V.heap.size, 0, none⟩ 1 1 [.string ck, .int .u64 (cs : Nat), .string cv, .bool false] rfl rfl (HNC.out) (clL_one ⟨ck, cs, cv, false⟩) (by unfold maxLen; omega) (by omega) (by simp; omega) ?_
            intro v2 w3 hown2 hg2
            obtain ⟨a2, c2, rfl, z5, f5, HF⟩ := HST.out w3 v2 hown2 hg2
            clear hown2 hg2
            refine hK _ _ ?_
            clear hK K
            refine wpAnyIn_ready (rs := [7]) (by kernel_rfl) (by simp) ?_
            refine AllReadyIn.cons rfl (fun K hK => ?_) AllReadyIn.nil
            go_simp
            refine hK _ _ ?_
            clear hK K
            refine wpAnyIn_done (by kernel_rfl) ?_ _
            exact HF.out
          refine AllReadyIn.cons rfl (fun K hK => ?_) AllReadyIn.nil
          go_simp
          refine hK _ _ ?_
          clear hK K
          refine wpAnyIn_ready (rs := [0, 5]) (by kernel_rfl) (by simp) ?_
          refine AllReadyIn.cons rfl (fun K hK => ?_) ?_
          ·
            go_simp
            refine hK _ _ ?_
            clear hK K
            refine wpAnyIn_ready (rs := [5]) (by kernel_rfl) (by simp) ?_
            refine AllReadyIn.cons rfl (fun K hK => ?_) AllReadyIn.nil
            go_simp
            refine hK _ _ ?_
            clear hK K
            refine wpAnyIn_ready (rs := [6]) (by kernel_rfl) (by simp) ?_
            refine AllReadyIn.cons rfl (fun K hK => ?_) AllReadyIn.nil
            refine stepIn_append_own rfl (.tmp 26) (.tmp 31) 25 rfl s 24 i0 (.agg #[.string ByteArray.empty, .int .u64 0, .string ByteArray.empty, .bool false]) 4 48 Try.underlying25 hi hz0 hz1 hz2 rfl (by decide) (.slice va nL vc) nL (flC (visP l seq pre)) rfl (HRX.out _) ⟨V.heap.size, 0, none⟩ 1 1 [.string ck, .int .u64 (cs : Nat), .string cv, .bool false] rfl rfl (HNC.out) (clL_one ⟨ck, cs, cv, false⟩) (by unfold maxLen; omega) (by omega) (by simp; omega) ?_
            intro v2 w3 hown2 hg2
            obtain ⟨a2, c2, rfl, z5, f5, HF⟩ := HST.out w3 v2 hown2 hg2
            clear hown2 hg2
            refine hK _ _ ?_
            clear hK K
            refine wpAnyIn_ready (rs := [7]) (by kernel_rfl) (by simp) ?_
            refine AllReadyIn.cons rfl (fun K hK => ?_) AllReadyIn.nil
            go_simp
            refine hK _ _ ?_
            clear hK K
            refine wpAnyIn_done (by kernel_rfl) ?_ _
            exact HF.out
          refine AllReadyIn.cons rfl (fun K hK => ?_) AllReadyIn.nil
          go_simp
          refine hK _ _ ?_
          clear hK K
          refine wpAnyIn_ready (rs := [0]) (by kernel_rfl) (by simp) ?_
          refine AllReadyIn.cons rfl (fun K hK => ?_) AllReadyIn.nil
          go_simp
          refine hK _ _ ?_
          clear hK K
          refine wpAnyIn_ready (rs := [6]) (by kernel_rfl) (by simp) ?_
          refine AllReadyIn.cons rfl (fun K hK => ?_) AllReadyIn.nil
          refine stepIn_append_own rfl (.tmp 26) (.tmp 31) 25 rfl s 24 i0 (.agg #[.string ByteArray.empty, .int .u64 0, .string ByteArray.empty, .bool false]) 4 48 Try.underlying25 hi hz0 hz1 hz2 rfl (by decide) (.slice va nL vc) nL (flC (visP l seq pre)) rfl (HRX.out _) ⟨V.heap.size, 0, none⟩ 1 1 [.string ck, .int .u64 (cs : Nat), .string cv, .bool false] rfl rfl (HNC.out) (clL_one ⟨ck, cs, cv, false⟩) (by unfold maxLen; omega) (by omega) (by simp; omega) ?_
          intro v2 w3 hown2 hg2
          obtain ⟨a2, c2, rfl, z5, f5, HF⟩ := HST.out w3 v2 hown2 hg2
          clear hown2 hg2
          refine hK _ _ ?_
          clear hK K
          refine wpAnyIn_ready (rs := [7]) (by kernel_rfl) (by simp) ?_
          refine AllReadyIn.cons rfl (fun K hK => ?_) AllReadyIn.nil
          go_simp
          refine hK _ _ ?_
          clear hK K
          refine wpAnyIn_done (by kernel_rfl) ?_ _
          exact HF.out
        refine AllReadyIn.cons rfl (fun K hK => ?_) AllReadyIn.nil
        go_simp
        refine hK _ _ ?_
        clear hK K
        refine wpAnyIn_ready (rs := [0, 1]) (by kernel_rfl) (by simp) ?_
        refine AllReadyIn.cons rfl (fun K hK => ?_) ?_
        ·
          go_simp
          refine hK _ _ ?_
          clear hK K
          refine wpAnyIn_ready (rs := [1]) (by kernel_rfl) (by simp) ?_
          refine AllReadyIn.cons rfl (fun K hK => ?_) AllReadyIn.nil
          go_simp
          refine hK _ _ ?_
          clear hK K
          refine wpAnyIn_ready (rs := [3]) (by kernel_rfl) (by simp) ?_
          refine AllReadyIn.cons rfl (fun K hK => ?_) AllReadyIn.nil
          go_simp
          refine hK _ _ ?_
          clear hK K
          refine wpAnyIn_ready (rs := [4]) (by kernel_rfl) (by simp) ?_
          refine AllReadyIn.cons rfl (fun K hK => ?_) AllReadyIn.nil
          go_simp
          refine hK _ _ ?_
          clear hK K
          refine wpAnyIn_ready (rs := [5]) (by kernel_rfl) (by simp) ?_
          refine AllReadyIn.cons rfl (fun K hK => ?_) AllReadyIn.nil
          go_simp
          refine hK _ _ ?_
          clear hK K
          refine wpAnyIn_ready (rs := [6]) (by kernel_rfl) (by simp) ?_
          refine AllReadyIn.cons rfl (fun K hK => ?_) AllReadyIn.nil
          refine stepIn_append_own rfl (.tmp 26) (.tmp 31) 25 rfl s 24 i0 (.agg #[.string ByteArray.empty, .int .u64 0, .string ByteArray.empty, .bool false]) 4 48 Try.underlying25 hi hz0 hz1 hz2 rfl (by decide) (.slice va nL vc) nL (flC (visP l seq pre)) rfl (HRX.out _) ⟨V.heap.size, 0, none⟩ 1 1 [.string ck, .int .u64 (cs : Nat), .string cv, .bool false] rfl rfl (HNC.out) (clL_one ⟨ck, cs, cv, false⟩) (by unfold maxLen; omega) (by omega) (by simp; omega) ?_
          intro v2 w3 hown2 hg2
          obtain ⟨a2, c2, rfl, z5, f5, HF⟩ := HST.out w3 v2 hown2 hg2
          clear hown2 hg2
          refine hK _ _ ?_
          clear hK K
          refine wpAnyIn_ready (rs := [7]) (by kernel_rfl) (by simp) ?_
          refine AllReadyIn.cons rfl (fun K hK => ?_) AllReadyIn.nil
          go_simp
          refine hK _ _ ?_
          clear hK K
          refine wpAnyIn_done (by kernel_rfl) ?_ _
          exact HF.out
        refine AllReadyIn.cons rfl (fun K hK => ?_) AllReadyIn.nil
        go_simp
        refine hK _ _ ?_
        clear hK K
        refine wpAnyIn_ready (rs := [0, 3]) (by kernel_rfl) (by simp) ?_
        refine AllReadyIn.cons rfl (fun K hK => ?_) ?_
        ·
          go_simp
          refine hK _ _ ?_
          clear hK K
          refine wpAnyIn_ready (rs := [3]) (by kernel_rfl) (by simp) ?_
          refine AllReadyIn.cons rfl (fun K hK => ?_) AllReadyIn.nil
          go_simp
          refine hK _ _ ?_
          clear hK K
          refine wpAnyIn_ready (rs := [4]) (by kernel_rfl) (by simp) ?_
          refine AllReadyIn.cons rfl (fun K hK => ?_) AllReadyIn.nil
          go_simp
          refine hK _ _ ?_
          clear hK K
          refine wpAnyIn_ready (rs := [5]) (by kernel_rfl) (by simp) ?_
          refine AllReadyIn.cons rfl (fun K hK => ?_) AllReadyIn.nil
          go_simp
          refine hK _ _ ?_
          clear hK K
          refine wpAnyIn_ready (rs := [6]) (by kernel_rfl) (by simp) ?_
          refine AllReadyIn.cons rfl (fun K hK => ?_) AllReadyIn.nil
          refine stepIn_append_own rfl (.tmp 26) (.tmp 31) 25 rfl s 24 i0 (.agg #[.string ByteArray.empty, .int .u64 0, .string ByteArray.empty, .bool false]) 4 48 Try.underlying25 hi hz0 hz1 hz2 rfl (by decide) (.slice va nL vc) nL (flC (visP l seq pre)) rfl (HRX.out _) ⟨V.heap.size, 0, none⟩ 1 1 [.string ck, .int .u64 (cs : Nat), .string cv, .bool false] rfl rfl (HNC.out) (clL_one ⟨ck, cs, cv, false⟩) (by unfold maxLen; omega) (by omega) (by simp; omega) ?_
          intro v2 w3 hown2 hg2
          obtain ⟨a2, c2, rfl, z5, f5, HF⟩ := HST.out w3 v2 hown2 hg2
          clear hown2 hg2
          refine hK _ _ ?_
          clear hK K
          refine wpAnyIn_ready (rs := [7]) (by kernel_rfl) (by simp) ?_
          refine AllReadyIn.cons rfl (fun K hK => ?_) AllReadyIn.nil
          go_simp
          refine hK _ _ ?_
          clear hK K
          refine wpAnyIn_done (by kernel_rfl) ?_ _
          exact HF.out
        refine AllReadyIn.cons rfl (fun K hK => ?_) AllReadyIn.nil
        go_simp
        refine hK _ _ ?_
        clear hK K
        refine wpAnyIn_ready (rs := [0, 4]) (by kernel_rfl) (by simp) ?_
        refine AllReadyIn.cons rfl (fun K hK => ?_) ?_
        ·
          go_simp
          refine hK _ _ ?_
          clear hK K
          refine wpAnyIn_ready (rs := [4]) (by kernel_rfl) (by simp) ?_
          refine AllReadyIn.cons rfl (fun K hK => ?_) AllReadyIn.nil
          go_simp
          refine hK _ _ ?_
          clear hK K
          refine wpAnyIn_ready (rs := [5]) (by kernel_rfl) (by simp) ?_
          refine AllReadyIn.cons rfl (fun K hK => ?_) AllReadyIn.nil
          go_simp
          refine hK _ _ ?_
          clear hK K
          refine wpAnyIn_ready (rs := [6]) (by kernel_rfl) (by simp) ?_
          refine AllReadyIn.cons rfl (fun K hK => ?_) AllReadyIn.nil
          refine stepIn_append_own rfl (.tmp 26) (.tmp 31) 25 rfl s 24 i0 (.agg #[.string ByteArray.empty, .int .u64 0, .string ByteArray.empty, .bool false]) 4 48 Try.underlying25 hi hz0 hz1 hz2 rfl (by decide) (.slice va nL vc) nL (flC (visP l seq pre)) rfl (HRX.out _) ⟨V.heap.size, 0, none⟩ 1 1 [.string ck, .int .u64 (cs : Nat), .string cv, .bool false] rfl rfl (HNC.out) (clL_one ⟨ck, cs, cv, false⟩) (by unfold maxLen; omega) (by omega) (by simp; omega) ?_
          intro v2 w3 hown2 hg2
          obtain ⟨a2, c2, rfl, z5, f5, HF⟩ := HST.out w3 v2 hown2 hg2
          clear hown2 hg2
          refine hK _ _ ?_
          clear hK K
          refine wpAnyIn_ready (rs := [7]) (by kernel_rfl) (by simp) ?_
          refine AllReadyIn.cons rfl (fun K hK => ?_) AllReadyIn.nil
          go_simp
          refine hK _ _ ?_
          clear hK K
          refine wpAnyIn_done (by kernel_rfl) ?_ _
          exact HF.out
        refine AllReadyIn.cons rfl (fun K hK => ?_) AllReadyIn.nil
        go_simp
        refine hK _ _ ?_
        clear hK K
        refine wpAnyIn_ready (rs := [0, 5]) (by kernel_rfl) (by simp) ?_
        refine AllReadyIn.cons rfl (fun K hK => ?_) ?_
        ·
          go_simp
          refine hK _ _ ?_
          clear hK K
          refine wpAnyIn_ready (rs := [5]) (by kernel_rfl) (by simp) ?_
          refine AllReadyIn.cons rfl (fun K hK => ?_) AllReadyIn.nil
          go_simp
          refine hK _ _ ?_
          clear hK K
          refine wpAnyIn_ready (rs := [6]) (by kernel_rfl) (by simp) ?_
          refine AllReadyIn.cons rfl (fun K hK => ?_) AllReadyIn.nil
          refine stepIn_append_own rfl (.tmp 26) (.tmp 31) 25 rfl s 24 i0 (.agg #[.string ByteArray.empty, .int .u64 0, .string ByteArray.empty, .bool false]) 4 48 Try.underlying25 hi hz0 hz1 hz2 rfl (by decide) (.slice va nL vc) nL (flC (visP l seq pre)) rfl (HRX.out _) ⟨V.heap.size, 0, none⟩ 1 1 [.string ck, .int .u64 (cs : Nat), .string cv, .bool false] rfl rfl (HNC.out) (clL_one ⟨ck, cs, cv, false⟩) (by unfold maxLen; omega) (by omega) (by simp; omega) ?_
          intro v2 w3 hown2 hg2
          obtain ⟨a2, c2, rfl, z5, f5, HF⟩ := HST.out w3 v2 hown2 hg2
          clear hown2 hg2
          refine hK _ _ ?_
          clear hK K
          refine wpAnyIn_ready (rs := [7]) (by kernel_rfl) (by simp) ?_
          refine AllReadyIn.cons rfl (fun K hK => ?_) AllReadyIn.nil
          go_simp
          refine hK _ _ ?_
          clear hK K
          refine wpAnyIn_done (by kernel_rfl) ?_ _
          exact HF.out
        refine AllReadyIn.cons rfl (fun K hK => ?_) AllReadyIn.nil
        go_simp
        refine hK _ _ ?_
        clear hK K
        refine wpAnyIn_ready (rs := [0]) (by kernel_rfl) (by simp) ?_
        refine AllReadyIn.cons rfl (fun K hK => ?_) AllReadyIn.nil
        go_simp
        refine hK _ _ ?_
        clear hK K
        refine wpAnyIn_ready (rs := [6]) (by kernel_rfl) (by simp) ?_
        refine AllReadyIn.cons rfl (fun K hK => ?_) AllReadyIn.nil
        refine stepIn_append_own rfl (.tmp 26) (.tmp 31) 25 rfl s 24 i0 (.agg #[.string ByteArray.empty, .int .u64 0, .string ByteArray.empty, .bool false]) 4 48 Try.underlying25 hi hz0 hz1 hz2 rfl (by decide) (.slice va nL vc) nL (flC (visP l seq pre)) rfl (HRX.out _) ⟨V.heap.size, 0, none⟩ 1 1 [.string ck, .int .u64 (cs : Nat), .string cv, .bool false] rfl rfl (HNC.out) (clL_one ⟨ck, cs, cv, false⟩) (by unfold maxLen; omega) (by omega) (by simp; omega) ?_
        intro v2 w3 hown2 hg2
        obtain ⟨a2, c2, rfl, z5, f5, HF⟩ := HST.out w3 v2 hown2 hg2
        clear hown2 hg2
        refine hK _ _ ?_
        clear hK K
        refine wpAnyIn_ready (rs := [7]) (by kernel_rfl) (by simp) ?_
        refine AllReadyIn.cons rfl (fun K hK => ?_) AllReadyIn.nil
        go_simp
        refine hK _ _ ?_
        clear hK K
        refine wpAnyIn_done (by kernel_rfl) ?_ _
        exact HF.out
    · have HEE : Hid _ := HE.out (by
        unfold pickV
        rw [HVS.out.1, HVS.out.2, List.getElem?_eq_none (by rw [HCL.out]; omega)])
      have hd : decide ((nw : Int) < (y2 : Int)) = false := decide_eq_false (by omega)
      gi_wp2
      exact HEE.out
  case done =>
    rintro D xs W hD rfl ⟨hcol, hsq⟩ hK
    obtain ⟨v, hv, hrow⟩ := hcol.col
    obtain ⟨va, vc, rfl⟩ := row_form4 hrow
    have c5 : W.cell? ⟨s + 1, 0, none⟩ = some (.slice va (visP l seq (allG l)).length vc) := hv.cell
    have HRW : Hid (W.ownsRow s 24 4 (.slice va (visP l seq (allG l)).length vc) (visP l seq (allG l)).length (flC (visP l seq (allG l)))) := hrow
    have HBL : Hid (Below s w W) := hcol.bel
    have HK : Hid (W.heap[D]? = some (.deferred (some []))) := hK
    clear hv hrow hcol hsq hK HI0 HS3
    go_wp2_with fail
    refine ⟨by simp, .inl ⟨_, _, rfl, run_takeDeferred HK.out, ?_⟩⟩
    refine ⟨.slice va (visP l seq (allG l)).length vc, ?_, _, rfl, ?_, ?_⟩
    · simp [results, Try.f19, go_sem]
    · rw [hs]
      exact ownsRow_putObj HRW.out _ HK.out rfl
    · rw [hs]
      exact HBL.out.trans (belowK_b (w := W0) (by omega) W D _ _ hD HK.out rfl rfl)
  case stop => exact fun _ _ _ _ _ _ h => h.elim
end Go.Proofs.Ytohamjoiohfoiaa
