/-
  The contract of Cut.
-/
import Derived.Test.YtohamjoiohfoiaaCut2
import Derived.OwnWalkIn
namespace Go.Proofs.Ytohamjoiohfoiaa
open Go.RowKit Go.Shelf
attribute [local go_sem] Oper.semAt_some
theorem onLast_snoc (ini : List (List Cl)) (p k : List Cl) : onLast (ini ++ [p]) k = ini ++ [p ++ k] := by simp [onLast]
theorem cutNew_ne (most : Int) (st : List (List Cl) × Int) (k : List Cl) : ∃ ini p, (cutNew most st k).1 = ini ++ [p] ∧ (ini ++ [p]).flatten = st.1.flatten ∧ (ini ++ [p]).length ≤ st.1.length + 1 := by
  unfold cutNew
  split
  · exact ⟨st.1, [], rfl, by simp, by simp⟩
  · rename_i h
    rcases List.eq_nil_or_concat st.1 with e | ⟨ini, p, e⟩
    · exact absurd (Or.inl (by rw [e]; rfl)) h
    · exact ⟨ini, p, by rw [e, List.concat_eq_append], by rw [e, List.concat_eq_append], by rw [e, List.concat_eq_append]; simp⟩
theorem cutStep_flat (most : Int) (st : List (List Cl) × Int) (k : List Cl) : (cutStep most st k).1.flatten = st.1.flatten ++ k ∧ (cutStep most st k).1.length ≤ st.1.length + 1 := by
  obtain ⟨ini, p, e1, e2, e3⟩ := cutNew_ne most st k
  unfold cutStep
  rw [e1, onLast_snoc]
  refine ⟨by rw [← e2]; simp, by simpa using e3⟩
theorem cutP_flat (l : List Cl) (most : Int) (pre : List (Nat × Nat)) : (cutP l most pre).1.flatten = pre.flatMap (cutL l) ∧ (cutP l most pre).1.length ≤ pre.length := by
  suffices ∀ (r : List (Nat × Nat)), (cutP l most r.reverse).1.flatten = r.reverse.flatMap (cutL l) ∧ (cutP l most r.reverse).1.length ≤ r.length by
    have := this pre.reverse
    simpa using this
  intro r
  induction r with
  | nil => simp [cutP]
  | cons y r ih =>
    rw [List.reverse_cons, cutP_snoc]
    obtain ⟨h1, h2⟩ := cutStep_flat most (cutP l most r.reverse) (cutL l y)
    exact ⟨by rw [h1, ih.1]; simp, by rw [List.length_cons]; omega⟩
theorem cut_le (l : List Cl) : ∀ pre : List (Nat × Nat), (pre.flatMap (cutL l)).length ≤ sumL pre
  | [] => by simp
  | y :: pre => by
    have := cut_le l pre
    have h2 : (cutL l y).length ≤ y.2 := by simp [cutL]; omega
    simp only [List.flatMap_cons, List.length_append, sumL, List.map_cons, List.sum_cons] at this ⊢
    omega
/-- Room for one more key's versions. -/
theorem cut_room {l : List Cl} {most : Int} {pre rest : List (Nat × Nat)} {y : Nat × Nat} (h : pre ++ y :: rest = allG l) {ini : List (List Cl)} {p : List Cl} (e : (cutNew most (cutP l most pre) (cutL l y)).1 = ini ++ [p]) : p.length + y.2 ≤ l.length ∧ ini.length + 1 ≤ l.length + 1 ∧ (cutP l most pre).1.length + 1 ≤ l.length := by
  obtain ⟨ini', p', e1, e2, e3⟩ := cutNew_ne most (cutP l most pre) (cutL l y)
  rw [e] at e1
  obtain ⟨f1, f2⟩ := cutP_flat l most pre
  have h1 := cut_le l pre
  have h2 := allG_sum l
  have h3 := allG_len l
  rw [← h] at h2 h3
  simp only [sumL, List.map_append, List.map_cons, List.sum_append, List.sum_cons] at h1 h2
  rw [← e1, f1] at e2
  have e4 := congrArg List.length e2
  simp only [List.flatten_append, List.flatten_cons, List.flatten_nil, List.append_nil, List.length_append] at e4
  rw [← e1] at e3
  simp only [List.length_append, List.length_cons, List.length_nil] at e3 h3
  omega
/-- The pieces. -/
def cutA (l : List Cl) (most : Int) : List (List Cl) := if most < 1 then [] else (cutP l most (allG l)).1
def CutOut (w : World) (pcs : List (List Cl)) (r : Ending) (w' : World) : Prop := ∃ v, r = .returned v ∧ (∃ vs, w'.ownsRow w.heap.size 25 1 v pcs.length vs ∧ ∀ (i : Nat) (p : List Cl), pcs[i]? = some p → ∃ u, vs[i]? = some u ∧ w'.ownsRow w.heap.size 24 4 u p.length (flC p)) ∧ Below w.heap.size w w'
set_option maxRecDepth 100000 in
set_option maxHeartbeats 8000000 in
theorem cut_any (a : Option Addr) (m cp : Nat) (most : Int) (l : List Cl) (w : World) (hca : CA w.heap.size w a l) (hl : l.length = m) (hm : m ≤ cp) (hmx : m * 48 ≤ 140737488355328) :
    Calls Try.prog 23 #[.slice a m cp, .int .i64 most] w (CutOut w (cutA l most)) := by
  obtain ⟨i0, hi, hz0, hz1, hz2⟩ := info_parts info24
  obtain ⟨i1, hj, hj0, hj1, hj2⟩ := info_parts info25
  by_cases hmo : most < 1
  · have HP : Hid (cutA l most = []) := by simp [Hid, cutA, hmo]
    clear hca hl hm hmx
    go_enter Try.func23, Try.ntmps23
    go_wp2_with fail
    go_ret
    exact ⟨_, rfl, ⟨[], by rw [HP.out]; exact World.ownsRow_nil _ _ _ _, fun i p h => by rw [HP.out] at h; simp at h⟩, (Below.refl _ w).alloc (Nat.le_refl _) _⟩
  have HP : Hid (cutA l most = (cutP l most (allG l)).1) := by simp [Hid, cutA, hmo]
  obtain ⟨ob, bl, off, hob, hal, HSQ⟩ := keys_seq a m cp l w hca hl hm (by omega)
  have HKA : Hid (∀ W : World, Calls Try.prog 28 #[.slice a m cp] W fun r w' => r = .returned (.func (.func 39) #[] #[.pointer (some ⟨W.heap.size, 0, none⟩)]) ∧ w' = W.alloc (.cells #[.slice a m cp] 25)) := fun W => keys_any a m cp W
  refine callsIn_wide.1 (callsIn_of_wp_marks (F := Fence.wide) (n := 8) Try.func23 rfl trivial ?_ rfl)
  refine wpIn_wide.2 ?_
  simp only [Try.ntmps23, List.size_toArray, List.length_cons, List.length_nil, Nat.reduceAdd, Nat.reduceSub, Array.replicate_succ, Array.replicate_zero, List.push_toArray, List.append_toArray, List.nil_append, List.cons_append]
  go_wp2_with fail
  refine Calls.mono (HKA.out _) ?_
  rintro e w1 ⟨rfl, rfl⟩
  go_wp2_with fail
  obtain ⟨s, hs⟩ : ∃ s, w.heap.size = s := ⟨_, rfl⟩
  have B0 : Below s w ((((w.alloc (.cells #[.int .i64 most] 3)).alloc (.cells #[.slice none 0 0] 32)).alloc (.cells #[.int .i64 0] 3)).alloc (.cells #[.slice a m cp] 25)) := by
    rw [← hs]
    exact ((((Below.refl _ w).alloc (Nat.le_refl _) _).alloc (by simp) _).alloc (by simp; omega) _).alloc (by simp; omega) _
  have q0 : ((((w.alloc (.cells #[.int .i64 most] 3)).alloc (.cells #[.slice none 0 0] 32)).alloc (.cells #[.int .i64 0] 3)).alloc (.cells #[.slice a m cp] 25)).heap[s]? = some (.cells #[.int .i64 most] 3 (0, 0)) := by
    rw [← hs, Below.heap_alloc _ _ _ (by simp; omega), Below.heap_alloc _ _ _ (by simp; omega), Below.heap_alloc _ _ _ (by simp)]
    exact World.alloc_heap_new _ _
  have q1 : ((((w.alloc (.cells #[.int .i64 most] 3)).alloc (.cells #[.slice none 0 0] 32)).alloc (.cells #[.int .i64 0] 3)).alloc (.cells #[.slice a m cp] 25)).heap[s + 1]? = some (.cells #[.slice none 0 0] 32 (0, 0)) := by
    rw [Below.heap_alloc _ _ _ (by simp; omega), Below.heap_alloc _ _ _ (by simp; omega)]
    have := World.alloc_heap_new (w.alloc (.cells #[.int .i64 most] 3)) (.cells #[.slice none 0 0] 32)
    rw [World.size_alloc, hs] at this
    exact this
  have q2 : ((((w.alloc (.cells #[.int .i64 most] 3)).alloc (.cells #[.slice none 0 0] 32)).alloc (.cells #[.int .i64 0] 3)).alloc (.cells #[.slice a m cp] 25)).heap[s + 2]? = some (.cells #[.int .i64 0] 3 (0, 0)) := by
    rw [Below.heap_alloc _ _ _ (by simp; omega)]
    have := World.alloc_heap_new ((w.alloc (.cells #[.int .i64 most] 3)).alloc (.cells #[.slice none 0 0] 32)) (.cells #[.int .i64 0] 3)
    rw [World.size_alloc, World.size_alloc, hs] at this
    exact this
  have q3 : ((((w.alloc (.cells #[.int .i64 most] 3)).alloc (.cells #[.slice none 0 0] 32)).alloc (.cells #[.int .i64 0] 3)).alloc (.cells #[.slice a m cp] 25)).heap[s + 3]? = some (.cells #[.slice a m cp] 25 (0, 0)) := by
    have := World.alloc_heap_new (((w.alloc (.cells #[.int .i64 most] 3)).alloc (.cells #[.slice none 0 0] 32)).alloc (.cells #[.int .i64 0] 3)) (.cells #[.slice a m cp] 25)
    rw [World.size_alloc, World.size_alloc, World.size_alloc, hs] at this
    exact this
  have hsz : ((((w.alloc (.cells #[.int .i64 most] 3)).alloc (.cells #[.slice none 0 0] 32)).alloc (.cells #[.int .i64 0] 3)).alloc (.cells #[.slice a m cp] 25)).heap.size = s + 4 := by simp; omega
  rw [hs] at HSQ hob ⊢
  generalize (((w.alloc (.cells #[.int .i64 most] 3)).alloc (.cells #[.slice none 0 0] 32)).alloc (.cells #[.int .i64 0] 3)).alloc (.cells #[.slice a m cp] 25) = W0 at *
  have HS3 : ∀ o, SeqK Fence.wide (8 - 1) Try.prog 39 #[] #[.pointer (some ⟨s + 1 + 1 + 1, 0, none⟩)] (encG bl off) (RkC (s + 4) ob) (KcC ob) (fun pre y => ∃ rest, pre ++ y :: rest = allG l) (fun xs => xs = allG l) (fun pre => ∃ rest, pre ++ rest = allG l) ((W0.alloc (.deferred (some []))).alloc o) := fun o => by
    have bz : Below W0.heap.size W0 ((W0.alloc (.deferred (some []))).alloc o) := ((Below.refl _ W0).alloc (Nat.le_refl _) _).alloc (by simp) _
    refine HSQ (s + 4) _ (s + 3) _ (by omega) (by simp; omega) (B0.trans (bz.mono (by omega))) ?_
    have := (bz.block (s + 3) (by omega)).trans q3
    exact Boxed.cell (t := 25) this
  have HI0 : CutI w s (s + 1) (s + 1 + 1) (cutP l most []).1 (cutP l most []).2 W0 ∧ Boxed W0 s 3 (.int .i64 most) := ⟨⟨⟨.slice none 0 0, [], s, q1, World.ownsRow_nil _ _ _ _, fun _ => rfl, Nat.le_refl _, by omega, fun i p h => by simp [cutP] at h⟩, q2, B0⟩, q0⟩
  clear q0 q1 q2 q3 HSQ
  refine (wpIn_wide (n := 8)).1 ?_
  refine wpIn_rangeFunc_keeps rfl (by omega) (gf := 39) (pa := #[]) (lb := #[.pointer (some ⟨s + 1 + 1 + 1, 0, none⟩)]) rfl trivial (enters_of Try.func39 (by kernel_rfl) rfl) (fun A B h => h.others) (fun A B C h k => h.trans k) KcC.put HS3 (fun _ => rfl)
    (fun pre W => CutI w s (s + 1) (s + 1 + 1) (cutP l most pre).1 (cutP l most pre).2 W ∧ Boxed W s 3 (.int .i64 most)) (fun _ _ _ => False)
    (fun pre A A' row h hg hr => ⟨cut_own (F := cutP l most) (by omega) (by omega) pre A A' row h.1 hg hr, (own_block h.2 hg hr).trans h.2⟩) (fun _ _ _ _ _ h _ _ => h)
    (fun pre A B h k => ⟨cut_rk (by omega) (by omega) hob h.1 k, k.block s _ h.2 (Or.inl (by omega))⟩) (fun _ _ _ _ h _ => h) HI0 ?a1 ?assign ?body ?done ?stop
  case assign =>
    intro lp y W K hK
    simp only [encG]
    gi_wp2
    exact hK
  case body =>
    rintro lp pre y W ⟨hcut, hmb⟩ hpr
    obtain ⟨rest, hrest⟩ := hpr
    obtain ⟨hso, hyl, hy1, hfa, hcl⟩ := allG_mem (l := l) (y := y) (by rw [← hrest]; simp)
    have hne : l ≠ [] := by intro e; rw [e] at hyl; simp at hyl; omega
    have haa := hal hne
    subst haa
    have hcW : CA W.heap.size W (some ⟨bl, off, none⟩) l := (CA.below hca (fun b hb => hcut.bel.block b (by omega))).up hcut.bel.size
    have hcc := hcW.cut y
    have hca0 : CA w.heap.size w (some ⟨bl, off + y.1 * 4, none⟩) (cutL l y) := hca.cut y
    have HWT : Hid (Calls Try.prog 30 #[.slice (some ⟨bl, off + y.1 * 4, none⟩) y.2 y.2] W fun r w' => r = .returned (.int .i64 (wtI (cutL l y))) ∧ Below W.heap.size W w') := weight_any W.heap.size y.2 y.2 _ (cutL l y) W hcc hcl (Nat.le_refl _) (by omega)
    obtain ⟨ini, p, hnew, hnf, hnl⟩ := cutNew_ne most (cutP l most pre) (cutL l y)
    obtain ⟨hr1, hr0, hr3⟩ := cut_room hrest hnew
    have hr2 : ini.length ≤ l.length := by
      have := (cutNew_ne most (cutP l most pre) (cutL l y))
      obtain ⟨i', p', e', _, e3⟩ := this
      rw [hnew] at e'
      rw [← e'] at e3
      simp at e3
      omega
    have HFS : Hid (cutP l most (pre ++ [y]) = (ini ++ [p ++ cutL l y], wrap64 ((cutNew most (cutP l most pre) (cutL l y)).2 - wtI (cutL l y)))) := by rw [Hid, cutP_snoc, cutStep, hnew, onLast_snoc]
    obtain ⟨⟨pcs, left⟩, hst⟩ : ∃ st, cutP l most pre = st := ⟨_, rfl⟩
    rw [hst] at hcut hnew hr3 HFS
    simp only at hcut hr3
    obtain ⟨k, hkk⟩ : ∃ k, cutL l y = k := ⟨_, rfl⟩
    rw [hkk] at hcc hcl HWT hnew HFS hca0
    obtain ⟨y1, y2⟩ := y
    simp only at hcc hcl HWT hr1 hy1 hyl hca0
    obtain ⟨oo, hoo⟩ : ∃ oo, off + y1 * 4 = oo := ⟨_, rfl⟩
    rw [hoo] at hcc HWT hca0 ⊢
    have HCA0 : Hid (CA w.heap.size w (some ⟨bl, oo, none⟩) k) := hca0
    obtain ⟨wk, hwk⟩ : ∃ wk, wtI k = wk := ⟨_, rfl⟩
    rw [hwk] at HWT HFS
    obtain ⟨n, hnn⟩ : ∃ n, pcs.length = n := ⟨_, rfl⟩
    obtain ⟨ni, hni⟩ : ∃ ni, ini.length = ni := ⟨_, rfl⟩
    obtain ⟨pl, hpl⟩ : ∃ pl, p.length = pl := ⟨_, rfl⟩
    have HCC : Hid (CA W.heap.size W (some ⟨bl, oo, none⟩) k) := hcc
    have HCU : Hid (CutI w s (s + 1) (s + 1 + 1) pcs left W) := hcut
    have HMB0 : Hid (Boxed W s 3 (.int .i64 most)) := hmb
    rw [hnn] at hr3
    rw [hni] at hr2
    rw [hpl] at hr1
    rw [hl] at hr1 hr2 hr3
    have HSS : Hid (s ≤ w.heap.size) := by rw [Hid]; omega
    have HFL : Hid ((flC k).length = y2 * 4) := by rw [Hid, flC_len, hcl]
    have HKL : Hid (k.length = y2) := hcl
    have HNW : Hid (cutNew most (pcs, left) k = (ini ++ [p], (cutNew most (pcs, left) k).2)) := by rw [Hid, ← hnew]
    have HOB : Hid (∀ b, ob = some b → b < s) := hob
    have HSZ : Hid (s ≤ W.heap.size) := by have := hcut.bel.size; rw [Hid]; omega
    have HNI : Hid (ini.length = ni ∧ p.length = pl ∧ pcs.length = n ∧ wtI k = wk) := ⟨hni, hpl, hnn, hwk⟩
    have hb1 : pl + y2 ≤ maxLen := by unfold maxLen; omega
    have hb2 : (pl + y2) * 48 ≤ 140737488355328 := by omega
    have hb3 : n + 1 ≤ maxLen := by unfold maxLen; omega
    have hb4 : (n + 1) * 24 ≤ 140737488355328 := by omega
    have hb5 : ni < 1000000000000000 := by omega
    have hb6 : n < 1000000000000000 := by omega
    clear hcW hcc hcut hmb hcl hst hkk hoo hnn hni hpl hwk hnew hrest hne HI0 HS3 hr1 hr2 hr3 hca hal hob hca0 HKA hso hfa hnf hnl hr0 hyl
    gi_wp2
    refine ⟨trivial, (CallsIn.inRound lp (callsIn_wide.2 HWT.out)).mono ?_⟩
    rintro e w2 ⟨rfl, b2⟩
    have HB2 : Hid (Below W.heap.size W w2) := b2
    have HC2 : Hid (CutI w s (s + 1) (s + 1 + 1) pcs left w2) := cut_below HSS.out HCU.out b2
    have HM2 : Hid (Boxed w2 s 3 (.int .i64 most)) := (b2.block s HMB0.out.lt).trans HMB0.out
    have HO2 : Hid (KeepsOthers W w2 ∧ KcC ob W w2) := ⟨others_below b2, KcC.of_below b2⟩
    clear b2 HWT HCU HCC
    by_cases h0 : n = 0
    · have HNE : Hid (cutNew most (pcs, left) k = (pcs ++ [[]], most)) := by rw [Hid, cutNew, if_pos (Or.inl (HNI.out.2.2.1.trans h0))]
      obtain ⟨rfl, rfl⟩ : pcs = ini ∧ p = [] := by
        have := HNW.out
        rw [HNE.out] at this
        have h2 := (Prod.mk.inj this).1
        have h3 := List.append_inj' h2 rfl
        exact ⟨h3.1, by simpa using h3.2.symm⟩
      rw [HNE.out] at HFS
      simp only at HFS
      obtain rfl : 0 = pl := HNI.out.2.1
      obtain ⟨va, vc, vs, c5, c6, hrh, hhh⟩ := cut_head (most := most) HSS.out HOB.out (by omega) (by omega) (by omega) (by omega) (by omega) HNI.out.2.2.1 HC2.out HM2.out
      have HRH : Hid _ := hrh
      have HH : Hid _ := hhh
      have HNC : Hid (∀ j u, [Value.slice none 0 0][j]? = some u → (w2.alloc (.cells #[.slice none 0 0] 25)).cell? ((⟨w2.heap.size, 0, none⟩ : Addr).add j) = some u) := fun j u hj => by
        rw [addr_add, cells_of_block (World.alloc_heap_new w2 _), Nat.zero_add]
        simpa using hj
      have hsA : s ≤ (w2.alloc (.cells #[.slice none 0 0] 25)).heap.size := by have := HB2.out.size; have := HSZ.out; simp; omega
      clear hrh hhh HNW
      subst h0
      gi_wp2_with (first | (gi_at_builtin; refine wpListIn_append_own _ rfl _ _ 32 rfl s 25 i1 (.slice none 0 0) 1 24 Try.underlying32 hj hj0 hj1 hj2 rfl (by decide) _ _ _ rfl HRH.out ⟨w2.heap.size, 0, none⟩ 1 1 [.slice none 0 0] rfl rfl HNC.out (by simp [Value.oneCell']) (by first | exact hb3 | omega) (by first | exact hb4 | omega) hsA ?_; intro v2 w3 hown3 hg3 _; obtain ⟨a2, c2, rfl, r1, r2, r3, r4, r5, HE3⟩ := HH.out w3 v2 hown3 hg3; clear hown3 hg3; simp only [Nat.zero_add] at r1 r2 r3 r4 r5 HE3; obtain ⟨go, cap, ua, uc, β, t1, t2, t3, hβ, hrt, htt⟩ := cut_tail (left' := wrap64 (most - wk)) (pl := 0) HSS.out HOB.out (by omega) (by omega) HNI.out.2.2.1 rfl HKL.out HE3.out.1 HE3.out.2.2.2; have HRT : Hid _ := hrt; have HT : Hid _ := htt; have HKT : Hid (∀ j u, (flC k)[j]? = some u → ((w3.setCell ⟨s + 1, 0, none⟩ (.slice a2 1 c2)).setCell ⟨s + 1 + 1, 0, none⟩ (.int .i64 most)).cell? ((⟨bl, oo, none⟩ : Addr).add j) = some u) := ca_flat (HCA0.out.below (fun b hb => (CutI.bel HE3.out.1).block b (by omega))); clear hrt htt; simp only [Nat.zero_add] at t1 t2 t3) | (gi_at_builtin; refine wpListIn_append_own _ rfl _ _ 25 rfl β 24 i0 (.agg #[.string ByteArray.empty, .int .u64 0, .string ByteArray.empty, .bool false]) 4 48 Try.underlying25 hi hz0 hz1 hz2 rfl (by decide) _ _ _ rfl HRT.out ⟨bl, oo, none⟩ y2 y2 (flC k) rfl HFL.out HKT.out (flC_one k) (by first | exact hb1 | omega) (by first | exact hb2 | omega) hβ ?_; intro u2 w6 hown6 hg6 _; obtain ⟨a6, c6, rfl, z1, z2, z3, z4, HE6⟩ := HT.out w6 u2 hown6 hg6; clear hown6 hg6; simp only [Nat.zero_add] at z1 z2 z3 z4 HE6))
      refine ⟨HO2.out.1.trans (HE3.out.2.1.trans HE6.out.2.1), HO2.out.2.tr (HE3.out.2.2.1.tr HE6.out.2.2.1), ?_, HE6.out.2.2.2⟩
      rw [HFS.out]
      exact HE6.out.1
    · by_cases hlt : left < wk
      · have HNE : Hid (cutNew most (pcs, left) k = (pcs ++ [[]], most)) := by rw [Hid, cutNew, if_pos (Or.inr (by rw [HNI.out.2.2.2]; exact hlt))]
        obtain ⟨rfl, rfl⟩ : pcs = ini ∧ p = [] := by
          have := HNW.out
          rw [HNE.out] at this
          have h2 := (Prod.mk.inj this).1
          have h3 := List.append_inj' h2 rfl
          exact ⟨h3.1, by simpa using h3.2.symm⟩
        rw [HNE.out] at HFS
        simp only at HFS
        obtain rfl : 0 = pl := HNI.out.2.1
        obtain ⟨va, vc, vs, c5, c6, hrh, hhh⟩ := cut_head (most := most) HSS.out HOB.out (by omega) (by omega) (by omega) (by omega) (by omega) HNI.out.2.2.1 HC2.out HM2.out
        have HRH : Hid _ := hrh
        have HH : Hid _ := hhh
        have HNC : Hid (∀ j u, [Value.slice none 0 0][j]? = some u → (w2.alloc (.cells #[.slice none 0 0] 25)).cell? ((⟨w2.heap.size, 0, none⟩ : Addr).add j) = some u) := fun j u hj => by
          rw [addr_add, cells_of_block (World.alloc_heap_new w2 _), Nat.zero_add]
          simpa using hj
        have hsA : s ≤ (w2.alloc (.cells #[.slice none 0 0] 25)).heap.size := by have := HB2.out.size; have := HSZ.out; simp; omega
        clear hrh hhh HNW
        have hd0 : decide ((n : Int) = 0) = false := decide_eq_false (by omega)
        have hd1 : decide (left < wk) = true := decide_eq_true hlt
        gi_wp2_with (first | (gi_at_builtin; refine wpListIn_append_own _ rfl _ _ 32 rfl s 25 i1 (.slice none 0 0) 1 24 Try.underlying32 hj hj0 hj1 hj2 rfl (by decide) _ _ _ rfl HRH.out ⟨w2.heap.size, 0, none⟩ 1 1 [.slice none 0 0] rfl rfl HNC.out (by simp [Value.oneCell']) (by first | exact hb3 | omega) (by first | exact hb4 | omega) hsA ?_; intro v2 w3 hown3 hg3 _; obtain ⟨a2, c2, rfl, r1, r2, r3, r4, r5, HE3⟩ := HH.out w3 v2 hown3 hg3; clear hown3 hg3; obtain ⟨go, cap, ua, uc, β, t1, t2, t3, hβ, hrt, htt⟩ := cut_tail (left' := wrap64 (most - wk)) (pl := 0) HSS.out HOB.out (by omega) (by omega) HNI.out.2.2.1 rfl HKL.out HE3.out.1 HE3.out.2.2.2; have HRT : Hid _ := hrt; have HT : Hid _ := htt; have HKT : Hid (∀ j u, (flC k)[j]? = some u → ((w3.setCell ⟨s + 1, 0, none⟩ (.slice a2 (n + 1) c2)).setCell ⟨s + 1 + 1, 0, none⟩ (.int .i64 most)).cell? ((⟨bl, oo, none⟩ : Addr).add j) = some u) := ca_flat (HCA0.out.below (fun b hb => (CutI.bel HE3.out.1).block b (by omega))); clear hrt htt) | (gi_at_builtin; refine wpListIn_append_own _ rfl _ _ 25 rfl β 24 i0 (.agg #[.string ByteArray.empty, .int .u64 0, .string ByteArray.empty, .bool false]) 4 48 Try.underlying25 hi hz0 hz1 hz2 rfl (by decide) _ _ _ rfl HRT.out ⟨bl, oo, none⟩ y2 y2 (flC k) rfl HFL.out HKT.out (flC_one k) (by first | exact hb1 | omega) (by first | exact hb2 | omega) hβ ?_; intro u2 w6 hown6 hg6 _; obtain ⟨a6, c6, rfl, z1, z2, z3, z4, HE6⟩ := HT.out w6 u2 hown6 hg6; clear hown6 hg6; simp only [Nat.zero_add] at z1 z2 z3 z4 HE6))
        refine ⟨HO2.out.1.trans (HE3.out.2.1.trans HE6.out.2.1), HO2.out.2.tr (HE3.out.2.2.1.tr HE6.out.2.2.1), ?_, HE6.out.2.2.2⟩
        rw [HFS.out]
        exact HE6.out.1
      · have hN2 : cutNew most (pcs, left) k = (pcs, left) := by
          unfold cutNew
          rw [if_neg]
          rintro (h | h)
          · exact h0 (HNI.out.2.2.1.symm.trans h)
          · rw [HNI.out.2.2.2] at h; exact hlt h
        have he : pcs = ini ++ [p] := by
          have := HNW.out
          rw [hN2] at this
          exact (Prod.mk.inj this).1
        rw [hN2] at HFS
        simp only at HFS
        subst he
        obtain ⟨go, cap, ua, uc, β, t1, t2, t3, hβ, hrt, htt⟩ := cut_tail (left' := wrap64 (left - wk)) (pl := pl) HSS.out HOB.out (by omega) (by omega) HNI.out.1 HNI.out.2.1 HKL.out HC2.out HM2.out
        have HRT : Hid _ := hrt
        have HT : Hid _ := htt
        have HKT : Hid (∀ j u, (flC k)[j]? = some u → (w2).cell? ((⟨bl, oo, none⟩ : Addr).add j) = some u) := ca_flat (HCA0.out.below (fun b hb => (CutI.bel HC2.out).block b (by omega)))
        clear hrt htt
        clear hN2
        have hd0 : decide ((ni : Int) + 1 = 0) = false := decide_eq_false (by omega)
        have hd1 : decide (left < wk) = false := decide_eq_false hlt
        gi_wp2_with (first | (gi_at_builtin; refine wpListIn_append_own _ rfl _ _ 25 rfl β 24 i0 (.agg #[.string ByteArray.empty, .int .u64 0, .string ByteArray.empty, .bool false]) 4 48 Try.underlying25 hi hz0 hz1 hz2 rfl (by decide) _ _ _ rfl HRT.out ⟨bl, oo, none⟩ y2 y2 (flC k) rfl HFL.out HKT.out (flC_one k) (by first | exact hb1 | omega) (by first | exact hb2 | omega) hβ ?_; intro u2 w6 hown6 hg6 _; obtain ⟨a6, c6, rfl, z1, z2, z3, z4, HE6⟩ := HT.out w6 u2 hown6 hg6; clear hown6 hg6))
        refine ⟨HO2.out.1.trans HE6.out.2.1, HO2.out.2.tr HE6.out.2.2.1, ?_, HE6.out.2.2.2⟩
        rw [HFS.out]
        exact HE6.out.1
  case done =>
    rintro D xs W hD hx ⟨hcut, hmb⟩ hK
    rw [hx] at hcut
    obtain ⟨v, vs, β, h1, h2, h3, h4, h5, h6⟩ := hcut.ex
    obtain ⟨va, vc, rfl⟩ := row_form4 h2
    have c5 : W.cell? ⟨s + 1, 0, none⟩ = some (.slice va (cutP l most (allG l)).1.length vc) := h1.cell
    have HRW : Hid (W.ownsRow s 25 1 (.slice va (cutP l most (allG l)).1.length vc) (cutP l most (allG l)).1.length vs ∧ ∀ (i : Nat) (p : List Cl), (cutP l most (allG l)).1[i]? = some p → ∃ u, vs[i]? = some u ∧ W.ownsRow s 24 4 u p.length (flC p)) := ⟨h2, fun i p hp => by obtain ⟨u, a, b, _⟩ := h6 i p hp; exact ⟨u, a, b⟩⟩
    have HBL : Hid (Below s w W) := hcut.bel
    have HK : Hid (W.heap[D]? = some (.deferred (some []))) := hK
    clear h1 h2 h3 h4 h5 h6 hcut hmb hK HI0 HS3
    obtain ⟨nn, hnn⟩ : ∃ nn, (cutP l most (allG l)).1.length = nn := ⟨_, rfl⟩
    rw [hnn] at c5 HRW
    go_wp2_with fail
    refine ⟨by simp, .inl ⟨_, _, rfl, run_takeDeferred HK.out, ?_⟩⟩
    refine ⟨.slice va nn vc, ?_, ?_⟩
    · simp [results, Try.f23, go_sem]
    · refine ⟨_, rfl, ⟨vs, ?_, fun i p hp => ?_⟩, ?_⟩
      · rw [hs, HP.out, hnn]
        exact ownsRow_putObj HRW.out.1 _ HK.out rfl
      · rw [HP.out] at hp
        obtain ⟨u, a, b⟩ := HRW.out.2 i p hp
        exact ⟨u, a, by rw [hs]; exact ownsRow_putObj b _ HK.out rfl⟩
      · rw [hs]
        exact HBL.out.trans (belowK_b (w := W0) (by omega) W D _ _ hD HK.out rfl rfl)
  case stop => exact fun _ _ _ _ _ _ h => h.elim
end Go.Proofs.Ytohamjoiohfoiaa
