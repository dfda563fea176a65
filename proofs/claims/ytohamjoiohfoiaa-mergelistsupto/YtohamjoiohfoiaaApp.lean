/-
  The contracts of slices.AppendSeq, slices.Collect and Merge.
-/
import Derived.Test.YtohamjoiohfoiaaHseq
import Derived.Test.YtohamjoiohfoiaaCol
import Derived.Test.YtohamjoiohfoiaaMerged
import Derived.Test.YtohamjoiohfoiaaRangeA
import Derived.OwnWalkIn
namespace Go.Proofs.Ytohamjoiohfoiaa
open Go.RowKit Go.Shelf
attribute [local go_sem] Oper.semAt_some
theorem col_rkM {w : World} {s t : Nat} {L : List Cl} (hs : s ≤ w.heap.size) {A B : World} (h : ColI w s t L A) (k : RkM s A B) : ColI w s t L B := by
  obtain ⟨⟨v, hv, hr⟩, hb⟩ := h
  refine ⟨⟨v, k.block t _ hv (Or.inr ⟨fun c f e => (by simp at e), fun c f e => (by simp at e)⟩), owns_same hr (fun g hg => ?_)⟩, ⟨k.os.trans hb.os, k.tape.trans hb.tape, k.output.trans hb.output, Nat.le_trans hb.size k.size, fun b hb2 => ?_⟩⟩
  · rcases hr.2 with ⟨ev, _⟩ | ⟨g', cap, cur, ev, _, hh, _⟩
    · rw [ev] at hg; cases hg
    · rw [ev] at hg
      simp only [Value.ownBlock, Option.some.injEq] at hg
      subst hg
      rw [k.block g' _ hh (Or.inr ⟨fun c f e => (by simp at e), fun c f e => (by simp at e)⟩), hh]
  · have hlt : b < A.heap.size := by have := hb.size; omega
    exact (k.block b _ (Array.getElem?_eq_getElem hlt) (Or.inl (by omega))).trans ((Array.getElem?_eq_getElem hlt).symm.trans (hb.block b hb2))
theorem col_ownM {w : World} {s t B : Nat} (hs : s ≤ w.heap.size) (hB : s ≤ B) : OwnFrom B (fun (pre : List Cl) W => ColI w s t pre W) := by
  rintro pre A A' row ⟨⟨v, hv, hr⟩, hb⟩ hg hrow
  refine ⟨⟨v, (own_block hv hg hrow).trans hv, ?_⟩, hb.grown hg (Nat.le_trans hs hb.size) (fun k e => Nat.le_trans hB (hrow k e).1)⟩
  rcases hr.2 with ⟨rfl, _⟩ | ⟨g', cap, cur, rfl, _, hh, _⟩
  · exact owns_same hr (fun g hg => by cases hg)
  · exact owns_same hr (fun g hg' => by
      simp only [Value.ownBlock, Option.some.injEq] at hg'
      subst hg'
      exact own_block hh hg hrow)
/-- Cells behind those that have been collected, in the variable. -/
theorem col_stepM {w W V w3 : World} {s t n m : Nat} {L cs : List Cl} {v v2 : Value} {X : World} (hs : s ≤ w.heap.size) (ht : s ≤ t) (hL : L.length = n) (hm : cs.length = m) (kV : Below W.heap.size W V) (hbW : Boxed W t 25 v) (hrW : W.ownsRow s 24 4 v n (flC L)) (hbel : Below s w W)
    (kX : Below V.heap.size V X) (hown2 : w3.ownsRow s 24 4 v2 (n + m) (flC L ++ flC cs)) (hg2 : X.grownBy w3 v.ownBlock) :
    ∃ a2 c2, v2 = .slice a2 (n + m) c2 ∧ w3.cell? ⟨t, 0, none⟩ = some v ∧ w3.frozen? ⟨t, 0, none⟩ = false ∧
      Hid (KeepsOthers W (w3.setCell ⟨t, 0, none⟩ v2) ∧ KcM s W (w3.setCell ⟨t, 0, none⟩ v2) ∧ ColI w s t (L ++ cs) (w3.setCell ⟨t, 0, none⟩ v2)) := by
  have kWX : Below W.heap.size W X := kV.trans (kX.mono kV.size)
  have hvX : Boxed X t 25 v := (kWX.block t hbW.lt).trans hbW
  have hrX : X.ownsRow s 24 4 v n (flC L) := owns_same hrW (fun g e => kWX.block g (hrW.lt g e).2)
  have hv3 : Boxed w3 t 25 v := hvX.kept hg2 (hvX.not_row (by decide) hrX)
  obtain ⟨a2, c2, e2⟩ := row_form4 hown2
  have keep : ∀ (k : Nat) (o : Obj), W.heap[k]? = some o → k ≠ t → (∀ c f, o ≠ .cells c 24 f) → (w3.setCell ⟨t, 0, none⟩ v2).heap[k]? = some o := fun k o ho hkt hn => by
    have h1 : X.heap[k]? = some o := (kWX.block k (Array.getElem?_eq_some_iff.1 ho).1).trans ho
    have h2 : w3.heap[k]? = X.heap[k]? := hg2.block k (Array.getElem?_eq_some_iff.1 h1).1 (fun e => by
      rcases hrX.2 with ⟨ev, _⟩ | ⟨g, cap, cur, ev, _, hh, _⟩
      · rw [ev] at e; cases e
      · rw [ev] at e
        simp only [Value.ownBlock, Option.some.injEq] at e
        rw [e, hh] at h1
        cases h1
        exact hn _ _ rfl)
    exact (Below.heap_setCell _ _ _ k (fun e => hkt e)).trans (h2.trans h1)
  have hsz : W.heap.size ≤ (w3.setCell ⟨t, 0, none⟩ v2).heap.size := by
    have h1 := kWX.size
    have h2 := hg2.size
    have h3 := (KeepsWalks.setCell w3 ⟨t, 0, none⟩ v2).size
    omega
  have hbZ : Below s W (w3.setCell ⟨t, 0, none⟩ v2) := by
    have hsW : s ≤ W.heap.size := Nat.le_trans hs hbel.size
    have hsX : s ≤ X.heap.size := Nat.le_trans hsW kWX.size
    refine (((kWX.mono hsW).trans (((Below.refl s X).grown hg2 hsX (fun j ej => ?_))))).setCell (p := ⟨t, 0, none⟩) ht v2
    exact (hrX.lt j ej).1
  refine ⟨a2, c2, e2, hv3.cell, hv3.frozen, ⟨hsz, fun k o ho hc => keep k o ho (fun e => ?_) (fun c f e => ?_)⟩, ⟨hsz, fun k o hk ho hc => (hbZ.block k hk).trans ho, fun k c tt f ho htt => keep k _ ho (fun e => ?_) (fun c' f' e => ?_)⟩, ⟨⟨v2, hv3.set v2, ?_⟩, hbel.trans hbZ⟩⟩
  · rw [e, hbW] at ho; cases ho; cases hc
  · rw [e] at hc; cases hc
  · rw [e, hbW] at ho
    rcases htt with rfl | rfl <;> simp at ho
  · rcases htt with rfl | rfl <;> simp at e
  · rw [List.length_append, hL, hm, flC_app]
    exact owns_same hown2 (fun g hg => Below.heap_setCell _ _ _ g (fun e => hv3.not_row (by decide) hown2 (by rw [hg]; exact congrArg some e.symm)))
set_option maxRecDepth 100000 in
set_option maxHeartbeats 4000000 in
theorem appendSeq_gen (gf : Nat) (lb : Array Value) (L : List Cl) (w : World) (eg : ∀ args w, (callFunc gf args).run Try.prog w = .ok (.enter gf args) w)
    (hsq : ∀ W, Below w.heap.size w W → SeqK Fence.wide (8 - 1) Try.prog gf #[] lb (fun c => #[clV c]) (RkM w.heap.size) (KcM w.heap.size) (fun pre y => ∃ rest, pre ++ y :: rest = L) (fun xs => xs = L) (fun pre => ∃ rest, pre ++ rest = L) W) (hN : L.length * 48 ≤ 140737488355328) :
    Calls Try.prog 31 #[.slice none 0 0, .func (.func gf) #[] lb] w fun r w' => ∃ v, r = .returned v ∧ w'.ownsRow w.heap.size 24 4 v L.length (flC L) ∧ Below w.heap.size w w' := by
  obtain ⟨i0, hi, hz0, hz1, hz2⟩ := info_parts info24
  refine callsIn_wide.1 (callsIn_of_wp_marks (F := Fence.wide) (n := 8) Try.func31 rfl trivial ?_ rfl)
  refine wpIn_wide.2 ?_
  simp only [Try.ntmps31, List.size_toArray, List.length_cons, List.length_nil, Nat.reduceAdd, Nat.reduceSub, Array.replicate_succ, Array.replicate_zero, List.push_toArray, List.append_toArray, List.nil_append, List.cons_append]
  go_wp2_with fail
  obtain ⟨s, hs⟩ : ∃ s, w.heap.size = s := ⟨_, rfl⟩
  have B0 : Below s w (w.alloc (.cells #[.slice none 0 0] 25)) := by
    rw [← hs]
    exact (Below.refl _ w).alloc (Nat.le_refl _) _
  have q0 : (w.alloc (.cells #[.slice none 0 0] 25)).heap[s]? = some (.cells #[.slice none 0 0] 25 (0, 0)) := by
    rw [← hs]
    exact World.alloc_heap_new _ _
  have hsz : (w.alloc (.cells #[.slice none 0 0] 25)).heap.size = s + 1 := by simp; omega
  rw [hs] at hsq ⊢
  generalize w.alloc (.cells #[.slice none 0 0] 25) = W0 at *
  have HS3 : ∀ o, SeqK Fence.wide (8 - 1) Try.prog gf #[] lb (fun c => #[clV c]) (RkM s) (KcM s) (fun pre y => ∃ rest, pre ++ y :: rest = L) (fun xs => xs = L) (fun pre => ∃ rest, pre ++ rest = L) ((W0.alloc (.deferred (some []))).alloc o) := fun o =>
    hsq _ (B0.trans (((Below.refl _ W0).alloc (Nat.le_refl _) _).alloc (by simp) _ |>.mono (by omega)))
  have HI0 : ColI w s s [] W0 := ⟨⟨.slice none 0 0, q0, World.ownsRow_nil _ _ _ _⟩, B0⟩
  clear q0
  refine (wpIn_wide (n := 8)).1 ?_
  refine wpIn_rangeFunc_boxes rfl (by omega) (gf := gf) (pa := #[]) (lb := lb) rfl trivial eg (fun A B h => h.others) (fun A B C h k => h.trans k) KcM.put HS3 (fun _ => rfl)
    (fun pre W => ColI w s s pre W) (fun _ _ _ => False)
    (col_ownM (by omega) (by omega)) (fun _ _ _ _ _ h _ _ => h)
    (fun pre A B h k => col_rkM (by omega) h k) (fun _ _ _ _ h _ => h) HI0 (fun A o => KcM.of_below ((Below.refl _ A).alloc (Nat.le_refl _) _)) (fun c => .cells #[.string c.key, .int .u64 (c.seq : Nat), .string c.val, .bool c.gone] 24 (0, 0)) (fun c A => { tmps := #[.slice none 0 0, .func (.func gf) #[] lb, .pointer (some ⟨s, 0, none⟩), undef, .slice none 0 0, .pointer (some ⟨A, 0, none⟩), .func (.func gf) #[] lb, .agg #[.string c.key, .int .u64 (c.seq : Nat), .string c.val, .bool c.gone], undef, undef, undef, undef, undef], defers := [] }) ?assign ?body ?done ?stop
  case assign =>
    intro lp y W K hK
    simp only [clV]
    gi_wp2
    exact hK
  case body =>
    rintro lp pre y A W hcol hpr hA
    obtain ⟨rest, hrest⟩ := hpr
    obtain ⟨v, hv, hrow⟩ := hcol.col
    obtain ⟨va, vc, rfl⟩ := row_form4 hrow
    obtain ⟨nL, hnL⟩ : ∃ nL, pre.length = nL := ⟨_, rfl⟩
    rw [hnL] at hv hrow
    have c5 : W.cell? ⟨s, 0, none⟩ = some (.slice va nL vc) := hv.cell
    obtain ⟨k0, k1, k2, k3⟩ := c24 hA
    have hle : nL + 1 ≤ (L).length := by rw [← hrest, List.length_append, List.length_cons]; omega
    obtain ⟨ck, cs, cv, cg⟩ := y
    simp only at k0 k1 k2 k3
    have HRX : Hid ((W.alloc (.cells #[.string ck, .int .u64 (cs : Nat), .string cv, .bool cg] 24)).ownsRow s 24 4 (.slice va nL vc) nL (flC pre)) := World.ownsRow.alloc hrow _
    have HNC : Hid (∀ j u, [Value.string ck, .int .u64 (cs : Nat), .string cv, .bool cg][j]? = some u → (W.alloc (.cells #[.string ck, .int .u64 (cs : Nat), .string cv, .bool cg] 24)).cell? ((⟨W.heap.size, 0, none⟩ : Addr).add j) = some u) := fun j u hj => by
      rw [addr_add, cells_of_block (World.alloc_heap_new W _), Nat.zero_add]
      simpa using hj
    have HST : Hid (∀ w3 v2, w3.ownsRow s 24 4 v2 (nL + 1) (flC pre ++ [Value.string ck, .int .u64 (cs : Nat), .string cv, .bool cg]) → (W.alloc (.cells #[.string ck, .int .u64 (cs : Nat), .string cv, .bool cg] 24)).grownBy w3 (Value.slice va nL vc).ownBlock → ∃ a2 c2, v2 = .slice a2 (nL + 1) c2 ∧ w3.cell? ⟨s, 0, none⟩ = some (.slice va nL vc) ∧ w3.frozen? ⟨s, 0, none⟩ = false ∧ Hid (KeepsOthers W (w3.setCell ⟨s, 0, none⟩ v2) ∧ KcM s W (w3.setCell ⟨s, 0, none⟩ v2) ∧ ColI w s s (pre ++ [⟨ck, cs, cv, cg⟩]) (w3.setCell ⟨s, 0, none⟩ v2))) := fun w3 v2 q1 q2 =>
      col_stepM (cs := [⟨ck, cs, cv, cg⟩]) (m := 1) (V := W) (by omega) (Nat.le_refl _) hnL rfl (Below.refl _ _) hv hrow hcol.bel ((Below.refl _ W).alloc (Nat.le_refl _) _) q1 q2
    have hsW : s ≤ (W.alloc (.cells #[.string ck, .int .u64 (cs : Nat), .string cv, .bool cg] 24)).heap.size := by have := hcol.bel.size; simp; omega
    have hb2 : (nL + 1) * 48 ≤ 140737488355328 := by omega
    have hb1 : nL + 1 ≤ maxLen := by unfold maxLen; omega
    clear hv hrow hcol hA hrest HI0 HS3 hsq hle
    gi_wp2_with (gi_at_builtin; refine wpListIn_append_own _ rfl _ _ 25 rfl s 24 i0 (.agg #[.string ByteArray.empty, .int .u64 0, .string ByteArray.empty, .bool false]) 4 48 Try.underlying25 hi hz0 hz1 hz2 rfl (by decide) _ _ _ rfl HRX.out ⟨W.heap.size, 0, none⟩ 1 1 [.string ck, .int .u64 (cs : Nat), .string cv, .bool cg] rfl rfl HNC.out (by simp [Value.oneCell']) hb1 hb2 hsW ?_; intro v2 w3 hown2 hg2 _; obtain ⟨a2, c2, rfl, r2, r3, HE⟩ := HST.out w3 v2 hown2 hg2; clear hown2 hg2)
    exact HE.out
  case done =>
    rintro D xs W hD hx hcol hK
    rw [hx] at hcol
    obtain ⟨v, hv, hrow⟩ := hcol.col
    obtain ⟨va, vc, rfl⟩ := row_form4 hrow
    have c5 : W.cell? ⟨s, 0, none⟩ = some (.slice va (L).length vc) := hv.cell
    have HRW : Hid (W.ownsRow s 24 4 (.slice va (L).length vc) (L).length (flC (L))) := hrow
    have HBL : Hid (Below s w W) := hcol.bel
    have HK : Hid (W.heap[D]? = some (.deferred (some []))) := hK
    clear hv hrow hcol hK HI0 HS3
    go_wp2_with fail
    refine ⟨by simp, .inl ⟨_, _, rfl, run_takeDeferred HK.out, ?_⟩⟩
    refine ⟨.slice va (L).length vc, ?_, _, rfl, ?_, ?_⟩
    · simp [results, Try.f31, go_sem]
    · rw [hs]
      exact ownsRow_putObj HRW.out _ HK.out rfl
    · rw [hs]
      exact HBL.out.trans (belowK_b (w := W0) (by omega) W D _ _ hD HK.out rfl rfl)
  case stop => exact fun _ _ _ _ _ _ h => h.elim
theorem row_base {W : World} {b b' : Nat} {e : TypeId} {size : Nat} {v : Value} {n : Nat} {xs : List Value} (hb : b' ≤ b) (h : W.ownsRow b e size v n xs) : W.ownsRow b' e size v n xs := by
  rcases h with ⟨h1, ⟨hv, h0⟩ | ⟨g, cap, cur, hv, hB, hh, hr⟩⟩
  · exact ⟨h1, Or.inl ⟨hv, h0⟩⟩
  · exact ⟨h1, Or.inr ⟨g, cap, cur, hv, Nat.le_trans hb hB, hh, hr⟩⟩
set_option maxRecDepth 100000 in
theorem collect_gen (gf : Nat) (lb : Array Value) (L : List Cl) (w : World) (h : Calls Try.prog 31 #[.slice none 0 0, .func (.func gf) #[] lb] w fun r w' => ∃ v, r = .returned v ∧ w'.ownsRow w.heap.size 24 4 v L.length (flC L) ∧ Below w.heap.size w w') :
    Calls Try.prog 25 #[.func (.func gf) #[] lb] w fun r w' => ∃ v, r = .returned v ∧ w'.ownsRow w.heap.size 24 4 v L.length (flC L) ∧ Below w.heap.size w w' := by
  have HA : Hid _ := h
  clear h
  go_enter Try.func25, Try.ntmps25
  go_wp2_with (go_at_call 31; refine Calls.mono HA.out ?_; rintro e w3 ⟨v, rfl, h3⟩; have H3 : Hid _ := h3; clear h3)
  go_ret
  exact ⟨_, rfl, H3.out⟩
theorem collect_any (c0 m cp : Nat) (a : Option Addr) (ls : List Sl) (w : World) (hc0 : w.cell? ⟨c0, 0, none⟩ = some (.slice a m cp)) (hla : LA w.heap.size w a ls) (hl : ls.length = m) (hm : m < 800000) (hN : (outM ls).length * 48 ≤ 140737488355328) :
    Calls Try.prog 25 #[.func (.func 34) #[] #[.pointer (some ⟨c0, 0, none⟩)]] w fun r w' => ∃ v, r = .returned v ∧ w'.ownsRow w.heap.size 24 4 v (outM ls).length (flC (outM ls)) ∧ Below w.heap.size w w' :=
  collect_gen 34 _ _ w (appendSeq_gen 34 _ _ w (enters_of Try.func34 (by kernel_rfl) rfl) (fun W bz => merged2_seq _ (8 - 1) (by omega) c0 m cp a ls W ((bz.cell (p := ⟨c0, 0, none⟩) (World.block_lt_of_cell? w _ hc0)).trans hc0) (hla.below (fun b hb => bz.block b hb)) hl hm bz.size) hN)
set_option maxRecDepth 100000 in
theorem merged1_seq (z n : Nat) (W : World) : SeqK Fence.wide n Try.prog 33 #[] #[] (fun c => #[clV c]) (RkM z) (KcM z) (fun pre y => ∃ rest, pre ++ y :: rest = []) (fun xs => xs = []) (fun pre => ∃ rest, pre ++ rest = []) W := fun lp J Jx hJ hJx hY h0 => by
  clear hJ hJx hY
  have H0 : Hid (J [] W) := h0
  clear h0
  refine callsIn_of_wp Try.func33 rfl trivial ?_ rfl
  refine wpIn_wide.2 ?_
  simp only [Try.ntmps33, List.size_toArray, List.length_cons, List.length_nil, Nat.reduceAdd, Nat.reduceSub, Array.replicate_succ, Array.replicate_zero, List.push_toArray, List.append_toArray, List.nil_append, List.cons_append]
  go_wp2_with fail
  go_end0
  exact ⟨⟨_, rfl⟩, .inl ⟨_, rfl, H0.out⟩⟩
theorem collect_none (w : World) :
    Calls Try.prog 25 #[.func (.func 33) #[] #[]] w fun r w' => ∃ v, r = .returned v ∧ w'.ownsRow w.heap.size 24 4 v 0 [] ∧ Below w.heap.size w w' :=
  collect_gen 33 _ [] w (appendSeq_gen 33 _ [] w (enters_of Try.func33 (by kernel_rfl) rfl) (fun W _ => merged1_seq _ _ W) (by simp))
/-- What Merge tells. -/
def mergeP (ls : List Sl) : List Cl := if allS ls then outM ls else []
set_option maxRecDepth 100000 in
theorem merge_any (m cp : Nat) (a : Option Addr) (ls : List Sl) (w : World) (hla : LA w.heap.size w a ls) (hl : ls.length = m) (hm : m < 800000) (hN : (outM ls).length * 48 ≤ 140737488355328) :
    Calls Try.prog 15 #[.slice a m cp] w fun r w' => ∃ v, r = .returned v ∧ w'.ownsRow w.heap.size 24 4 v (mergeP ls).length (flC (mergeP ls)) ∧ Below w.heap.size w w' := by
  have HM : Hid _ := merged_any _ m cp a ls w hla hl (Nat.le_refl _) (by omega)
  have HC : Hid (∀ W, W.heap[w.heap.size]? = some (.cells #[.slice a m cp] 32 (0, 0)) → Below w.heap.size w W → Calls Try.prog 25 #[.func (.func 34) #[] #[.pointer (some ⟨w.heap.size, 0, none⟩)]] W fun r w' => ∃ v, r = .returned v ∧ w'.ownsRow W.heap.size 24 4 v (outM ls).length (flC (outM ls)) ∧ Below W.heap.size W w') := fun W h0 bz =>
    collect_any _ m cp a ls W (Boxed.cell (t := 32) h0) ((hla.below (fun b hb => bz.block b hb)).up bz.size) hl hm hN
  have HC0 : Hid (∀ W : World, Calls Try.prog 25 #[.func (.func 33) #[] #[]] W fun r w' => ∃ v, r = .returned v ∧ w'.ownsRow W.heap.size 24 4 v 0 [] ∧ Below W.heap.size W w') := collect_none
  clear hla hl hN
  cases hls : allS ls with
  | true =>
    have HP : Hid (mergeP ls = outM ls) := by simp [Hid, mergeP, hls]
    rw [hls] at HM
    simp only [if_true] at HM
    clear hls HC0
    go_enter Try.func15, Try.ntmps15
    go_wp2_with (first
      | (go_at_call 26; refine Calls.mono HM.out ?_; rintro e w2 ⟨rfl, h2, b2⟩; have H2 : Hid _ := h2; have B2 : Hid _ := b2; clear h2 b2)
      | (go_at_call 25; refine Calls.mono (HC.out _ H2.out B2.out) ?_; rintro e w3 ⟨v, rfl, h3, b3⟩; have H3 : Hid (w3.ownsRow w.heap.size 24 4 v (mergeP ls).length (flC (mergeP ls))) := (by rw [HP.out]; exact row_base B2.out.size h3); have B3 : Hid _ := b3; clear h3 b3))
    go_ret
    exact ⟨_, rfl, H3.out, B2.out.trans (B3.out.mono B2.out.size)⟩
  | false =>
    have HP : Hid (mergeP ls = []) := by simp [Hid, mergeP, hls]
    rw [hls] at HM
    simp only [Bool.false_eq_true, if_false] at HM
    clear hls HC
    go_enter Try.func15, Try.ntmps15
    go_wp2_with (first
      | (go_at_call 26; refine Calls.mono HM.out ?_; rintro e w2 ⟨rfl, h2, b2⟩; have H2 : Hid _ := h2; have B2 : Hid _ := b2; clear h2 b2)
      | (go_at_call 25; refine Calls.mono (HC0.out _) ?_; rintro e w3 ⟨v, rfl, h3, b3⟩; have H3 : Hid (w3.ownsRow w.heap.size 24 4 v (mergeP ls).length (flC (mergeP ls))) := (by rw [HP.out]; exact row_base B2.out.size h3); have B3 : Hid _ := b3; clear h3 b3))
    go_ret
    exact ⟨_, rfl, H3.out, B2.out.trans (B3.out.mono B2.out.size)⟩
end Go.Proofs.Ytohamjoiohfoiaa
