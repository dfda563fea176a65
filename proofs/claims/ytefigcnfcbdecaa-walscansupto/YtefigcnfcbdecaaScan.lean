/-
  The contract of Scan: the records of any bytes, where the last one ends, and how the log ends.
-/
import Derived.Test.YtefigcnfcbdecaaRecords
import Derived.RangeFuncBox
namespace Go.Proofs.Ytefigcnfcbdecaa
open Go.RowKit Go.Shelf
attribute [local go_sem] Oper.semAt_some
theorem info9 : (Try.prog.info? 9).map (fun i => (i.zero, i.size, i.bytes)) = some (some (.string ByteArray.empty), 1, 16) := by kernel_rfl
def textV (r : Rec) : Value := .string ⟨r.1.toArray⟩
def endOf (rs : List Rec) : Nat := match rs.getLast? with
  | some r => r.2
  | none => 0
theorem endOf_snoc (rs : List Rec) (r : Rec) : endOf (rs ++ [r]) = r.2 := by simp [endOf]
/-- What the loop of Scan holds. -/
def ScanI (w : World) (s : Nat) (pre : List Rec) (W : World) : Prop :=
  (∃ v, Boxed W s 22 v ∧ W.ownsRow s 9 1 v pre.length (pre.map textV)) ∧ Boxed W (s + 1) 3 (.int .i64 (endOf pre : Nat)) ∧ Below s w W
theorem scanI_mv {w : World} {s : Nat} (hs : s = w.heap.size) : ∀ pre A B, ScanI w s pre A → Mv (s + 2) A B → ScanI w s pre B := by
  rintro pre A B ⟨⟨v, hv, hr⟩, he, hb⟩ ⟨hk, c, f, hc⟩
  refine ⟨⟨v, (hk.block s hv.lt (by omega)).trans hv, owns_same hr (fun g hg => ?_)⟩, (hk.block (s + 1) he.lt (by omega)).trans he, hb.trans (hk.below (by omega) (by rw [hs]; exact hb.size))⟩
  refine hk.block g (hr.lt g hg).2 (fun e => ?_)
  subst e
  rcases hr.2 with ⟨rfl, _⟩ | ⟨g', cap, cur, rfl, _, hh, _⟩
  · cases hg
  · simp only [Value.ownBlock, Option.some.injEq] at hg
    subst hg
    rw [hc] at hh
    simp at hh
theorem scanI_own {w : World} {s B : Nat} (hs : s = w.heap.size) (hB : s ≤ B) : OwnFrom B (ScanI w s) := by
  rintro pre A A' row ⟨⟨v, hv, hr⟩, he, hb⟩ hg hrow
  refine ⟨⟨v, (own_block hv hg hrow).trans hv, ?_⟩, (own_block he hg hrow).trans he, ?_⟩
  · rcases hr.2 with ⟨rfl, _⟩ | ⟨g', cap, cur, rfl, _, hh, _⟩
    · exact owns_same hr (fun g hg => by cases hg)
    · exact owns_same hr (fun g hg' => by
        simp only [Value.ownBlock, Option.some.injEq] at hg'
        subst hg'
        exact own_block hh hg hrow)
  · exact hb.grown hg (by rw [hs]; exact hb.size) (fun k e => Nat.le_trans hB (hrow k e).1)
theorem form9 {w : World} {base : Nat} {v : Value} {n : Nat} {xs : List Value} (h : w.ownsRow base 9 1 v n xs) : ∃ a cap, v = .slice a n cap := by
  rcases h.2 with ⟨rfl, hn⟩ | ⟨g, cap, cur, rfl, _⟩
  · exact ⟨none, 0, by rw [hn]⟩
  · exact ⟨_, _, rfl⟩
theorem recs_len (l : List UInt8) : ∀ g t, t ≤ l.length → t + (recsR l g t).1.length ≤ l.length
  | 0, t, h => h
  | g + 1, t, h => by
    rw [recsR]
    cases hn : nextR l (l.length + 1) t false [] with
    | inl e => exact h
    | inr f =>
      obtain ⟨rec, t'⟩ := f
      have hb := next_bounds hn
      have := recs_len l g t' hb.2
      simp only [List.length_cons]
      omega
theorem scan_len (l : List UInt8) : (scanL l).1.length ≤ l.length := by
  have := recs_len l (l.length + 1) 0 (Nat.zero_le _)
  unfold scanL
  omega
/-- One round of Scan's loop, behind the append. -/
theorem scan_step {w W w2 : World} {s cap : Nat} {a : Option Addr} {l : List UInt8} {pre : List Rec} {r : Rec} {v v2 : Value} {tmp : Obj} (hs : s = w.heap.size) (h : BytesAt w a l)
    (hv : Boxed W s 22 v) (hrow : W.ownsRow s 9 1 v pre.length (pre.map textV)) (hend : Boxed W (s + 1) 3 (.int .i64 (endOf pre : Nat))) (hB : Below s w W) (hT : At (s + 2) a cap l (pre ++ [r]) W)
    (hown2 : w2.ownsRow s 9 1 v2 (pre.length + 1) (pre.map textV ++ [textV r])) (hg2 : (W.alloc tmp).grownBy w2 v.ownBlock) :
    ∃ g2 c2, v2 = .slice (some ⟨g2, 0, none⟩) (pre.length + 1) c2 ∧ w2.cell? ⟨s, 0, none⟩ = some v ∧ w2.frozen? ⟨s, 0, none⟩ = false ∧ (w2.setCell ⟨s, 0, none⟩ v2).cell? ⟨s + 1, 0, none⟩ = some (.int .i64 (endOf pre : Nat)) ∧ (w2.setCell ⟨s, 0, none⟩ v2).frozen? ⟨s + 1, 0, none⟩ = false ∧
      Hid (KeepsOthers W ((w2.setCell ⟨s, 0, none⟩ v2).setCell ⟨s + 1, 0, none⟩ (.int .i64 (r.2 : Nat))) ∧ At (s + 2) a cap l (pre ++ [r]) ((w2.setCell ⟨s, 0, none⟩ v2).setCell ⟨s + 1, 0, none⟩ (.int .i64 (r.2 : Nat))) ∧ ScanI w s (pre ++ [r]) ((w2.setCell ⟨s, 0, none⟩ v2).setCell ⟨s + 1, 0, none⟩ (.int .i64 (r.2 : Nat)))) := by
  obtain ⟨⟨t, g, a1, a2, a3, a4, a5, hx⟩, hbt⟩ := hT
  have hsW : s ≤ W.heap.size := by have := hB.size; omega
  have hxr : some (s + 2) ≠ v.ownBlock := by
    intro e
    rcases hrow.2 with ⟨ev, _⟩ | ⟨g', cap', cur, ev, _, hh, _⟩
    · rw [ev] at e; cases e
    · rw [ev] at e
      simp only [Value.ownBlock, Option.some.injEq] at e
      subst e
      rw [hx] at hh
      simp at hh
  have her := hend.not_row (by decide) hrow
  obtain ⟨hv1, hv2, hr2, hko, hbe⟩ := Boxed.appended hv (by decide) hrow hsW (Nat.le_refl _) hown2 hg2
  have he2 : Boxed (w2.setCell ⟨s, 0, none⟩ v2) (s + 1) 3 (.int .i64 (endOf pre : Nat)) := (Below.heap_setCell _ _ _ _ (show s + 1 ≠ s by omega)).trans ((hend.alloc _).kept hg2 her)
  have hx2 : w2.heap[s + 2]? = W.heap[s + 2]? := by
    have hlt := (Array.getElem?_eq_some_iff.1 hx).1
    exact (hg2.block (s + 2) (by simp; omega) hxr).trans (Below.heap_alloc _ _ _ hlt)
  have he3 := he2.set (.int .i64 (r.2 : Nat))
  have hv3 : Boxed ((w2.setCell ⟨s, 0, none⟩ v2).setCell ⟨s + 1, 0, none⟩ (.int .i64 (r.2 : Nat))) s 22 v2 := (Below.heap_setCell _ _ _ _ (show s ≠ s + 1 by omega)).trans hv2
  have hr3 : ((w2.setCell ⟨s, 0, none⟩ v2).setCell ⟨s + 1, 0, none⟩ (.int .i64 (r.2 : Nat))).ownsRow s 9 1 v2 (pre.length + 1) (pre.map textV ++ [textV r]) := owns_same hr2 (fun g hg => Below.heap_setCell _ _ _ _ (show g ≠ s + 1 from fun e => he2.not_row (by decide) hr2 (by rw [hg, e])))
  have hB3 : Below s w ((w2.setCell ⟨s, 0, none⟩ v2).setCell ⟨s + 1, 0, none⟩ (.int .i64 (r.2 : Nat))) := (hB.trans hbe).setCell (p := ⟨s + 1, 0, none⟩) (by show s ≤ s + 1; omega) _
  have hx3 : ((w2.setCell ⟨s, 0, none⟩ v2).setCell ⟨s + 1, 0, none⟩ (.int .i64 (r.2 : Nat))).heap[s + 2]? = W.heap[s + 2]? := (Below.heap_setCell _ _ _ _ (show s + 2 ≠ s + 1 by omega)).trans ((Below.heap_setCell _ _ _ _ (show s + 2 ≠ s by omega)).trans hx2)
  obtain ⟨g2, c2, e2⟩ := ownsRow_succ hown2
  refine ⟨g2, c2, e2, by have := cells_of_block hv1 0; simpa using this, by simp [World.frozen?, show w2.heap[s]? = _ from hv1], by have := cells_of_block he2 0; simpa using this, by simp [World.frozen?, show (w2.setCell ⟨s, 0, none⟩ v2).heap[s + 1]? = _ from he2], ?_⟩
  refine ⟨hko.trans (KeepsOthers.setCell _ _ _), ⟨⟨t, g, a1, a2, a3, a4, a5, hx3.trans hx⟩, h.below (Nat.le_refl _) (by rw [← hs]; exact hB3)⟩, ⟨v2, hv3, ?_⟩, ?_, hB3⟩
  · rw [List.length_append, List.map_append]
    exact hr3
  · rw [endOf_snoc]
    exact he3
set_option maxRecDepth 100000 in
set_option maxHeartbeats 4000000 in
theorem scan_any (a : Option Addr) (cap : Nat) (l : List UInt8) (w : World) (h : BytesAt w a l) (hN16 : l.length * 16 ≤ 140737488355328) (hcap : l.length ≤ cap) (hc0 : a = none → cap = 0) (hsp : ∀ ad, a = some ad → ad.spot = none ∨ cap = 0) :
    Calls Try.prog 17 #[.slice a l.length cap] w fun r w' => ∃ v, r = .returned (.tuple #[v, .int .i64 (endOf (scanL l).1 : Nat), .int .i64 ((scanL l).2 : Nat)]) ∧ w'.ownsRow w.heap.size 9 1 v (scanL l).1.length ((scanL l).1.map textV) ∧ Below w.heap.size w w' := by
  obtain ⟨i0, hi, hz0, hz1, hz2⟩ := info_parts info9
  have hN : l.length ≤ 140737488355328 := by omega
  refine callsIn_wide.1 (callsIn_of_wp_marks (F := Fence.wide) (n := 8) Try.func17 rfl trivial ?_ rfl)
  refine wpIn_wide.2 ?_
  simp only [Try.ntmps17, List.size_toArray, List.length_cons, List.length_nil, Nat.reduceAdd, Nat.reduceSub, Array.replicate_succ, Array.replicate_zero, List.push_toArray, List.append_toArray, List.nil_append, List.cons_append]
  go_wp2_with fail
  have hne : l ≠ [] → ∀ ad, a = some ad → ad.block ≠ w.heap.size + 2 := by
    intro hl ad ha
    cases l with
    | nil => exact absurd rfl hl
    | cons u us =>
      obtain ⟨b, off, e, hb, _⟩ := h 0 u rfl
      rw [ha] at e
      cases e
      show b ≠ _
      omega
  have HSQ := records_seq 7 (by omega) (w.heap.size + 2) a cap l hN hcap hc0 hsp hne
  obtain ⟨s, hs⟩ : ∃ s, w.heap.size = s := ⟨_, rfl⟩
  have B0 : Below s w (((w.alloc (.cells #[.slice none 0 0] 22)).alloc (.cells #[.int .i64 0] 3)).alloc (.cells #[.slice a l.length cap, .int .i64 0, .int .i64 0] 62)) := by
    rw [← hs]
    exact (((Below.refl _ w).alloc (Nat.le_refl _) _).alloc (by simp) _).alloc (by simp; omega) _
  have hb0 : BytesAt (((w.alloc (.cells #[.slice none 0 0] 22)).alloc (.cells #[.int .i64 0] 3)).alloc (.cells #[.slice a l.length cap, .int .i64 0, .int .i64 0] 62)) a l := h.below (Nat.le_refl _) (by rw [hs]; exact B0)
  have q0 : (((w.alloc (.cells #[.slice none 0 0] 22)).alloc (.cells #[.int .i64 0] 3)).alloc (.cells #[.slice a l.length cap, .int .i64 0, .int .i64 0] 62)).heap[s]? = some (.cells #[.slice none 0 0] 22 (0, 0)) := by
    rw [← hs, Below.heap_alloc _ _ _ (by simp; omega), Below.heap_alloc _ _ _ (by simp)]
    exact World.alloc_heap_new _ _
  have q1 : (((w.alloc (.cells #[.slice none 0 0] 22)).alloc (.cells #[.int .i64 0] 3)).alloc (.cells #[.slice a l.length cap, .int .i64 0, .int .i64 0] 62)).heap[s + 1]? = some (.cells #[.int .i64 0] 3 (0, 0)) := by
    rw [Below.heap_alloc _ _ _ (by simp; omega)]
    have := World.alloc_heap_new (w.alloc (.cells #[.slice none 0 0] 22)) (.cells #[.int .i64 0] 3)
    rw [World.size_alloc, hs] at this
    exact this
  have q2 : (((w.alloc (.cells #[.slice none 0 0] 22)).alloc (.cells #[.int .i64 0] 3)).alloc (.cells #[.slice a l.length cap, .int .i64 0, .int .i64 0] 62)).heap[s + 2]? = some (.cells #[.slice a l.length cap, .int .i64 0, .int .i64 0] 62 (0, 0)) := by
    have := World.alloc_heap_new ((w.alloc (.cells #[.slice none 0 0] 22)).alloc (.cells #[.int .i64 0] 3)) (.cells #[.slice a l.length cap, .int .i64 0, .int .i64 0] 62)
    rw [World.size_alloc, World.size_alloc, hs] at this
    exact this
  have hsz : (((w.alloc (.cells #[.slice none 0 0] 22)).alloc (.cells #[.int .i64 0] 3)).alloc (.cells #[.slice a l.length cap, .int .i64 0, .int .i64 0] 62)).heap.size = s + 3 := by simp; omega
  rw [hs] at HSQ ⊢
  generalize (((w.alloc (.cells #[.slice none 0 0] 22)).alloc (.cells #[.int .i64 0] 3)).alloc (.cells #[.slice a l.length cap, .int .i64 0, .int .i64 0] 62)) = W0 at *
  have HI0 : ScanI w s [] W0 := ⟨⟨.slice none 0 0, q0, World.ownsRow_nil _ _ _ _⟩, q1, B0⟩
  have HT0 : At (s + 2) a cap l [] W0 := ⟨⟨0, l.length + 1, rfl, rfl, by omega, by omega, fun e => absurd rfl e, q2⟩, hb0⟩
  have HLN : (scanL l).1.length ≤ l.length := scan_len l
  clear q0 q1 q2 B0 hb0
  refine (wpIn_wide (n := 8)).1 ?_
  refine wpIn_rangeFunc_state rfl (by omega) (gf := 25) (pa := #[.pointer (some ⟨s + 2, 0, none⟩)]) (lb := #[]) rfl trivial (enters_of Try.func25 (by kernel_rfl) rfl) (fun A B hm => hm.others) HSQ (fun _ => rfl)
    (ScanI w s) (fun _ _ _ => False) (scanI_own hs.symm (by omega)) (fun _ _ _ _ _ h _ _ => h) (at_own _) (end_own _) (scanI_mv hs.symm) (fun _ _ _ _ h _ => h) HI0 HT0
    (fun r => { tmps := #[.slice a l.length cap, undef, .pointer (some ⟨s, 0, none⟩), .pointer (some ⟨s + 1, 0, none⟩), .int .i64 0, .pointer (some ⟨s + 1 + 1, 0, none⟩), .int .i64 (r.2 : Nat), .string ⟨r.1.toArray⟩, .slice a l.length cap, .agg #[.slice a l.length cap, .int .i64 0, .int .i64 0], .func (.func 25) #[.pointer (some ⟨s + 1 + 1, 0, none⟩)] #[], .int .i64 (r.2 : Nat), .string ⟨r.1.toArray⟩, undef, undef, undef, undef, undef, undef, undef, undef, undef], defers := [] }) ?assign ?body ?done ?stop
  case assign =>
    intro lp r W K hK
    simp only [encR]
    gi_wp2
    exact hK
  case body =>
    rintro lp pre r W ⟨⟨v, hv, hrow⟩, hend, hB⟩ hT hlen
    obtain ⟨va, vc, rfl⟩ := form9 hrow
    have cv : W.cell? ⟨s, 0, none⟩ = some (.slice va pre.length vc) := by have := cells_of_block hv 0; simpa using this
    have ce := cells_of_block hend 0
    simp only [List.getElem?_toArray, List.getElem?_cons_zero] at ce
    have hsW : s ≤ W.heap.size := by have := hB.size; omega
    have hpl : (pre.length + 1) * 16 ≤ 140737488355328 := by omega
    have HSS : Hid (∀ (w2 : World) (v2 : Value) (tmp : Obj), w2.ownsRow s 9 1 v2 (pre.length + 1) (pre.map textV ++ [textV r]) → (W.alloc tmp).grownBy w2 (Value.slice va pre.length vc).ownBlock → _) := fun w2 v2 tmp k1 k2 => scan_step hs.symm h hv hrow hend hB hT k1 k2
    have HRA : Hid ((W.alloc (.cells #[.string ⟨r.1.toArray⟩] 9)).ownsRow s 9 1 (.slice va pre.length vc) pre.length (pre.map textV)) := hrow.alloc _
    clear hv hend hT hrow
    gi_wp2_with (gi_at_builtin; refine wpListIn_append_own _ rfl (.tmp 13) (.tmp 15) 22 rfl s 9 i0 (.string ByteArray.empty) 1 16 Try.underlying22 hi hz0 hz1 hz2 rfl (by decide) _ _ _ rfl HRA.out ⟨W.heap.size, 0, none⟩ 1 1 [.string ⟨r.1.toArray⟩] rfl rfl (cell_one_new _ _ _) (by simp [Value.oneCell']) (by unfold maxLen; omega) (by omega) (by simp; omega) ?_; intro v2 w2 hown2 hg2 hnn; obtain ⟨g2, c2, rfl, k1, k2, k3, k4, HF⟩ := HSS.out w2 v2 _ hown2 hg2; clear hown2 hg2 hnn)
    exact HF.out
  case done =>
    rintro D xs W hD ⟨rfl, t, hx⟩ ⟨⟨v, hv, hrow⟩, hend, hB⟩ hK
    obtain ⟨va, vc, rfl⟩ := form9 hrow
    have cv : W.cell? ⟨s, 0, none⟩ = some (.slice va (scanL l).1.length vc) := by have := cells_of_block hv 0; simpa using this
    have ce : W.cell? ⟨s + 1, 0, none⟩ = some (.int .i64 (endOf (scanL l).1 : Nat)) := by have := cells_of_block hend 0; simpa using this
    have cw : W.cell? ⟨s + 1 + 1, 2, none⟩ = some (.int .i64 ((scanL l).2 : Nat)) := by have := cells_of_block hx 2; simpa using this
    have f0 : W.frozen? ⟨s, 0, none⟩ = false := by simp [World.frozen?, show W.heap[s]? = _ from hv]
    have f1 : W.frozen? ⟨s + 1, 0, none⟩ = false := by simp [World.frozen?, show W.heap[s + 1]? = _ from hend]
    have HV : Hid _ := hv
    have HE : Hid _ := hend
    have HX : Hid _ := hx
    have HRW : Hid _ := hrow
    have HK : Hid _ := hK
    clear hv hend hx hrow hK HI0 HT0 HSQ
    go_wp2_with fail
    go_region
    go_wp2_with fail
    obtain ⟨V, hV⟩ : ∃ V, (W.setCell ⟨s, 0, none⟩ (.slice va (scanL l).1.length vc)).setCell ⟨s + 1, 0, none⟩ (.int .i64 (endOf (scanL l).1 : Nat)) = V := ⟨_, rfl⟩
    have hDs : D ≠ s ∧ D ≠ s + 1 := by omega
    have hVs : ∀ k, k ≠ s → k ≠ s + 1 → V.heap[k]? = W.heap[k]? := fun k h1 h2 => by rw [← hV]; exact (Below.heap_setCell _ _ _ _ h2).trans (Below.heap_setCell _ _ _ _ h1)
    have hKV : V.heap[D]? = some (.deferred (some [])) := (hVs D hDs.1 hDs.2).trans HK.out
    have hv5 : Boxed V s 22 (.slice va (scanL l).1.length vc) := by rw [← hV]; exact (Below.heap_setCell _ _ _ _ (show s ≠ s + 1 by omega)).trans (Boxed.set _ HV.out)
    have he5 : Boxed V (s + 1) 3 (.int .i64 (endOf (scanL l).1 : Nat)) := by rw [← hV]; exact Boxed.set _ ((Below.heap_setCell _ _ _ _ (show s + 1 ≠ s by omega)).trans HE.out)
    have hr5 : V.ownsRow s 9 1 (.slice va (scanL l).1.length vc) (scanL l).1.length ((scanL l).1.map textV) := owns_same HRW.out (fun g hg => hVs g (fun e => Boxed.not_row HV.out (by decide) HRW.out (by rw [hg, e])) (fun e => Boxed.not_row HE.out (by decide) HRW.out (by rw [hg, e])))
    have hB5 : Below s w V := by rw [← hV]; exact (hB.setCell (p := ⟨s, 0, none⟩) (Nat.le_refl _) _).setCell (p := ⟨s + 1, 0, none⟩) (by show s ≤ s + 1; omega) _
    rw [hV]
    refine ⟨by simp, .inl ⟨_, _, rfl, run_takeDeferred (show V.drew.heap[D]? = _ from hKV), ?_⟩⟩
    have hp : ∀ k, k ≠ D → (V.drew.putObj D (.deferred none)).heap[k]? = V.heap[k]? := fun k hk => World.putObj_heap_other hk
    have hc5 : (V.drew.putObj D (.deferred none)).cell? ⟨s, 0, none⟩ = some (.slice va (scanL l).1.length vc) := by have := cells_of_block ((hp s (fun e => hDs.1 e.symm)).trans hv5) 0; simpa using this
    have hc6 : (V.drew.putObj D (.deferred none)).cell? ⟨s + 1, 0, none⟩ = some (.int .i64 (endOf (scanL l).1 : Nat)) := by have := cells_of_block ((hp (s + 1) (fun e => hDs.2 e.symm)).trans he5) 0; simpa using this
    refine ⟨.tuple #[.slice va (scanL l).1.length vc, .int .i64 (endOf (scanL l).1 : Nat), .int .i64 ((scanL l).2 : Nat)], ?_, _, rfl, ?_, ?_⟩
    · simp [results, Try.f17, go_sem, hc5, hc6]
    · rw [hs]
      exact ownsRow_putObj (W := V.drew) hr5 _ hKV rfl
    · rw [hs]
      exact hB5.drew.trans (belowK_b (w := w) (by omega) V.drew D _ _ (by omega) hKV rfl rfl)
  case stop =>
    rintro D c pre W _ _ h _
    exact h.elim
end Go.Proofs.Ytefigcnfcbdecaa
