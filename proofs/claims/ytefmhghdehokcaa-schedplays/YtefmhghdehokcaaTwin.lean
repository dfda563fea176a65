/-
  The twin's loop in memory; what is ready, waking, whether all are done.
-/
import Derived.Test.YtefmhghdehokcaaLooks
import Derived.Test.YtefmhghdehokcaaPure
namespace Go.Proofs.Ytefmhghdehokcaa
open Go.RowKit
/-- A twin's task: its block, its acts and where it stands in them, what it waits on, what it took down. -/
structure TT where
  y : Nat
  vA : Value
  acts : List (Int × Int)
  pos : Nat
  wait : Int
  vt : Value
  told : List Int
/-- A twin's loop. -/
structure TS where
  vP : Value
  picks : List Int
  vK : Value
  ticks : List Int
  vD : Value
  draws : List Int
  vT : Value
  ts : List TT
  clock : Int
  count : Nat
  used : Nat
  drawn : Nat
/-- A task's acts lie in blocks below lo. -/
def ActsLow (lo : Nat) (w : World) (v : Value) (la : List (Int × Int)) : Prop := ∃ a c, v = .slice a la.length c ∧ ∀ j y, la[j]? = some y → ∃ b off, a = some ⟨b, off, none⟩ ∧ b < lo ∧ w.cell? ⟨b, off + 2 * j, none⟩ = some (.int .i64 y.1) ∧ w.cell? ⟨b, off + 2 * j + 1, none⟩ = some (.int .i64 y.2)
structure TTAt (lo : Nat) (w : World) (t : TT) : Prop where
  hy : w.heap[t.y]? = some (.cells #[t.vA, .int .i64 (t.pos : Nat), .int .i64 t.wait, t.vt] 78 (0, 0))
  ge : lo ≤ t.y
  acts : ActsLow lo w t.vA t.acts
  told : w.ownsRow lo 45 1 t.vt t.told.length (t.told.map nV)
  pos : t.pos ≤ t.acts.length
def ttV (t : TT) : Value := .pointer (some ⟨t.y, 0, none⟩)
structure TW (w : World) (lo x : Nat) (T : TS) : Prop where
  hx : w.heap[x]? = some (.cells #[T.vP, T.vK, T.vD, T.vT, .int .u64 T.clock, .int .i64 (T.count : Nat), .int .i64 (T.used : Nat), .int .i64 (T.drawn : Nat)] 75 (0, 0))
  lox : lo ≤ x
  pk : RowAt lo w T.vP (T.picks.map iV)
  tk : RowAt lo w T.vK (T.ticks.map iV)
  dr : RowAt lo w T.vD (T.draws.map nV)
  row : w.ownsRow lo 76 1 T.vT T.ts.length (T.ts.map ttV)
  each : ∀ (i : Nat) (t : TT), T.ts[i]? = some t → TTAt lo w t
  apart : ∀ (i j : Nat) (t t' : TT), i ≠ j → T.ts[i]? = some t → T.ts[j]? = some t' → t.y ≠ t'.y ∧ ∀ g, t.vt.ownBlock = some g → t'.vt.ownBlock ≠ some g
/-- The twin's blocks. -/
def TFoot (x : Nat) (T : TS) (k : Nat) : Prop := k = x ∨ T.vT.ownBlock = some k ∨ ∃ (i : Nat) (t : TT), T.ts[i]? = some t ∧ (k = t.y ∨ t.vt.ownBlock = some k)
/-- The twin as numbers alone. -/
def TS.ps (T : TS) : PS where
  picks := T.picks.drop T.used
  ticks := T.ticks
  tasks := T.ts.map (fun t => (t.acts.drop t.pos, t.told))
  waits := T.ts.map (·.wait)
  steps := T.count
  now := T.clock
  draws := T.draws.drop T.drawn
  fu := T.drawn - T.draws.length
theorem ActsLow.kb {lo : Nat} {w w' : World} {v : Value} {la : List (Int × Int)} (h : ActsLow lo w v la) (k : ∀ b : Nat, b < lo → w'.heap[b]? = w.heap[b]?) : ActsLow lo w' v la := by
  obtain ⟨a, c, h1, h2⟩ := h
  refine ⟨a, c, h1, fun j y hj => ?_⟩
  obtain ⟨b, off, e1, e2, e3, e4⟩ := h2 j y hj
  refine ⟨b, off, e1, e2, ?_, ?_⟩ <;> (simp only [World.cell?] at e3 e4 ⊢; rw [k b e2]; assumption)
theorem TTAt.kb {lo : Nat} {w w' : World} {t : TT} {D : Nat → Prop} (h : TTAt lo w t) (k : Kb D w w') (hlo : lo ≤ w.heap.size) (hD : ∀ b, D b → lo ≤ b) (h1 : ¬ D t.y) (h2 : ∀ g, t.vt.ownBlock = some g → ¬ D g) : TTAt lo w' t where
  hy := (k.block t.y (Array.getElem?_eq_some_iff.1 h.hy).1 h1).trans h.hy
  ge := h.ge
  acts := h.acts.kb (fun b hb => k.block b (by omega) (fun e => by have := hD b e; omega))
  told := owns_same h.told (fun g e => k.block g (h.told.lt g e).2 (h2 g e))
  pos := h.pos
theorem TW.xs {w : World} {lo x : Nat} {T : TS} (h : TW w lo x T) : x < w.heap.size := (Array.getElem?_eq_some_iff.1 h.hx).1
/-- What is done elsewhere leaves the twin as it is. -/
theorem TW.kb {w w' : World} {lo x : Nat} {T : TS} {D : Nat → Prop} (h : TW w lo x T) (k : Kb D w w') (hD : ∀ b, D b → lo ≤ b) (h1 : ∀ b, D b → ¬ TFoot x T b) : TW w' lo x T := by
  have hxs := h.xs
  have hlo := h.lox
  have low : ∀ b : Nat, b < lo → w'.heap[b]? = w.heap[b]? := fun b hb => k.block b (by omega) (fun e => by have := hD b e; omega)
  have row : ∀ v l, RowAt lo w v l → RowAt lo w' v l := fun v l hr => by
    obtain ⟨a, c, e1, e2, e3⟩ := hr
    exact ⟨a, c, e1, e2.below low, e3⟩
  refine { hx := (k.block x hxs (fun e => h1 x e (Or.inl rfl))).trans h.hx, lox := hlo, pk := row _ _ h.pk, tk := row _ _ h.tk, dr := row _ _ h.dr, row := owns_same h.row (fun g e => k.block g (h.row.lt g e).2 (fun e2 => h1 g e2 (Or.inr (Or.inl e)))), each := fun i t hi => ?_, apart := h.apart }
  exact (h.each i t hi).kb k (by omega) hD (fun e => h1 _ e (Or.inr (Or.inr ⟨i, t, hi, Or.inl rfl⟩))) (fun g hg e => h1 _ e (Or.inr (Or.inr ⟨i, t, hi, Or.inr hg⟩)))
theorem TW.below {w w' : World} {lo x : Nat} {T : TS} (h : TW w lo x T) (k : Below w.heap.size w w') : TW w' lo x T := h.kb (Kb.of_below (S := fun _ => False) k) (fun _ e => e.elim) (fun _ e => e.elim)
theorem TW.foot {w : World} {lo x : Nat} {T : TS} (h : TW w lo x T) {k : Nat} (hk : TFoot x T k) : lo ≤ k ∧ k < w.heap.size ∧ ∃ c ty, w.heap[k]? = some (.cells c ty (0, 0)) ∧ (ty = 75 ∨ ty = 76 ∨ ty = 78 ∨ ty = 45) := by
  rcases hk with e | e | ⟨i, t, hi, e | e⟩
  · rw [e]; exact ⟨h.lox, h.xs, _, _, h.hx, Or.inl rfl⟩
  · obtain ⟨c, hc⟩ := row_block h.row e
    exact ⟨(h.row.lt k e).1, (h.row.lt k e).2, _, _, hc, Or.inr (Or.inl rfl)⟩
  · have h1 := h.each i t hi
    rw [e]; exact ⟨h1.ge, (Array.getElem?_eq_some_iff.1 h1.hy).1, _, _, h1.hy, Or.inr (Or.inr (Or.inl rfl))⟩
  · have h1 := h.each i t hi
    obtain ⟨c, hc⟩ := row_block h1.told e
    exact ⟨(h1.told.lt k e).1, (h1.told.lt k e).2, _, _, hc, Or.inr (Or.inr (Or.inr rfl))⟩
/-- Task j's cell of the row, and its wait. -/
theorem TW.at {w : World} {lo x : Nat} {T : TS} (h : TW w lo x T) {j : Nat} {t : TT} (hj : T.ts[j]? = some t) : ∃ g c, T.vT = .slice (some ⟨g, 0, none⟩) T.ts.length c ∧ w.cell? ⟨g, j, none⟩ = some (.pointer (some ⟨t.y, 0, none⟩)) ∧ w.cell? ⟨t.y, 0, none⟩ = some t.vA ∧ w.cell? ⟨t.y, 1, none⟩ = some (.int .i64 (t.pos : Nat)) ∧ w.cell? ⟨t.y, 2, none⟩ = some (.int .i64 t.wait) ∧ w.cell? ⟨t.y, 3, none⟩ = some t.vt := by
  obtain ⟨a, c, e⟩ := row_form h.row
  have ho := h.row
  rw [e] at ho
  obtain ⟨g, rfl, _, hc⟩ := row_cell ho (j := j) (x := ttV t) (by rw [List.getElem?_map, hj]; rfl)
  have hy := (h.each j t hj).hy
  refine ⟨g, c, e, hc, ?_, ?_, ?_, ?_⟩
  · have := cells_of_block hy 0; simpa using this
  · have := cells_of_block hy 1; simpa using this
  · have := cells_of_block hy 2; simpa using this
  · have := cells_of_block hy 3; simpa using this
theorem waits_at {T : TS} {j : Nat} {t : TT} (hj : T.ts[j]? = some t) : (T.ts.map (·.wait)).getD j 1 = t.wait := by
  rw [List.getD_eq_getElem?_getD, List.getElem?_map, hj]; rfl
set_option maxRecDepth 100000 in
set_option maxHeartbeats 2000000 in
/-- The twin's Ready. -/
theorem tready (lo x : Nat) (T : TS) (w : World) (h : TW w lo x T) (hn : T.ts.length ≤ 64) :
    Calls Try.prog 39 #[.pointer (some ⟨x, 0, none⟩)] w fun r w' => ∃ v, r = .returned v ∧ w'.ownsRow w.heap.size 3 1 v (readyL T.ps.waits).length ((readyL T.ps.waits).map nI) ∧ Below w.heap.size w w' := by
  obtain ⟨i0, hi, hz0, hz1, hz2⟩ := info_parts info3
  obtain ⟨n, hnn⟩ : ∃ n, T.ts.length = n := ⟨_, rfl⟩
  rw [hnn] at hn
  obtain ⟨aT, cT, hvT⟩ := row_form h.row
  rw [hnn] at hvT
  have c3 : w.cell? ⟨x, 3, none⟩ = some (.slice aT n cT) := by have := cells_of_block h.hx 3; rw [hvT] at this; simpa using this
  have hxs := h.xs
  have HH : Hid (TW w lo x T) := h
  have HVT : Hid _ := hvT
  have HNN : Hid _ := hnn
  have HWL : Hid (T.ps.waits.length = n) := by show (T.ts.map (·.wait)).length = n; rw [List.length_map, hnn]
  obtain ⟨ws, hws⟩ : ∃ ws, T.ps.waits = ws := ⟨_, rfl⟩
  have HWS : Hid _ := hws
  rw [hws] at HWL
  rw [hws]
  clear h hvT hnn hws
  go_enter Try.func39, Try.ntmps39
  go_wp2_with fail
  go_loopw [3, 4] (fun v i wr => ∃ j : Nat, j ≤ n ∧ i = .int .i64 (j : Nat) ∧ Hid (wr.ownsRow w.heap.size 3 1 v (readyTo ws j).length ((readyTo ws j).map nI)) ∧ Hid (Below w.heap.size w wr)) (fun _ i _ => n - (intOf i).toNat)
  case atStart => exact ⟨0, by omega, rfl, World.ownsRow_nil _ _ _ _, Below.refl _ _⟩
  case round =>
    obtain ⟨j, hj, rfl, HR, HB⟩ := hrel
    have cx : wr.cell? ⟨x, 3, none⟩ = some (.slice aT n cT) := (HB.out.cell (p := ⟨x, 3, none⟩) hxs).trans c3
    by_cases hlt : j < n
    · obtain ⟨t, ht⟩ : ∃ t, T.ts[j]? = some t := ⟨T.ts[j]'(by rw [HNN.out]; exact hlt), List.getElem?_eq_getElem _⟩
      obtain ⟨g, c, e1, d0, _, _, d2, _⟩ := HH.out.at ht
      rw [HVT.out] at e1
      cases e1
      have hgd : ws.getD j 1 = t.wait := by rw [← HWS.out]; exact waits_at ht
      have k0 : wr.cell? ⟨g, j, none⟩ = some (.pointer (some ⟨t.y, 0, none⟩)) := (HB.out.cell (p := ⟨g, j, none⟩) (World.block_lt_of_cell? w _ d0)).trans d0
      have k2 : wr.cell? ⟨t.y, 2, none⟩ = some (.int .i64 t.wait) := (HB.out.cell (p := ⟨t.y, 2, none⟩) (World.block_lt_of_cell? w _ d2)).trans d2
      obtain ⟨xv, hxv⟩ : ∃ xv, t.wait = xv := ⟨_, rfl⟩
      obtain ⟨yv, hyv⟩ : ∃ yv, t.y = yv := ⟨_, rfl⟩
      rw [hxv] at hgd k2
      rw [hyv] at k0 k2
      have HGD : Hid _ := hgd
      obtain ⟨m, hm⟩ : ∃ m, (readyTo ws j).length = m := ⟨_, rfl⟩
      have HM : Hid _ := hm
      have hml : m ≤ j := by rw [← hm]; exact readyTo_len ws j
      clear hgd hm d0 d2 ht hxv hyv
      by_cases h0 : xv = 0
      · have h0' : (xv == 0) = true := by simp [h0]
        have hrow : wr.ownsRow w.heap.size 3 1 u3 m ((readyTo ws j).map nI) := by rw [← HM.out]; exact HR.out
        obtain ⟨a3, c3', rfl⟩ := row_form hrow
        have HRW : Hid _ := hrow
        have hra : Hid (∀ o, (wr.alloc o).ownsRow w.heap.size 3 1 (.slice a3 m c3') m ((readyTo ws j).map nI)) := fun o => World.ownsRow.alloc HRW.out o
        have hsz := HB.out.size
        clear hrow
        go_wp2_with (at_builtin; refine wpList_append_own _ rfl (.tmp 25) (.tmp 27) 22 rfl w.heap.size 3 i0 (.int .i64 0) 1 8 Try.underlying22 hi hz0 hz1 hz2 rfl (by decide) _ _ _ rfl (hra.out _) ⟨wr.heap.size, 0, none⟩ 1 1 [.int .i64 (j : Nat)] rfl rfl (cell_one_new _ _ _) (by simp [Value.oneCell']) (by unfold maxLen; omega) (by omega) (by simp; omega) ?_)
        intro v2 w2 hown2 hg2 _
        have HO : Hid (w2.ownsRow w.heap.size 3 1 v2 (readyTo ws (j + 1)).length ((readyTo ws (j + 1)).map nI)) := by
          rw [Hid, readyTo_succ, if_pos (by rw [HGD.out]; exact h0'), List.length_append, List.map_append, HM.out]
          exact hown2
        have HB2 : Hid (Below w.heap.size w w2) := (HB.out.alloc hsz _).grown hg2 (by simp; omega) (fun i hi => (World.ownsRow.lt HRW.out i hi).1)
        clear hown2 hg2
        go_wp2_with fail
        go_roundw
        case rel => exact ⟨j + 1, by omega, by go_num, HO.out, HB2.out⟩
        case measure => simp [intOf]; omega
      · have h0' : (xv == 0) = false := by simp [h0]
        have HO : Hid (wr.ownsRow w.heap.size 3 1 u3 (readyTo ws (j + 1)).length ((readyTo ws (j + 1)).map nI)) := by
          rw [Hid, readyTo_succ, if_neg (by rw [HGD.out]; simp [h0])]
          exact HR.out
        go_wp2_with fail
        go_roundw
        case rel => exact ⟨j + 1, by omega, by go_num, HO.out, HB.out⟩
        case measure => simp [intOf]; omega
    · obtain rfl : j = n := by omega
      have hrl : readyTo ws j = readyL ws := by unfold readyL; rw [HWL.out]
      have HRL : Hid _ := hrl
      clear hrl
      go_wp2_with fail
      go_ret
      exact ⟨_, rfl, by rw [← HRL.out]; exact HR.out, HB.out⟩
set_option maxRecDepth 100000 in
set_option maxHeartbeats 2000000 in
/-- The twin's Done. -/
theorem tdone (lo x : Nat) (T : TS) (w : World) (h : TW w lo x T) (hn : T.ts.length ≤ 64) :
    Calls Try.prog 40 #[.pointer (some ⟨x, 0, none⟩)] w fun r w' => r = .returned (.bool (T.ps.waits.all (fun y => decide (y < 0)))) ∧ w' = w := by
  obtain ⟨n, hnn⟩ : ∃ n, T.ts.length = n := ⟨_, rfl⟩
  rw [hnn] at hn
  obtain ⟨aT, cT, hvT⟩ := row_form h.row
  rw [hnn] at hvT
  have c3 : w.cell? ⟨x, 3, none⟩ = some (.slice aT n cT) := by have := cells_of_block h.hx 3; rw [hvT] at this; simpa using this
  have HH : Hid (TW w lo x T) := h
  have HVT : Hid _ := hvT
  have HNN : Hid _ := hnn
  clear h hvT hnn
  go_enter Try.func40, Try.ntmps40
  go_wp2_with fail
  go_loop [3] (fun i => ∃ j : Nat, j ≤ n ∧ i = .int .i64 (j : Nat) ∧ Hid (∀ (k : Nat) t, k < j → T.ts[k]? = some t → t.wait < 0)) (fun i => n - (intOf i).toNat)
  case atStart => exact ⟨0, by omega, rfl, fun k t hk => by omega⟩
  case round =>
    obtain ⟨j, hj, rfl, HE⟩ := hrel
    by_cases hlt : j < n
    · obtain ⟨t, ht⟩ : ∃ t, T.ts[j]? = some t := ⟨T.ts[j]'(by rw [HNN.out]; exact hlt), List.getElem?_eq_getElem _⟩
      obtain ⟨g, c, e1, d0, _, _, d2, _⟩ := HH.out.at ht
      rw [HVT.out] at e1
      cases e1
      have HTT : Hid _ := ht
      obtain ⟨xv, hxv⟩ : ∃ xv, t.wait = xv := ⟨_, rfl⟩
      obtain ⟨yv, hyv⟩ : ∃ yv, t.y = yv := ⟨_, rfl⟩
      rw [hxv] at d2
      rw [hyv] at d0 d2
      have HXV : Hid _ := hxv
      clear ht hxv hyv
      by_cases h0 : 0 ≤ xv
      · have HF : Hid (T.ps.waits.all (fun y => decide (y < 0)) = false) := by
          rw [Hid, List.all_eq_false]
          exact ⟨t.wait, List.mem_map.2 ⟨t, List.mem_of_getElem? HTT.out, rfl⟩, by rw [HXV.out]; simp; omega⟩
        go_wp2_with fail
        go_ret
        exact ⟨by rw [HF.out]; rfl, rfl⟩
      · go_wp2_with fail
        go_round
        case rel =>
          refine ⟨j + 1, by omega, by go_num, fun k t' hk hk2 => ?_⟩
          by_cases hkj : k < j
          · exact HE.out k t' hkj hk2
          · obtain rfl : k = j := by omega
            rw [HTT.out] at hk2
            cases hk2
            rw [HXV.out]; omega
        case measure => simp [intOf]; omega
    · obtain rfl : j = n := by omega
      have HF : Hid (T.ps.waits.all (fun y => decide (y < 0)) = true) := by
        rw [Hid, List.all_eq_true]
        intro y hy
        obtain ⟨t, ht, rfl⟩ := List.mem_map.1 hy
        obtain ⟨k, hk⟩ := List.mem_iff_getElem?.1 ht
        have := HE.out k t (by have := (List.getElem?_eq_some_iff.1 hk).1; have := HNN.out; omega) hk
        simpa using this
      go_wp2_with fail
      go_ret
      exact ⟨by rw [HF.out]; rfl, rfl⟩
end Go.Proofs.Ytefmhghdehokcaa
