/-
  The twin's loop turned: one of its tasks, its own numbers; waking; drawing.
-/
import Derived.Test.YtefmhghdehokcaaTwin
namespace Go.Proofs.Ytefmhghdehokcaa
open Go.RowKit
theorem ttV_set {l : List TT} {i : Nat} {t t' : TT} (hti : l[i]? = some t) (hy : t'.y = t.y) : (l.set i t').map ttV = l.map ttV := by
  have hil := (List.getElem?_eq_some_iff.1 hti).1
  rw [List.map_set, show ttV t' = ttV t by simp [ttV, hy]]
  refine List.ext_getElem? fun j => ?_
  rw [List.getElem?_set]
  split
  · rename_i e
    subst e
    rw [List.getElem?_map, hti]
    simp [hil]
  · rfl
/-- One task of the twin turned. -/
theorem TW.put {w w' : World} {lo x i : Nat} {T : TS} {t t' : TT} (h : TW w lo x T) (hti : T.ts[i]? = some t) (hy : t'.y = t.y) (ht' : TTAt lo w' t') (k : Kb (fun b => b = t.y ∨ t.vt.ownBlock = some b) w w') (lies : t'.vt.ownBlock = t.vt.ownBlock ∨ ∃ g, t'.vt.ownBlock = some g ∧ w.heap.size ≤ g) : TW w' lo x { T with ts := T.ts.set i t' } := by
  have hlo := h.lox
  have hxs := h.xs
  have htt := h.each i t hti
  have hil := (List.getElem?_eq_some_iff.1 hti).1
  have D : ∀ b : Nat, (b = t.y ∨ t.vt.ownBlock = some b) → lo ≤ b := fun b e => by
    rcases e with e | e
    · have := htt.ge; omega
    · exact (htt.told.lt b e).1
  have low : ∀ b : Nat, b < lo → w'.heap[b]? = w.heap[b]? := fun b hb => k.block b (by omega) (fun e => by have := D b e; omega)
  have row : ∀ v l, RowAt lo w v l → RowAt lo w' v l := fun v l hr => by
    obtain ⟨a, c, e1, e2, e3⟩ := hr
    exact ⟨a, c, e1, e2.below low, e3⟩
  have nx : ∀ (b : Nat) c ty f, w.heap[b]? = some (.cells c ty f) → ty ≠ 78 → ty ≠ 45 → ¬ (b = t.y ∨ t.vt.ownBlock = some b) := fun b c ty f hb n1 n2 e => by
    rcases e with e | e
    · rw [e, htt.hy] at hb
      simp only [Option.some.injEq, Obj.cells.injEq] at hb
      exact n1 hb.2.1.symm
    · exact row_type htt.told hb n2 e
  have hlen : (T.ts.set i t').length = T.ts.length := List.length_set
  have others : ∀ (j : Nat) (u : TT), i ≠ j → T.ts[j]? = some u → TTAt lo w' u := fun j u hij hj => by
    obtain ⟨a1, a2⟩ := h.apart i j t u hij hti hj
    have hu := h.each j u hj
    refine hu.kb k (by omega) D (fun e => ?_) (fun g hg e => ?_)
    · rcases e with e | e
      · exact a1 e.symm
      · exact row_type htt.told hu.hy (by decide) e
    · rcases e with e | e
      · obtain ⟨c, hc⟩ := row_block hu.told hg
        rw [e, htt.hy] at hc
        simp at hc
      · exact a2 g e hg
  refine { hx := (k.block x hxs (nx _ _ _ _ h.hx (by decide) (by decide))).trans h.hx, lox := hlo, pk := row _ _ h.pk, tk := row _ _ h.tk, dr := row _ _ h.dr, row := ?_, each := fun j u hj => ?_, apart := fun j m u v hjm hj hm => ?_ }
  · show w'.ownsRow lo 76 1 T.vT (T.ts.set i t').length ((T.ts.set i t').map ttV)
    rw [hlen, ttV_set hti hy]
    exact owns_same h.row (fun g e => by
      obtain ⟨c, hc⟩ := row_block h.row e
      exact k.block g (h.row.lt g e).2 (nx _ _ _ _ hc (by decide) (by decide)))
  · have hj' : (T.ts.set i t')[j]? = some u := hj
    rw [List.getElem?_set] at hj'
    by_cases hij : i = j
    · rw [if_pos hij, if_pos (by omega)] at hj'
      cases hj'
      exact ht'
    · rw [if_neg hij] at hj'
      exact others j u hij hj'
  · have hj' : (T.ts.set i t')[j]? = some u := hj
    have hm' : (T.ts.set i t')[m]? = some v := hm
    rw [List.getElem?_set] at hj' hm'
    have news : ∀ (u : TT) (j : Nat), i ≠ j → T.ts[j]? = some u → t'.y ≠ u.y ∧ (∀ g, t'.vt.ownBlock = some g → u.vt.ownBlock ≠ some g) := fun u j hij hj => by
      obtain ⟨a1, a2⟩ := h.apart i j t u hij hti hj
      refine ⟨by rw [hy]; exact a1, fun g hg hu => ?_⟩
      rcases lies with e | ⟨g', e1, e2⟩
      · exact a2 g (by rw [← e]; exact hg) hu
      · have e3 : g' = g := by rw [e1] at hg; simpa using hg
        have := ((h.each j u hj).told.lt g hu).2
        omega
    by_cases hij : i = j
    · rw [if_pos hij, if_pos (by omega)] at hj'
      cases hj'
      rw [if_neg (by omega)] at hm'
      exact news v m (by omega) hm'
    · rw [if_neg hij] at hj'
      by_cases him : i = m
      · rw [if_pos him, if_pos (by omega)] at hm'
        cases hm'
        obtain ⟨b1, b2⟩ := news u j hij hj'
        exact ⟨fun e => b1 e.symm, fun g hg hg2 => b2 g hg2 hg⟩
      · rw [if_neg him] at hm'
        exact h.apart j m u v hjm hj' hm'
/-- The twin's own numbers turned. -/
theorem TW.num {w w' : World} {lo x : Nat} {T : TS} (h : TW w lo x T) (clock : Int) (count used drawn : Nat) (hx : w'.heap[x]? = some (.cells #[T.vP, T.vK, T.vD, T.vT, .int .u64 clock, .int .i64 (count : Nat), .int .i64 (used : Nat), .int .i64 (drawn : Nat)] 75 (0, 0))) (k : Kb (fun b => b = x) w w') : TW w' lo x { T with clock := clock, count := count, used := used, drawn := drawn } := by
  have hlo := h.lox
  have hxs := h.xs
  have low : ∀ b : Nat, b < lo → w'.heap[b]? = w.heap[b]? := fun b hb => k.block b (by omega) (by omega)
  have row : ∀ v l, RowAt lo w v l → RowAt lo w' v l := fun v l hr => by
    obtain ⟨a, c, e1, e2, e3⟩ := hr
    exact ⟨a, c, e1, e2.below low, e3⟩
  have nx : ∀ (b : Nat) c ty f, w.heap[b]? = some (.cells c ty f) → ty ≠ 75 → ¬ b = x := fun b c ty f hb n1 e => by
    rw [e, h.hx] at hb
    simp only [Option.some.injEq, Obj.cells.injEq] at hb
    exact n1 hb.2.1.symm
  refine { hx := hx, lox := hlo, pk := row _ _ h.pk, tk := row _ _ h.tk, dr := row _ _ h.dr, row := owns_same h.row (fun g e => ?_), each := fun j u hj => ?_, apart := h.apart }
  · obtain ⟨c, hc⟩ := row_block h.row e
    exact k.block g (h.row.lt g e).2 (nx _ _ _ _ hc (by decide))
  · have hu := h.each j u hj
    exact hu.kb k (by omega) (fun b e => by omega) (nx _ _ _ _ hu.hy (by decide)) (fun g hg => by
      obtain ⟨c, hc⟩ := row_block hu.told hg
      exact nx _ _ _ _ hc (by decide))
/-- A task that is woken. -/
def wkT (ch : Int) (t : TT) : TT := { t with wait := if 0 < ch ∧ t.wait = ch then 0 else t.wait }
def wkTs (ch : Int) (l : List TT) (j : Nat) : List TT := (l.take j).map (wkT ch) ++ l.drop j
def wkN (ch : Int) (l : List TT) (j : Nat) : Nat := ((l.take j).filter (fun t => decide (0 < ch ∧ t.wait = ch))).length
theorem wkTs_len (ch : Int) (l : List TT) (j : Nat) : (wkTs ch l j).length = l.length := by simp [wkTs]; omega
theorem wkTs_zero (ch : Int) (l : List TT) : wkTs ch l 0 = l := by simp [wkTs]
theorem wkTs_all (ch : Int) (l : List TT) : wkTs ch l l.length = l.map (wkT ch) := by simp [wkTs]
theorem wkTs_at {ch : Int} {l : List TT} {j : Nat} {t : TT} (h : l[j]? = some t) : (wkTs ch l j)[j]? = some t := by
  have hj := (List.getElem?_eq_some_iff.1 h).1
  unfold wkTs
  rw [List.getElem?_append_right (by simp; omega)]
  simp
  rw [show j - min j l.length = 0 by omega]
  simpa using h
theorem wkTs_succ {ch : Int} {l : List TT} {j : Nat} {t : TT} (h : l[j]? = some t) : wkTs ch l (j + 1) = (wkTs ch l j).set j (wkT ch t) := by
  have hj := (List.getElem?_eq_some_iff.1 h).1
  unfold wkTs
  have e1 : l.take (j + 1) = l.take j ++ [t] := by rw [List.take_add_one, h]; rfl
  have e2 : l.drop j = t :: l.drop (j + 1) := by
    rw [List.drop_eq_getElem_cons hj]
    congr 1
    exact (List.getElem?_eq_some_iff.1 h).2
  rw [e1, e2, List.map_append, List.set_append_right _ _ (by simp; omega)]
  simp
  rw [show j - min j l.length = 0 by omega]
  simp
theorem wkN_succ {ch : Int} {l : List TT} {j : Nat} {t : TT} (h : l[j]? = some t) : wkN ch l (j + 1) = wkN ch l j + (if 0 < ch ∧ t.wait = ch then 1 else 0) := by
  unfold wkN
  have e1 : l.take (j + 1) = l.take j ++ [t] := by rw [List.take_add_one, h]; rfl
  rw [e1, List.filter_append, List.length_append]
  by_cases hc : 0 < ch ∧ t.wait = ch
  · rw [if_pos hc]; simp [hc]
  · rw [if_neg hc]; simp [hc]
theorem wkN_le (ch : Int) (l : List TT) (j : Nat) : wkN ch l j ≤ j := by
  have h1 := List.length_filter_le (fun t : TT => decide (0 < ch ∧ t.wait = ch)) (l.take j)
  have h2 := List.length_take_le j l
  unfold wkN
  omega
set_option maxRecDepth 100000 in
set_option maxHeartbeats 2000000 in
/-- The twin's Wake. -/
theorem twake (lo x : Nat) (ch : Int) (T : TS) (w : World) (h : TW w lo x T) (hn : T.ts.length ≤ 64) :
    Calls Try.prog 38 #[.pointer (some ⟨x, 0, none⟩), .int .i64 ch] w fun r w' => r = .returned (.int .i64 (wkN ch T.ts T.ts.length : Nat)) ∧ TW w' lo x { T with ts := T.ts.map (wkT ch) } ∧ Kb (fun b => ∃ (i : Nat) (t : TT), T.ts[i]? = some t ∧ b = t.y) w w' := by
  obtain ⟨n, hnn⟩ : ∃ n, T.ts.length = n := ⟨_, rfl⟩
  rw [hnn] at hn
  obtain ⟨aT, cT, hvT⟩ := row_form h.row
  rw [hnn] at hvT
  have hxs := h.xs
  have HVT : Hid _ := hvT
  have HNN : Hid _ := hnn
  have HI : Hid (TW w lo x { T with ts := wkTs ch T.ts 0 }) := by rw [Hid, wkTs_zero]; exact h
  have HZ : Hid (wkN ch T.ts 0 = 0) := (by simp [wkN] : wkN ch T.ts 0 = 0)
  rw [hnn]
  clear h hvT hnn
  go_enter Try.func38, Try.ntmps38
  go_wp2_with fail
  go_loopw [5, 6] (fun s i wr => ∃ j m : Nat, j ≤ n ∧ m ≤ j ∧ i = .int .i64 (j : Nat) ∧ s = .int .i64 (m : Nat) ∧ Hid (m = wkN ch T.ts j) ∧ Hid (TW wr lo x { T with ts := wkTs ch T.ts j }) ∧ Hid (Kb (fun b => ∃ (i : Nat) (t : TT), T.ts[i]? = some t ∧ b = t.y) w wr)) (fun _ i _ => n - (intOf i).toNat)
  case atStart => exact ⟨0, 0, by omega, by omega, rfl, rfl, HZ.out.symm, HI.out, Kb.refl _ _⟩
  case round =>
    clear HI HZ
    obtain ⟨j, m, hj, hmj, rfl, rfl, HM, HT, HK⟩ := hrel
    have cx : wr.cell? ⟨x, 3, none⟩ = some (.slice aT n cT) := by
      have h3 := cells_of_block HT.out.hx 3
      have e3 : ({ T with ts := wkTs ch T.ts j } : TS).vT = .slice aT n cT := HVT.out
      rw [e3] at h3
      simpa using h3
    by_cases hlt : j < n
    · obtain ⟨t, ht⟩ : ∃ t, T.ts[j]? = some t := ⟨T.ts[j]'(by rw [HNN.out]; exact hlt), List.getElem?_eq_getElem _⟩
      have htj : ({ T with ts := wkTs ch T.ts j } : TS).ts[j]? = some t := wkTs_at ht
      obtain ⟨g, c, e1, d0, _, _, d2, _⟩ := HT.out.at htj
      have e1' : T.vT = .slice (some ⟨g, 0, none⟩) (wkTs ch T.ts j).length c := e1
      rw [HVT.out] at e1'
      simp only [Value.slice.injEq] at e1'
      obtain ⟨rfl, e4, rfl⟩ := e1'
      have htt := HT.out.each j t htj
      have HTT : Hid _ := ht
      have HTJ : Hid _ := htj
      have hfz : wr.frozen? ⟨t.y, 2, none⟩ = false := by simp [World.frozen?, htt.hy]
      have HPUT : Hid (t.wait = ch → 0 < ch → TW (wr.setCell ⟨t.y, 2, none⟩ (.int .i64 0)) lo x { T with ts := wkTs ch T.ts (j + 1) } ∧ Kb (fun b => ∃ (i : Nat) (t : TT), T.ts[i]? = some t ∧ b = t.y) w (wr.setCell ⟨t.y, 2, none⟩ (.int .i64 0))) := fun hw hc => by
        have ew : wkT ch t = { t with wait := 0 } := by unfold wkT; rw [if_pos ⟨hc, hw⟩]
        have kk : Kb (fun b => b = t.y ∨ t.vt.ownBlock = some b) wr (wr.setCell ⟨t.y, 2, none⟩ (.int .i64 0)) := (Kb.refl _ _).setCell (Or.inl rfl) _ _
        have htn : TTAt lo (wr.setCell ⟨t.y, 2, none⟩ (.int .i64 0)) (wkT ch t) := by
          rw [ew]
          exact { hy := block_set htt.hy 2 _, ge := htt.ge, acts := htt.acts.kb (fun b hb => Below.heap_setCell _ _ _ _ (by show b ≠ t.y; have := htt.ge; omega)), told := owns_same htt.told (fun g e => Below.heap_setCell _ _ _ _ (by
            show g ≠ t.y
            intro e2
            obtain ⟨c, hc⟩ := row_block htt.told e
            rw [e2, htt.hy] at hc
            simp at hc)), pos := htt.pos }
        have := HT.out.put htj (t' := wkT ch t) (by rw [ew]) htn kk (Or.inl (by rw [ew]))
        refine ⟨?_, HK.out.setCell (x := t.y) ⟨j, t, ht, rfl⟩ _ _⟩
        rw [wkTs_succ ht]
        exact this
      have HSAME : Hid (¬ (0 < ch ∧ t.wait = ch) → TW wr lo x { T with ts := wkTs ch T.ts (j + 1) }) := fun hne => by
        have ew : wkT ch t = t := by unfold wkT; rw [if_neg hne]
        have : wkTs ch T.ts (j + 1) = wkTs ch T.ts j := by
          rw [wkTs_succ ht, ew]
          refine List.ext_getElem? fun m => ?_
          rw [List.getElem?_set]
          split
          · rename_i e
            subst e
            have hl := (List.getElem?_eq_some_iff.1 htj).1
            have htj' : (wkTs ch T.ts j)[j]? = some t := htj
            rw [htj']
            split
            · rfl
            · rename_i hh
              exact absurd hl hh
          · rfl
        rw [this]
        exact HT.out
      have HNS : Hid _ := wkN_succ (ch := ch) ht
      obtain ⟨xv, hxv⟩ : ∃ xv, t.wait = xv := ⟨_, rfl⟩
      obtain ⟨yv, hyv⟩ : ∃ yv, t.y = yv := ⟨_, rfl⟩
      rw [hxv] at d2 HPUT HSAME HNS
      rw [hyv] at d0 d2 hfz HPUT
      clear ht htj htt e4 hxv hyv e1
      by_cases hxc : xv = ch
      · have hb1 : (xv == ch) = true := by simp [hxc]
        by_cases hc0 : 0 < ch
        · obtain ⟨hp1, hp2⟩ := HPUT.out hxc hc0
          have HT2 : Hid (TW (wr.setCell ⟨yv, 2, none⟩ (.int .i64 0)) lo x { T with ts := wkTs ch T.ts (j + 1) }) := hp1
          have HK2 : Hid (Kb (fun b => ∃ (i : Nat) (t : TT), T.ts[i]? = some t ∧ b = t.y) w (wr.setCell ⟨yv, 2, none⟩ (.int .i64 0))) := hp2
          have HN2 : Hid (m + 1 = wkN ch T.ts (j + 1)) := by rw [Hid, HNS.out, if_pos ⟨hc0, hxc⟩, HM.out]
          clear hp1 hp2 hxc
          go_wp2_with fail
          go_roundw
          case rel => exact ⟨j + 1, m + 1, by omega, by omega, by go_num, by go_num, HN2.out, HT2.out, HK2.out⟩
          case measure => simp [intOf]; omega
        · have HT2 : Hid (TW wr lo x { T with ts := wkTs ch T.ts (j + 1) }) := HSAME.out (fun e => hc0 e.1)
          have HN2 : Hid (m = wkN ch T.ts (j + 1)) := by rw [Hid, HNS.out, if_neg (fun e => hc0 e.1), HM.out]; rfl
          clear hxc
          go_wp2_with fail
          go_roundw
          case rel => exact ⟨j + 1, m, by omega, by omega, by go_num, rfl, HN2.out, HT2.out, HK.out⟩
          case measure => simp [intOf]; omega
      · have hb1 : (xv == ch) = false := by simp [hxc]
        have HT2 : Hid (TW wr lo x { T with ts := wkTs ch T.ts (j + 1) }) := HSAME.out (fun e => hxc e.2)
        have HN2 : Hid (m = wkN ch T.ts (j + 1)) := by rw [Hid, HNS.out, if_neg (fun e => hxc e.2), HM.out]; rfl
        clear hxc
        go_wp2_with fail
        go_roundw
        case rel => exact ⟨j + 1, m, by omega, by omega, by go_num, rfl, HN2.out, HT2.out, HK.out⟩
        case measure => simp [intOf]; omega
    · obtain rfl : j = n := by omega
      go_wp2_with fail
      go_ret
      refine ⟨by rw [← HM.out]; rfl, ?_, HK.out⟩
      have := HT.out
      rw [← HNN.out, wkTs_all] at this
      exact this
end Go.Proofs.Ytefmhghdehokcaa
