/-
  A further task, of both loops, without acts.
-/
import Derived.Test.YtefmhghdehokcaaUps
namespace Go.Proofs.Ytefmhghdehokcaa
open Go.RowKit
set_option maxRecDepth 100000 in
set_option maxHeartbeats 4000000 in
/-- A further task of both loops, without acts. -/
theorem law_addNF (b p x : Nat) (va vT : Value) (x0 x1 x2 x4 x5 x6 x7 : Value) (aL ts : List Value) (S : LS) (w : World)
    (hb : w.heap[b]? = some (.cells #[.pointer (some ⟨p, 0, none⟩), va, .pointer (some ⟨x, 0, none⟩)] 43 (0, 0)))
    (hx : w.heap[x]? = some (.cells #[x0, x1, x2, vT, x4, x5, x6, x7] 75 (0, 0)))
    (oa : w.ownsRow (p + 1) 58 1 va S.tks.length aL) (oT : w.ownsRow (p + 1) 76 1 vT S.tks.length ts) (h : LA w p S) (hn : S.tks.length < 64)
    (hpb : p < b) (hpx : p < x) :
    Calls Try.prog 10 #[.pointer (some ⟨b, 0, none⟩), .slice none 0 0] w fun r w' => r = .returned (.bool true) ∧ ∃ t vs' vw' va' vT' y, t.acts = [] ∧ t.told = [] ∧ LA w' p { S with vs := vs', vw := vw', tks := S.tks ++ [t], waits := S.waits ++ [0] } ∧ w'.heap[b]? = some (.cells #[.pointer (some ⟨p, 0, none⟩), va', .pointer (some ⟨x, 0, none⟩)] 43 (0, 0)) ∧ w'.heap[x]? = some (.cells #[x0, x1, x2, vT', x4, x5, x6, x7] 75 (0, 0)) ∧ w'.ownsRow (p + 1) 58 1 va' (S.tks.length + 1) (aL ++ [.pointer (some ⟨t.q, 0, none⟩)]) ∧ w'.ownsRow (p + 1) 76 1 vT' (S.tks.length + 1) (ts ++ [.pointer (some ⟨y, 0, none⟩)]) ∧ w'.heap[y]? = some (.cells #[.slice none 0 0, .int .i64 0, .int .i64 0, .slice none 0 0] 78 (0, 0)) ∧ Kb (AddFoot b p x va vT S) w w' ∧ w.heap.size ≤ y ∧ Ups w S va vT t vs' vw' va' vT' := by
  obtain ⟨i0, hi, hz0, hz1, hz2⟩ := info_parts info54
  obtain ⟨i5, hi5, z50, z51, z52⟩ := info_parts info58
  obtain ⟨i7, hi7, z70, z71, z72⟩ := info_parts info76
  have er := empty_row54 w
  have hps := (Array.getElem?_eq_some_iff.1 h.hp).1
  have HB : Hid _ := hb
  have HX : Hid _ := hx
  have HOA : Hid _ := oa
  have HOT : Hid _ := oT
  have HLA : Hid (LA w p S) := h
  obtain ⟨la, hla⟩ : ∃ la : List (Int × Int), la = [] := ⟨_, rfl⟩
  have HLA0 : Hid _ := hla
  have HLL : Hid (la.length = 0) := by rw [hla]; rfl
  have HER : Hid ((w.alloc (.cells #[] 54)).ownsRow w.heap.size 54 2 (.slice (some ⟨w.heap.size, 0, none⟩) 0 0) 0 []) := er
  have HPS : Hid _ := hps
  clear hb hx oa oT h hla hps er
  go_enter Try.func10, Try.ntmps10
  go_wp2_with (at_builtin; refine wpList_append_own_none rfl (.tmp 10) (.tmp 11) 32 rfl w.heap.size 54 i0 2 Try.underlying32 hi _ _ _ rfl HER.out rfl ?_)
  have hB : Below w.heap.size w (w.alloc (.cells #[] 54)) := (Below.refl _ w).alloc (Nat.le_refl _) _
  have hgh : (w.alloc (.cells #[] 54)).heap[w.heap.size]? = some (.cells #[] 54 (0, 0)) := World.alloc_heap_new _ _
  obtain ⟨w2, hw2⟩ : ∃ w2, w.alloc (.cells #[] 54) = w2 := ⟨_, rfl⟩
  obtain ⟨g, hg⟩ : ∃ g, w.heap.size = g := ⟨_, rfl⟩
  have HO : Hid (w2.ownsRow w.heap.size 54 2 (.slice (some ⟨g, 0, none⟩) 0 0) 0 (flA la)) := by
    rw [← hw2, ← hg, HLA0.out]
    exact HER.out
  rw [hw2] at hB hgh
  rw [hg] at hgh
  have hgb : w.heap.size ≤ g := by omega
  have hgs := (Array.getElem?_eq_some_iff.1 hgh).1
  have HBW : Hid (Below w.heap.size w w2) := hB
  have HG0 : Hid _ := hg
  have HW2 : Hid _ := hw2
  have HN : Hid (Calls Try.prog 23 #[.slice (some ⟨g, 0, none⟩) 0 0] w2 fun r w' => ∃ q g' ca', r = .returned (.pointer (some ⟨q, 0, none⟩)) ∧ w2.heap.size ≤ q ∧ w2.heap.size ≤ g' ∧ 0 ≤ ca' ∧ w'.heap[q]? = some (.cells #[.slice (some ⟨g', 0, none⟩) 0 ca', .slice none 0 0] 91 (0, 0)) ∧ ActsAt w' (some ⟨g', 0, none⟩) la ∧ (∃ c f, w'.heap[g']? = some (.cells c 54 f)) ∧ Below w2.heap.size w2 w') := newActs_at g 0 0 la w2 HLL.out (by omega) (fun j y hj => by
    obtain ⟨h1, h2⟩ := flA_to la j y hj
    have c1 := World.ownsRow.cells HO.out (g := g) rfl (2 * j) _ h1
    have c2 := World.ownsRow.cells HO.out (g := g) rfl (2 * j + 1) _ h2
    rw [addr_add, Nat.zero_add] at c1 c2
    exact ⟨c1, c2⟩) hgs
  have HGB : Hid (w.heap.size ≤ g) := hgb
  have HGS : Hid (g < w2.heap.size) := hgs
  clear hB hgh hgb hgs HER hg hw2
  go_wp2_with fail
  rw [HW2.out, HG0.out]
  refine Calls.mono HN.out ?_
  rintro e w3 ⟨q, g', ca', rfl, hq, hg', hca, hqh, hacts, hty, hB3⟩
  have HTY : Hid (∃ c f, w3.heap[g']? = some (.cells c 54 f)) := hty
  have HO3 : Hid (w3.ownsRow w.heap.size 54 2 (.slice (some ⟨g, 0, none⟩) 0 0) 0 (flA la)) := owns_same HO.out (fun k e => hB3.block k (by
    simp only [Value.ownBlock, Option.some.injEq] at e
    subst e
    exact HGS.out))
  have HB3 : Hid _ := hB3
  have HQ : Hid _ := hqh
  have HAC : Hid _ := hacts
  have HQG : Hid (w2.heap.size ≤ q ∧ w2.heap.size ≤ g' ∧ 0 ≤ ca') := ⟨hq, hg', hca⟩
  have hne := ptr_nil58 q
  clear hB3 hqh hacts HO HN hq hg' hca hty
  go_wp2_with fail
  refine wp_loop_rounds 1 ?_
  rw [rounds_succ]
  have hqg := HQG.out
  have hgs := HGS.out
  have hgb := HGB.out
  have BR : Below w.heap.size w w3 := (HBW.out.trans (HB3.out.mono HBW.out.size)).trans ((Kb.refl (fun k => k = g) w3).below (Nat.le_trans HBW.out.size HB3.out.size) (fun k e => by omega))
  have LR : LA w3 p S := HLA.out.below BR
  obtain ⟨t, ht⟩ : ∃ t : Tk, t = { q := q, aa := some ⟨g', 0, none⟩, ca := ca', acts := la, vt := .slice none 0 0, told := [] } := ⟨_, rfl⟩
  have tq : t.q = q := by rw [ht]
  have tv : t.vt = .slice none 0 0 := by rw [ht]
  have ta : t.aa = some ⟨g', 0, none⟩ := by rw [ht]
  have T3 : TkAt (p + 1) w3 t := by
    subst ht
    exact { hq := by rw [HLL.out]; exact HQ.out, ge := by have := HPS.out; have := HBW.out.size; show p + 1 ≤ q; omega, acts := HAC.out, len := by rw [HLL.out]; exact hqg.2.2, nil := (fun e => by cases e), told := World.ownsRow_nil _ _ _ _ }
  have TR : TkAt (p + 1) w3 t := T3.kb (Kb.refl (fun k => k = g) w3) (by rw [tq]; show ¬ q = g; omega) (fun k e => by rw [tv] at e; cases e) (fun ad e => by rw [ta] at e; cases e; show ¬ g' = g; omega)
  have AR : ∀ ad, t.aa = some ad → ad.block < w3.heap.size ∧ ∃ c f, w3.heap[ad.block]? = some (.cells c 54 f) := fun ad e => by
    rw [ta] at e
    cases e
    obtain ⟨c, f, hc⟩ := HTY.out
    have hc2 := ((Kb.refl (fun k => k = g) w3).block g' (Array.getElem?_eq_some_iff.1 hc).1 (by show ¬ g' = g; omega)).trans hc
    exact ⟨(Array.getElem?_eq_some_iff.1 hc2).1, c, f, hc2⟩
  have HADD : Hid (Calls Try.prog 22 #[.pointer (some ⟨p, 0, none⟩), .iface 58 (.pointer (some ⟨q, 0, none⟩))] w3 fun r w' => r = .returned (.tuple #[.int .i64 (S.tks.length : Nat), .int .i64 0]) ∧ ∃ vs' vw', LA w' p { S with vs := vs', vw := vw', tks := S.tks ++ [t], waits := S.waits ++ [0] } ∧ Kb (fun b => b = p ∨ S.vs.ownBlock = some b ∨ S.vw.ownBlock = some b) w3 w' ∧ (∀ k, vs'.ownBlock = some k → S.vs.ownBlock = some k ∨ w3.heap.size ≤ k) ∧ (∀ k, vw'.ownBlock = some k → S.vw.ownBlock = some k ∨ w3.heap.size ≤ k)) := by
    rw [← tq]
    exact la_addF p S t w3 LR hn TR AR (fun i u hi => ⟨by
      have := (Array.getElem?_eq_some_iff.1 (HLA.out.each i u hi).1.hq).1
      have := HBW.out.size
      omega, fun g e e2 => by rw [tv] at e2; cases e2⟩)
  have hbr := (BR.block b (Array.getElem?_eq_some_iff.1 HB.out).1).trans HB.out
  have hxr := (BR.block x (Array.getElem?_eq_some_iff.1 HX.out).1).trans HX.out
  have c0 : w3.cell? ⟨b, 0, none⟩ = some (.pointer (some ⟨p, 0, none⟩)) := by have := cells_of_block hbr 0; simpa using this
  have HBR : Hid _ := hbr
  have HXR : Hid _ := hxr
  have HBB : Hid (Below w.heap.size w w3) := BR
  have HLR : Hid (LA w3 p S) := LR
  have HT : Hid _ := ht
  clear hbr hxr BR LR T3 TR AR tq tv ta ht hqg hgs hgb
  go_wp2_with fail
  refine (HADD.out).mono ?_
  rintro e w4 ⟨rfl, vs', vw', L4, k4, u41, u42⟩
  have HU4 : Hid ((∀ k, vs'.ownBlock = some k → S.vs.ownBlock = some k ∨ w.heap.size ≤ k) ∧ (∀ k, vw'.ownBlock = some k → S.vw.ownBlock = some k ∨ w.heap.size ≤ k)) := ⟨fun k e => (u41 k e).imp id (fun h => Nat.le_trans HBB.out.size h), fun k e => (u42 k e).imp id (fun h => Nat.le_trans HBB.out.size h)⟩
  have HW4S : Hid (w.heap.size ≤ w4.heap.size) := Nat.le_trans HBB.out.size k4.size
  clear u41 u42
  have typ : ∀ (b : Nat) (c : Array Value) (ty : TypeId) (f : Nat × Nat), w3.heap[b]? = some (.cells c ty f) → ty ≠ 83 → ty ≠ 86 → ty ≠ 3 → w4.heap[b]? = some (.cells c ty f) := fun b c ty f hb n1 n2 n3 => by
    refine (k4.block b (Array.getElem?_eq_some_iff.1 hb).1 (fun e => ?_)).trans hb
    rcases e with e | e | e
    · rw [e, HLR.out.hp] at hb
      simp only [Option.some.injEq, Obj.cells.injEq] at hb
      exact n1 hb.2.1.symm
    · exact row_type HLR.out.tasks hb n2 e
    · exact row_type HLR.out.waits hb n3 e
  have hb4 := typ _ _ _ _ HBR.out (by decide) (by decide) (by decide)
  have hx4 := typ _ _ _ _ HXR.out (by decide) (by decide) (by decide)
  have oa4 : w4.ownsRow (p + 1) 58 1 va S.tks.length aL := owns_same HOA.out (fun k e => by
    obtain ⟨c, hc⟩ := row_block HOA.out e
    have := (World.ownsRow.lt HOA.out k e).2
    exact (typ _ _ _ _ ((HBB.out.block k this).trans hc) (by decide) (by decide) (by decide)).trans hc.symm)
  have oT4 : w4.ownsRow (p + 1) 76 1 vT S.tks.length ts := owns_same HOT.out (fun k e => by
    obtain ⟨c, hc⟩ := row_block HOT.out e
    have := (World.ownsRow.lt HOT.out k e).2
    exact (typ _ _ _ _ ((HBB.out.block k this).trans hc) (by decide) (by decide) (by decide)).trans hc.symm)
  obtain ⟨aT, cT, rfl⟩ := row_form oT4
  obtain ⟨av, cv, rfl⟩ := row_form oa4
  have d1 : w4.cell? ⟨b, 1, none⟩ = some (.slice av S.tks.length cv) := by have := cells_of_block hb4 1; simpa using this
  have d2 : w4.cell? ⟨b, 2, none⟩ = some (.pointer (some ⟨x, 0, none⟩)) := by have := cells_of_block hb4 2; simpa using this
  have d3 : w4.cell? ⟨x, 3, none⟩ = some (.slice aT S.tks.length cT) := by have := cells_of_block hx4 3; simpa using this
  obtain ⟨m, hm⟩ : ∃ m, S.tks.length = m := ⟨_, rfl⟩
  have HM : Hid _ := hm
  rw [hm] at d1 d3 hn oa4 oT4 hb4 hx4
  rw [hm]
  have HB4 : Hid _ := hb4
  have HX4 : Hid _ := hx4
  have HOA4 : Hid (w4.ownsRow (p + 1) 58 1 (.slice av m cv) m aL) := oa4
  have HOT4 : Hid (w4.ownsRow (p + 1) 76 1 (.slice aT m cT) m ts) := oT4
  have HL4 : Hid (LA w4 p { S with vs := vs', vw := vw', tks := S.tks ++ [t], waits := S.waits ++ [0] }) := L4
  have HK4 : Hid _ := k4
  clear hb4 hx4 oa4 oT4 L4 k4 typ HOA HOT HADD hm HX HXR HB HBR
  have hw4 : p < w4.heap.size := by have := (Array.getElem?_eq_some_iff.1 HL4.out.hp).1; exact this
  go_wp2_with (at_builtin; refine wpList_append_lies _ rfl (.tmp 62) (.tmp 64) 40 rfl (p + 1) 58 i5 (.pointer none) 1 8 Try.underlying40 hi5 z50 z51 z52 rfl (by decide) _ _ _ rfl (World.ownsRow.alloc HOA4.out _) ⟨w4.heap.size, 0, none⟩ 1 1 [.pointer (some ⟨q, 0, none⟩)] rfl rfl (cell_one_new _ _ _) (by simp [Value.oneCell']) (by decide) (by unfold maxLen; omega) (by omega) (by simp; omega) (w4.heap.size + 1) (by simp) ?_)
  intro g5 cap5 w5 hown5 hg5 hat5 hlt5
  obtain ⟨ob, hob⟩ : ∃ ob, (Value.slice av m cv).ownBlock = ob := ⟨_, rfl⟩
  have lt5 : ∀ k, ob = some k → p + 1 ≤ k ∧ k < w4.heap.size := fun k e => World.ownsRow.lt HOA4.out k (hob.trans e)
  have ty5 : ∀ k, ob = some k → ∃ c, w4.heap[k]? = some (.cells c 58 (0, 0)) := fun k e => row_block HOA4.out (hob.trans e)
  rw [hob] at hg5 hat5
  have k5 : Kb (fun k => ob = some k) w4 w5 := ((Kb.refl _ w4).alloc _).grown hg5 (fun r e => Or.inl e)
  have hb5 := (k5.block b (Array.getElem?_eq_some_iff.1 HB4.out).1 (fun e => by
    obtain ⟨c, hc⟩ := ty5 b e
    rw [HB4.out] at hc
    simp at hc)).trans HB4.out
  have e51 : w5.cell? ⟨b, 1, none⟩ = some (.slice av m cv) := by have := cells_of_block hb5 1; simpa using this
  have f51 : w5.frozen? ⟨b, 1, none⟩ = false := by simp [World.frozen?, hb5]
  have gb5 : g5 ≠ b := fun e => by
    rcases hat5 with e2 | e2
    · obtain ⟨c, hc⟩ := ty5 g5 e2
      rw [e, HB4.out] at hc
      simp at hc
    · have := (Array.getElem?_eq_some_iff.1 HB4.out).1
      omega
  have hbY : (w5.setCell ⟨b, 1, none⟩ (.slice (some ⟨g5, 0, none⟩) (m + 1) cap5)).heap[b]? = some (.cells #[.pointer (some ⟨p, 0, none⟩), .slice (some ⟨g5, 0, none⟩) (m + 1) cap5, .pointer (some ⟨x, 0, none⟩)] 43 (0, 0)) := block_set hb5 1 _
  have oaY : (w5.setCell ⟨b, 1, none⟩ (.slice (some ⟨g5, 0, none⟩) (m + 1) cap5)).ownsRow (p + 1) 58 1 (.slice (some ⟨g5, 0, none⟩) (m + 1) cap5) (m + 1) (aL ++ [.pointer (some ⟨q, 0, none⟩)]) := owns_same hown5 (fun k e => Below.heap_setCell _ _ _ _ (by show k ≠ b; simp only [Value.ownBlock, Option.some.injEq] at e; omega))
  have kY : Kb (fun k => k = b ∨ ob = some k) w4 (w5.setCell ⟨b, 1, none⟩ (.slice (some ⟨g5, 0, none⟩) (m + 1) cap5)) := (k5.mono (S' := fun k => k = b ∨ ob = some k) (fun b e => Or.inr e)).setCell (x := b) (Or.inl rfl) _ _
  obtain ⟨Y, hY⟩ : ∃ Y, w5.setCell ⟨b, 1, none⟩ (.slice (some ⟨g5, 0, none⟩) (m + 1) cap5) = Y := ⟨_, rfl⟩
  rw [hY] at hbY oaY kY
  have nY : ∀ (k : Nat) (c : Array Value) (ty : TypeId) (f : Nat × Nat), w4.heap[k]? = some (.cells c ty f) → ty ≠ 43 → ty ≠ 58 → ¬ (k = b ∨ ob = some k) := fun k c ty f hk n1 n2 e => by
    rcases e with e | e
    · rw [e, HB4.out] at hk
      simp only [Option.some.injEq, Obj.cells.injEq] at hk
      exact n1 hk.2.1.symm
    · obtain ⟨c2, hc2⟩ := ty5 k e
      rw [hc2] at hk
      simp only [Option.some.injEq, Obj.cells.injEq] at hk
      exact n2 hk.2.1.symm
  have hxY := (kY.block x (Array.getElem?_eq_some_iff.1 HX4.out).1 (nY _ _ _ _ HX4.out (by decide) (by decide))).trans HX4.out
  have oTY : Y.ownsRow (p + 1) 76 1 (.slice aT m cT) m ts := owns_same HOT4.out (fun k e => by
    obtain ⟨c, hc⟩ := row_block HOT4.out e
    exact kY.block k (World.ownsRow.lt HOT4.out k e).2 (nY _ _ _ _ hc (by decide) (by decide)))
  have LY : LA Y p { S with vs := vs', vw := vw', tks := S.tks ++ [t], waits := S.waits ++ [0] } := HL4.out.kbt kY (fun k e => by
    rcases e with e | e
    · refine ⟨by omega, fun c ty f hk => ?_⟩
      rw [e, HB4.out] at hk
      simp only [Option.some.injEq, Obj.cells.injEq] at hk
      rw [← hk.2.1]
      decide
    · refine ⟨by have := (lt5 k e).1; omega, fun c ty f hk => ?_⟩
      obtain ⟨c2, hc2⟩ := ty5 k e
      rw [hc2] at hk
      simp only [Option.some.injEq, Obj.cells.injEq] at hk
      rw [← hk.2.1]
      decide)
  have y2 : Y.cell? ⟨b, 2, none⟩ = some (.pointer (some ⟨x, 0, none⟩)) := by have := cells_of_block hbY 2; simpa using this
  have y3 : Y.cell? ⟨x, 3, none⟩ = some (.slice aT m cT) := by have := cells_of_block hxY 3; simpa using this
  have HBY : Hid _ := hbY
  have HXY : Hid _ := hxY
  have HOAY : Hid (Y.ownsRow (p + 1) 58 1 (.slice (some ⟨g5, 0, none⟩) (m + 1) cap5) (m + 1) (aL ++ [.pointer (some ⟨q, 0, none⟩)])) := oaY
  have HOTY : Hid (Y.ownsRow (p + 1) 76 1 (.slice aT m cT) m ts) := oTY
  have HLY : Hid (LA Y p { S with vs := vs', vw := vw', tks := S.tks ++ [t], waits := S.waits ++ [0] }) := LY
  have HKY : Hid (Kb (fun k => k = b ∨ ob = some k) w4 Y) := kY
  have HY : Hid _ := hY
  have HOB : Hid _ := hob
  have hpY : p < Y.heap.size := by have := kY.size; omega
  have HU5 : Hid (∀ k, (Value.slice (some ⟨g5, 0, none⟩) (m + 1) cap5).ownBlock = some k → ob = some k ∨ w.heap.size ≤ k) := fun k e => by
    simp only [Value.ownBlock, Option.some.injEq] at e
    subst e
    have := HW4S.out
    rcases hat5 with h | h
    · exact Or.inl h
    · exact Or.inr (by omega)
  clear hown5 hg5 hat5 hlt5 hb5 hbY oaY kY hxY oTY LY hY hob k5 ty5 lt5 nY gb5 d1 d2 d3
  obtain ⟨od, hod⟩ : ∃ od, (Value.slice aT m cT).ownBlock = od := ⟨_, rfl⟩
  have HOD : Hid _ := hod
  have HOD5 : Hid (∀ k, od = some k → p + 1 ≤ k ∧ k < Y.heap.size ∧ ∃ c, Y.heap[k]? = some (.cells c 76 (0, 0))) := fun k e => ⟨(World.ownsRow.lt HOTY.out k (hod.trans e)).1, (World.ownsRow.lt HOTY.out k (hod.trans e)).2, row_block HOTY.out (hod.trans e)⟩
  have hra : Hid (∀ o o2, ((Y.alloc o).alloc o2).ownsRow (p + 1) 76 1 (.slice aT m cT) m ts) := fun o o2 => World.ownsRow.alloc (World.ownsRow.alloc HOTY.out o) o2
  have hcn : Hid (∀ o, ∀ j u, [Value.pointer (some ⟨Y.heap.size, 0, none⟩)][j]? = some u → ((Y.alloc o).alloc (.cells #[.pointer (some ⟨Y.heap.size, 0, none⟩)] 76)).cell? ((⟨Y.heap.size + 1, 0, none⟩ : Addr).add j) = some u) := fun o => by
    have e : Y.heap.size + 1 = (Y.alloc o).heap.size := by simp
    rw [e]
    exact cell_one_new _ _ _
  have HX6 : Hid (∀ (w6 : World) (o o2 : Obj), ((Y.alloc o).alloc o2).grownBy w6 (Value.slice aT m cT).ownBlock → w6.cell? ⟨x, 3, none⟩ = some (.slice aT m cT) ∧ w6.frozen? ⟨x, 3, none⟩ = false ∧ w6.cell? ⟨b, 2, none⟩ = some (.pointer (some ⟨x, 0, none⟩))) := fun w6 o o2 hg => by
    rw [hod] at hg
    have k6 : Kb (fun k => od = some k) Y w6 := (((Kb.refl _ Y).alloc _).alloc _).grown hg (fun r e => Or.inl e)
    have hx6 := (k6.block x (Array.getElem?_eq_some_iff.1 HXY.out).1 (fun e => by
      obtain ⟨c, hc⟩ := (HOD5.out x e).2.2
      rw [HXY.out] at hc
      simp at hc)).trans HXY.out
    have hb6 := (k6.block b (Array.getElem?_eq_some_iff.1 HBY.out).1 (fun e => by
      obtain ⟨c, hc⟩ := (HOD5.out b e).2.2
      rw [HBY.out] at hc
      simp at hc)).trans HBY.out
    exact ⟨by have := cells_of_block hx6 3; simpa using this, by simp [World.frozen?, hx6], by have := cells_of_block hb6 2; simpa using this⟩
  have yA2 : (Y.alloc (.cells #[.slice none 0 0, .int .i64 0, .int .i64 0, .slice none 0 0] 78)).cell? ⟨b, 2, none⟩ = some (.pointer (some ⟨x, 0, none⟩)) := (((Below.refl _ Y).alloc (Nat.le_refl _) _).cell (p := ⟨b, 2, none⟩) (World.block_lt_of_cell? Y _ y2)).trans y2
  have yA3 : (Y.alloc (.cells #[.slice none 0 0, .int .i64 0, .int .i64 0, .slice none 0 0] 78)).cell? ⟨x, 3, none⟩ = some (.slice aT m cT) := (((Below.refl _ Y).alloc (Nat.le_refl _) _).cell (p := ⟨x, 3, none⟩) (World.block_lt_of_cell? Y _ y3)).trans y3
  have yB2 : ((Y.alloc (.cells #[.slice none 0 0, .int .i64 0, .int .i64 0, .slice none 0 0] 78)).alloc (.cells #[.pointer (some ⟨Y.heap.size, 0, none⟩)] 76)).cell? ⟨b, 2, none⟩ = some (.pointer (some ⟨x, 0, none⟩)) := (((Below.refl _ _).alloc (Nat.le_refl _) _).cell (p := ⟨b, 2, none⟩) (World.block_lt_of_cell? _ _ yA2)).trans yA2
  have yB3 : ((Y.alloc (.cells #[.slice none 0 0, .int .i64 0, .int .i64 0, .slice none 0 0] 78)).alloc (.cells #[.pointer (some ⟨Y.heap.size, 0, none⟩)] 76)).cell? ⟨x, 3, none⟩ = some (.slice aT m cT) := (((Below.refl _ _).alloc (Nat.le_refl _) _).cell (p := ⟨x, 3, none⟩) (World.block_lt_of_cell? _ _ yA3)).trans yA3
  have HTAIL : Hid (∀ (w6 : World) (g6 cap6 : Nat), w6.ownsRow (p + 1) 76 1 (.slice (some ⟨g6, 0, none⟩) (m + 1) cap6) (m + 1) (ts ++ [.pointer (some ⟨Y.heap.size, 0, none⟩)]) → ((Y.alloc (.cells #[.slice none 0 0, .int .i64 0, .int .i64 0, .slice none 0 0] 78)).alloc (.cells #[.pointer (some ⟨Y.heap.size, 0, none⟩)] 76)).grownBy w6 (Value.slice aT m cT).ownBlock → ((Value.slice aT m cT).ownBlock = some g6 ∨ g6 = Y.heap.size + 2) → (w6.setCell ⟨x, 3, none⟩ (.slice (some ⟨g6, 0, none⟩) (m + 1) cap6)).cell? ⟨b, 2, none⟩ = some (.pointer (some ⟨x, 0, none⟩)) ∧ (w6.setCell ⟨x, 3, none⟩ (.slice (some ⟨g6, 0, none⟩) (m + 1) cap6)).cell? ⟨x, 3, none⟩ = some (.slice (some ⟨g6, 0, none⟩) (m + 1) cap6) ∧ Hid (∃ t vs' vw' va' vT' y, t.acts = [] ∧ t.told = [] ∧ LA (w6.setCell ⟨x, 3, none⟩ (.slice (some ⟨g6, 0, none⟩) (m + 1) cap6)) p { S with vs := vs', vw := vw', tks := S.tks ++ [t], waits := S.waits ++ [0] } ∧ (w6.setCell ⟨x, 3, none⟩ (.slice (some ⟨g6, 0, none⟩) (m + 1) cap6)).heap[b]? = some (.cells #[.pointer (some ⟨p, 0, none⟩), va', .pointer (some ⟨x, 0, none⟩)] 43 (0, 0)) ∧ (w6.setCell ⟨x, 3, none⟩ (.slice (some ⟨g6, 0, none⟩) (m + 1) cap6)).heap[x]? = some (.cells #[x0, x1, x2, vT', x4, x5, x6, x7] 75 (0, 0)) ∧ (w6.setCell ⟨x, 3, none⟩ (.slice (some ⟨g6, 0, none⟩) (m + 1) cap6)).ownsRow (p + 1) 58 1 va' (m + 1) (aL ++ [.pointer (some ⟨t.q, 0, none⟩)]) ∧ (w6.setCell ⟨x, 3, none⟩ (.slice (some ⟨g6, 0, none⟩) (m + 1) cap6)).ownsRow (p + 1) 76 1 vT' (m + 1) (ts ++ [.pointer (some ⟨y, 0, none⟩)]) ∧ (w6.setCell ⟨x, 3, none⟩ (.slice (some ⟨g6, 0, none⟩) (m + 1) cap6)).heap[y]? = some (.cells #[.slice none 0 0, .int .i64 0, .int .i64 0, .slice none 0 0] 78 (0, 0)) ∧ Kb (AddFoot b p x (.slice av m cv) (.slice aT m cT) S) w (w6.setCell ⟨x, 3, none⟩ (.slice (some ⟨g6, 0, none⟩) (m + 1) cap6)) ∧ w.heap.size ≤ y ∧ Ups w S (.slice av m cv) (.slice aT m cT) t vs' vw' va' vT')) := by
    intro w6 g6 cap6 hown6 hg hat6
    have hod := HOD.out
    rw [hod] at hg hat6
    have od5 := HOD5.out
    have k6 : Kb (fun k => od = some k) Y w6 := (((Kb.refl _ Y).alloc _).alloc _).grown hg (fun r e => Or.inl e)
    have hx6 := (k6.block x (Array.getElem?_eq_some_iff.1 HXY.out).1 (fun e => by
      obtain ⟨c, hc⟩ := (od5 x e).2.2
      rw [HXY.out] at hc
      simp at hc)).trans HXY.out
    have gx6 : g6 ≠ x := fun e => by
      rcases hat6 with e2 | e2
      · obtain ⟨c, hc⟩ := (od5 g6 e2).2.2
        rw [e, HXY.out] at hc
        simp at hc
      · have := (Array.getElem?_eq_some_iff.1 HXY.out).1
        omega
    have xY : x < Y.heap.size := (Array.getElem?_eq_some_iff.1 HXY.out).1
    have hxZ : (w6.setCell ⟨x, 3, none⟩ (.slice (some ⟨g6, 0, none⟩) (m + 1) cap6)).heap[x]? = some (.cells #[x0, x1, x2, .slice (some ⟨g6, 0, none⟩) (m + 1) cap6, x4, x5, x6, x7] 75 (0, 0)) := block_set hx6 3 _
    have oTZ : (w6.setCell ⟨x, 3, none⟩ (.slice (some ⟨g6, 0, none⟩) (m + 1) cap6)).ownsRow (p + 1) 76 1 (.slice (some ⟨g6, 0, none⟩) (m + 1) cap6) (m + 1) (ts ++ [.pointer (some ⟨Y.heap.size, 0, none⟩)]) := owns_same hown6 (fun k e => Below.heap_setCell _ _ _ _ (by show k ≠ x; simp only [Value.ownBlock, Option.some.injEq] at e; omega))
    have hyZ : (w6.setCell ⟨x, 3, none⟩ (.slice (some ⟨g6, 0, none⟩) (m + 1) cap6)).heap[Y.heap.size]? = some (.cells #[.slice none 0 0, .int .i64 0, .int .i64 0, .slice none 0 0] 78 (0, 0)) := by
      refine (Below.heap_setCell _ _ _ _ (by show Y.heap.size ≠ x; omega)).trans ((hg.block Y.heap.size (by simp; omega) (fun e => ?_)).trans ((Below.heap_alloc _ _ _ (by simp)).trans (World.alloc_heap_new _ _)))
      have := (od5 _ e.symm).2.1
      omega
    have kZ : Kb (fun k => k = x ∨ od = some k) Y (w6.setCell ⟨x, 3, none⟩ (.slice (some ⟨g6, 0, none⟩) (m + 1) cap6)) := (k6.mono (S' := fun k => k = x ∨ od = some k) (fun b e => Or.inr e)).setCell (x := x) (Or.inl rfl) _ _
    obtain ⟨Z, hZ⟩ : ∃ Z, w6.setCell ⟨x, 3, none⟩ (.slice (some ⟨g6, 0, none⟩) (m + 1) cap6) = Z := ⟨_, rfl⟩
    rw [hZ] at hxZ oTZ hyZ kZ
    rw [hZ]
    have nZ : ∀ (k : Nat) (c : Array Value) (ty : TypeId) (f : Nat × Nat), Y.heap[k]? = some (.cells c ty f) → ty ≠ 75 → ty ≠ 76 → ¬ (k = x ∨ od = some k) := fun k c ty f hk n1 n2 e => by
      rcases e with e | e
      · rw [e, HXY.out] at hk
        simp only [Option.some.injEq, Obj.cells.injEq] at hk
        exact n1 hk.2.1.symm
      · obtain ⟨c2, hc2⟩ := (od5 k e).2.2
        rw [hc2] at hk
        simp only [Option.some.injEq, Obj.cells.injEq] at hk
        exact n2 hk.2.1.symm
    have hbZ := (kZ.block b (Array.getElem?_eq_some_iff.1 HBY.out).1 (nZ _ _ _ _ HBY.out (by decide) (by decide))).trans HBY.out
    have oaZ : Z.ownsRow (p + 1) 58 1 (.slice (some ⟨g5, 0, none⟩) (m + 1) cap5) (m + 1) (aL ++ [.pointer (some ⟨q, 0, none⟩)]) := owns_same HOAY.out (fun k e => by
      obtain ⟨c, hc⟩ := row_block HOAY.out e
      exact kZ.block k (World.ownsRow.lt HOAY.out k e).2 (nZ _ _ _ _ hc (by decide) (by decide)))
    have LZ : LA Z p { S with vs := vs', vw := vw', tks := S.tks ++ [t], waits := S.waits ++ [0] } := HLY.out.kbt kZ (fun k e => by
      rcases e with e | e
      · refine ⟨by omega, fun c ty f hk => ?_⟩
        rw [e, HXY.out] at hk
        simp only [Option.some.injEq, Obj.cells.injEq] at hk
        rw [← hk.2.1]
        decide
      · refine ⟨by have := (od5 k e).1; omega, fun c ty f hk => ?_⟩
        obtain ⟨c2, hc2⟩ := (od5 k e).2.2
        rw [hc2] at hk
        simp only [Option.some.injEq, Obj.cells.injEq] at hk
        rw [← hk.2.1]
        decide)
    have s2 : Z.cell? ⟨b, 2, none⟩ = some (.pointer (some ⟨x, 0, none⟩)) := by have := cells_of_block hbZ 2; simpa using this
    have s3 : Z.cell? ⟨x, 3, none⟩ = some (.slice (some ⟨g6, 0, none⟩) (m + 1) cap6) := by have := cells_of_block hxZ 3; simpa using this
    refine ⟨s2, s3, ?_⟩
    refine ⟨t, vs', vw', _, _, _, by rw [HT.out]; exact HLA0.out, by rw [HT.out], LZ, hbZ, hxZ, by rw [HT.out]; exact oaZ, oTZ, hyZ, ?_, by have h2 := HBW.out.size; have h3 := HKY.out.size; have h4 := HW4S.out; have hqg := HQG.out; omega, ?_⟩
    · have hob := HOB.out
      refine (((Kb.of_below (S := AddFoot b p x (.slice av m cv) (.slice aT m cT) S) HBB.out).trans HK4.out (fun k _ e => ?_)).trans HKY.out (fun k _ e => ?_)).trans kZ (fun k _ e => ?_)
      · rcases e with e | e | e
        · exact Or.inr (Or.inr (Or.inr (Or.inr (Or.inl e))))
        · exact Or.inr (Or.inr (Or.inr (Or.inr (Or.inr (Or.inl e)))))
        · exact Or.inr (Or.inr (Or.inr (Or.inr (Or.inr (Or.inr e)))))
      · rcases e with e | e
        · exact Or.inl e
        · exact Or.inr (Or.inr (Or.inl (hob.trans e)))
      · rcases e with e | e
        · exact Or.inr (Or.inl e)
        · exact Or.inr (Or.inr (Or.inr (Or.inl (hod.trans e))))
    · have hob := HOB.out
      have hqg := HQG.out
      have h2 := HBW.out.size
      refine ⟨by rw [HT.out], by rw [HT.out]; show w.heap.size ≤ q; omega, HU4.out.1, HU4.out.2, fun k e => ?_, fun k e => ?_⟩
      · rw [hob]; exact HU5.out k e
      · simp only [Value.ownBlock, Option.some.injEq] at e
        subst e
        have h3 := HKY.out.size
        have h4 := HW4S.out
        rw [hod]
        rcases hat6 with h | h
        · exact Or.inl h
        · exact Or.inr (by omega)
  clear hod
  go_upto_region 13 with fail
  rw [HY.out]
  clear HY
  go_region_law (refine step_append_lies _ rfl (.tmp 78) (.tmp 82) 73 rfl (p + 1) 76 i7 (.pointer none) 1 8 Try.underlying73 hi7 z70 z71 z72 rfl (by decide) (.slice aT m cT) m ts rfl (by exact hra.out _ _) ⟨Y.heap.size + 1, 0, none⟩ 1 1 [.pointer (some ⟨Y.heap.size, 0, none⟩)] rfl rfl (by exact hcn.out _) (by simp [Value.oneCell']) (by decide) (by unfold maxLen; omega) (by omega) (by simp; omega) (Y.heap.size + 2) (by simp) ?_; intro g6 cap6 w6 hown6 hg6 hat6 hlt6; obtain ⟨x61, x62, x63⟩ := HX6.out w6 _ _ (grownBy_undrew hg6))
  all_goals
    obtain ⟨s2, s3, HEND⟩ := HTAIL.out w6 g6 cap6 hown6 (grownBy_undrew hg6) hat6
    obtain ⟨Z, hZ⟩ : ∃ Z, w6.setCell ⟨x, 3, none⟩ (.slice (some ⟨g6, 0, none⟩) (m + 1) cap6) = Z := ⟨_, rfl⟩
    rw [hZ] at s2 s3 HEND ⊢
    clear hown6 hg6 hat6 hlt6 x61 x62 x63 hZ HTAIL yA2 yA3 yB2 yB3
    go_wp2_with fail
    go_ret
    exact ⟨rfl, by rw [HM.out]; exact HEND.out⟩
end Go.Proofs.Ytefmhghdehokcaa
