/-
  A further task, of both loops.
-/
import Derived.Test.YtefmhghdehokcaaSame
namespace Go.Proofs.Ytefmhghdehokcaa
open Go.RowKit
def flA (l : List (Int × Int)) : List Value := l.flatMap (fun x => [Value.int .i64 x.1, Value.int .i64 x.2])
theorem flA_len (l : List (Int × Int)) : (flA l).length = l.length * 2 := by
  induction l with
  | nil => rfl
  | cons a l ih => rw [flA, List.flatMap_cons, List.length_append, ← flA, ih, List.length_cons]; simp; omega
theorem flA_at (l : List (Int × Int)) (j : Nat) (u : Value) (hj : (flA l)[j]? = some u) : ∃ i x, l[i]? = some x ∧ ((j = 2 * i ∧ u = .int .i64 x.1) ∨ (j = 2 * i + 1 ∧ u = .int .i64 x.2)) := by
  induction l generalizing j with
  | nil => simp [flA] at hj
  | cons a l ih =>
    rw [flA, List.flatMap_cons] at hj
    match j, hj with
    | 0, hj => exact ⟨0, a, rfl, Or.inl ⟨rfl, by simpa using hj.symm⟩⟩
    | 1, hj => exact ⟨0, a, rfl, Or.inr ⟨rfl, by simpa using hj.symm⟩⟩
    | j + 2, hj =>
      obtain ⟨i, x, h1, h2⟩ := ih j (by simpa [flA] using hj)
      refine ⟨i + 1, x, by simpa using h1, ?_⟩
      rcases h2 with ⟨e, h⟩ | ⟨e, h⟩
      · exact Or.inl ⟨by omega, h⟩
      · exact Or.inr ⟨by omega, h⟩
theorem flA_to (l : List (Int × Int)) (i : Nat) (x : Int × Int) (hi : l[i]? = some x) : (flA l)[2 * i]? = some (.int .i64 x.1) ∧ (flA l)[2 * i + 1]? = some (.int .i64 x.2) := by
  induction l generalizing i with
  | nil => simp at hi
  | cons a l ih =>
    cases i with
    | zero => simp at hi; subst hi; exact ⟨rfl, rfl⟩
    | succ i =>
      obtain ⟨h1, h2⟩ := ih i (by simpa using hi)
      rw [flA, List.flatMap_cons]
      exact ⟨by rw [show 2 * (i + 1) = 2 * i + 2 by omega]; simpa [flA] using h1, by rw [show 2 * (i + 1) + 1 = 2 * i + 1 + 2 by omega]; simpa [flA] using h2⟩
theorem info58 : (Try.prog.info? 58).map (fun i => (i.zero, i.size, i.bytes)) = some (some (.pointer none), 1, 8) := by kernel_rfl
theorem info76 : (Try.prog.info? 76).map (fun i => (i.zero, i.size, i.bytes)) = some (some (.pointer none), 1, 8) := by kernel_rfl
/-- A loop is kept where blocks of other types behind it change. -/
theorem LA.kbt {w w' : World} {p : Nat} {S : LS} {D : Nat → Prop} (h : LA w p S) (k : Kb D w w') (hD : ∀ b, D b → p < b ∧ ∀ c ty f, w.heap[b]? = some (.cells c ty f) → ty ≠ 86 ∧ ty ≠ 3 ∧ ty ≠ 91 ∧ ty ≠ 45 ∧ ty ≠ 54) : LA w' p S := by
  have hps := (Array.getElem?_eq_some_iff.1 h.hp).1
  have row : ∀ v l, RowAt p w v l → RowAt p w' v l := fun v l hr => hr.kb hps (fun b e => by have := (hD b e).1; omega) k
  refine { hp := (k.block p hps (fun e => by have := (hD p e).1; omega)).trans h.hp, picks := row _ _ h.picks, ticks := row _ _ h.ticks, draws := row _ _ h.draws, tasks := ?_, waits := ?_, each := ?_, apart := h.apart }
  · refine owns_same h.tasks (fun g e => k.block g (h.tasks.lt g e).2 (fun e2 => ?_))
    obtain ⟨c, hc⟩ := row_block h.tasks e
    exact ((hD g e2).2 _ _ _ hc).1 rfl
  · refine owns_same h.waits (fun g e => k.block g (h.waits.lt g e).2 (fun e2 => ?_))
    obtain ⟨c, hc⟩ := row_block h.waits e
    exact ((hD g e2).2 _ _ _ hc).2.1 rfl
  · intro i u hi
    obtain ⟨hu, hua⟩ := h.each i u hi
    refine ⟨hu.kb k (fun e => ((hD _ e).2 _ _ _ hu.hq).2.2.1 rfl) (fun g hg e => ?_) (fun ad e e2 => ?_), fun ad e => ?_⟩
    · obtain ⟨c, hc⟩ := row_block hu.told hg
      exact ((hD _ e).2 _ _ _ hc).2.2.2.1 rfl
    · obtain ⟨hb, c, f, hc⟩ := hua ad e
      exact ((hD _ e2).2 _ _ _ hc).2.2.2.2 rfl
    · obtain ⟨hb, c, f, hc⟩ := hua ad e
      exact ⟨Nat.lt_of_lt_of_le hb k.size, c, f, (k.block _ hb (fun e2 => ((hD _ e2).2 _ _ _ hc).2.2.2.2 rfl)).trans hc⟩
theorem ptr_nil58 (q : Nat) (W : World) : (binOp .eql 58 (.pointer (some ⟨q, 0, none⟩)) (.pointer none)).run Try.prog W = .ok (.bool false) W := by kernel_rfl
/-- The blocks that a further task changes. -/
def AddFoot (b p x : Nat) (va vT : Value) (S : LS) (k : Nat) : Prop := k = b ∨ k = x ∨ va.ownBlock = some k ∨ vT.ownBlock = some k ∨ k = p ∨ S.vs.ownBlock = some k ∨ S.vw.ownBlock = some k
set_option maxRecDepth 100000 in
set_option maxHeartbeats 4000000 in
/-- A further task of both loops, with one act at least. -/
theorem law_add (b p x g0 n c : Nat) (va vT : Value) (x0 x1 x2 x4 x5 x6 x7 : Value) (la : List (Int × Int)) (aL ts : List Value) (S : LS) (w : World)
    (hb : w.heap[b]? = some (.cells #[.pointer (some ⟨p, 0, none⟩), va, .pointer (some ⟨x, 0, none⟩)] 43 (0, 0)))
    (hx : w.heap[x]? = some (.cells #[x0, x1, x2, vT, x4, x5, x6, x7] 75 (0, 0)))
    (oa : w.ownsRow (p + 1) 58 1 va S.tks.length aL) (oT : w.ownsRow (p + 1) 76 1 vT S.tks.length ts) (h : LA w p S) (hn : S.tks.length < 64)
    (hl : la.length = n) (hn0 : 0 < n) (hn1 : n ≤ 100000) (hla : ∀ j y, la[j]? = some y → w.cell? ⟨g0, 2 * j, none⟩ = some (.int .i64 y.1) ∧ w.cell? ⟨g0, 2 * j + 1, none⟩ = some (.int .i64 y.2)) (hg0 : g0 < w.heap.size) (hpb : p < b) (hpx : p < x) :
    Calls Try.prog 10 #[.pointer (some ⟨b, 0, none⟩), .slice (some ⟨g0, 0, none⟩) n c] w fun r w' => r = .returned (.bool true) ∧ ∃ t vs' vw' va' vT' y, t.acts = la ∧ t.told = [] ∧ LA w' p { S with vs := vs', vw := vw', tks := S.tks ++ [t], waits := S.waits ++ [0] } ∧ w'.heap[b]? = some (.cells #[.pointer (some ⟨p, 0, none⟩), va', .pointer (some ⟨x, 0, none⟩)] 43 (0, 0)) ∧ w'.heap[x]? = some (.cells #[x0, x1, x2, vT', x4, x5, x6, x7] 75 (0, 0)) ∧ w'.ownsRow (p + 1) 58 1 va' (S.tks.length + 1) (aL ++ [.pointer (some ⟨t.q, 0, none⟩)]) ∧ w'.ownsRow (p + 1) 76 1 vT' (S.tks.length + 1) (ts ++ [.pointer (some ⟨y, 0, none⟩)]) ∧ w'.heap[y]? = some (.cells #[.slice (some ⟨g0, 0, none⟩) n c, .int .i64 0, .int .i64 0, .slice none 0 0] 78 (0, 0)) ∧ Kb (AddFoot b p x va vT S) w w' := by
  obtain ⟨i0, hi, hz0, hz1, hz2⟩ := info_parts info54
  obtain ⟨i5, hi5, z50, z51, z52⟩ := info_parts info58
  obtain ⟨i7, hi7, z70, z71, z72⟩ := info_parts info76
  have er := empty_row54 w
  have hps := (Array.getElem?_eq_some_iff.1 h.hp).1
  have hvs : ∀ o j u, (flA la)[j]? = some u → (w.alloc o).cell? ((⟨g0, 0, none⟩ : Addr).add j) = some u := fun o j u hj => by
    obtain ⟨i, y, h1, h2⟩ := flA_at la j u hj
    obtain ⟨h3, h4⟩ := hla i y h1
    rw [addr_add, Nat.zero_add]
    refine (((Below.refl _ w).alloc (Nat.le_refl _) o).cell (p := ⟨g0, j, none⟩) hg0).trans ?_
    rcases h2 with ⟨e, rfl⟩ | ⟨e, rfl⟩
    · rw [e]; exact h3
    · rw [e]; exact h4
  have H1 : Hid (∀ u ∈ flA la, u.oneCell' = true) := fun u hu => by
    simp only [flA, List.mem_flatMap] at hu
    obtain ⟨y, _, hy⟩ := hu
    simp at hy
    rcases hy with rfl | rfl <;> rfl
  have HLn : Hid ((flA la).length = n * 2) := by rw [Hid, flA_len, hl]
  have HB : Hid _ := hb
  have HX : Hid _ := hx
  have HOA : Hid _ := oa
  have HOT : Hid _ := oT
  have HLA : Hid (LA w p S) := h
  have HLL : Hid _ := hl
  have HVS : Hid _ := hvs
  have HER : Hid _ := er
  have HPS : Hid _ := hps
  clear hb hx oa oT h hl hvs hla hps er
  go_enter Try.func10, Try.ntmps10
  go_wp2_with (at_builtin; refine wpList_append_own _ rfl (.tmp 10) (.tmp 11) 32 rfl w.heap.size 54 i0 (.agg #[.int .i64 0, .int .i64 0]) 2 16 Try.underlying32 hi hz0 hz1 hz2 rfl (by decide) _ _ _ rfl HER.out ⟨g0, 0, none⟩ n c (flA la) rfl HLn.out (HVS.out _) H1.out (by unfold maxLen; omega) (by omega) (by simp) ?_)
  intro v2 w2 hown2 hg2 hnn
  try simp only [List.nil_append, Nat.zero_add] at hown2
  have hB : Below w.heap.size w w2 := ((Below.refl _ w).alloc (Nat.le_refl _) _).grown hg2 (by simp) (fun i hi => ((empty_row54 w).lt i hi).1)
  rcases hown2.2 with ⟨rfl, _⟩ | ⟨g, cap, cur, rfl, hgb, hgh, hc1, _⟩
  · exfalso
    revert hnn
    simp
    try omega
  have hgs := (Array.getElem?_eq_some_iff.1 hgh).1
  have HO : Hid (w2.ownsRow w.heap.size 54 2 (.slice (some ⟨g, 0, none⟩) n cap) n (flA la)) := hown2
  have HBW : Hid _ := hB
  have HN : Hid (Calls Try.prog 23 #[.slice (some ⟨g, 0, none⟩) n cap] w2 fun r w' => ∃ q g' ca', r = .returned (.pointer (some ⟨q, 0, none⟩)) ∧ w2.heap.size ≤ q ∧ w2.heap.size ≤ g' ∧ n ≤ ca' ∧ w'.heap[q]? = some (.cells #[.slice (some ⟨g', 0, none⟩) n ca', .slice none 0 0] 91 (0, 0)) ∧ ActsAt w' (some ⟨g', 0, none⟩) la ∧ Below w2.heap.size w2 w') := newActs_some g n cap la w2 HLL.out (by omega) (fun j y hj => by
    obtain ⟨h1, h2⟩ := flA_to la j y hj
    have c1 := World.ownsRow.cells HO.out (g := g) rfl (2 * j) _ h1
    have c2 := World.ownsRow.cells HO.out (g := g) rfl (2 * j + 1) _ h2
    rw [addr_add, Nat.zero_add] at c1 c2
    exact ⟨c1, c2⟩) hgs
  have HGB : Hid (w.heap.size ≤ g) := hgb
  have HGS : Hid (g < w2.heap.size) := hgs
  clear hown2 hg2 hnn hB hgh hgb hgs HVS HER H1
  go_wp2_with fail
  refine (HN.out).mono ?_
  rintro e w3 ⟨q, g', ca', rfl, hq, hg', hca, hqh, hacts, hB3⟩
  have HO3 : Hid (w3.ownsRow w.heap.size 54 2 (.slice (some ⟨g, 0, none⟩) n cap) n (flA la)) := owns_same HO.out (fun k e => hB3.block k (by
    simp only [Value.ownBlock, Option.some.injEq] at e
    subst e
    exact HGS.out))
  have HB3 : Hid _ := hB3
  have HQ : Hid _ := hqh
  have HAC : Hid _ := hacts
  have HQG : Hid (w2.heap.size ≤ q ∧ w2.heap.size ≤ g' ∧ n ≤ ca') := ⟨hq, hg', hca⟩
  have hne := ptr_nil58 q
  clear hB3 hqh hacts HO HN hq hg' hca
  go_wp2_with fail
  go_loopw [7] (fun i wr => ∃ k : Nat, k ≤ n ∧ i = .int .i64 k ∧ (∃ vs : List Value, Hid (wr.ownsRow w.heap.size 54 2 (.slice (some ⟨g, 0, none⟩) n cap) n vs) ∧ Hid (∀ (j : Nat) (v : Value), vs[j]? = some v → ∃ z : Int, v = Value.int .i64 z)) ∧ Hid (Kb (fun k => k = g) w3 wr)) (fun i _ => n - (intOf i).toNat)
  case atStart => exact ⟨0, by omega, rfl, ⟨flA la, HO3.out, fun j v hj => by
      obtain ⟨i, y, _, h2⟩ := flA_at la j v hj
      rcases h2 with ⟨_, e⟩ | ⟨_, e⟩
      · exact ⟨_, e⟩
      · exact ⟨_, e⟩⟩, Kb.refl _ _⟩
  case round =>
    obtain ⟨k, hk, rfl, ⟨vs, HR, HV⟩, HK⟩ := hrel
    by_cases hlt : k < n
    · have hlv : vs.length = n * 2 := HR.out.1
      obtain ⟨v, hv⟩ : ∃ v, vs[k * 2]? = some v := ⟨vs[k * 2]'(by omega), List.getElem?_eq_getElem _⟩
      obtain ⟨z, rfl⟩ := HV.out _ _ hv
      have hc := World.ownsRow.cells HR.out (g := g) rfl (k * 2) _ hv
      rw [addr_add, Nat.zero_add] at hc
      have hfz : wr.frozen? ⟨g, k * 2, none⟩ = false := World.ownsRow.frozenAt HR.out _
      have HS : Hid (∀ u, (wr.setCell ⟨g, k * 2, none⟩ u).ownsRow w.heap.size 54 2 (.slice (some ⟨g, 0, none⟩) n cap) n (vs.set (k * 2) u)) := fun u => (World.ownsRow.stored HR.out (k * 2) u).1
      have HK2 : Hid (∀ u, Kb (fun k => k = g) w3 (wr.setCell ⟨g, k * 2, none⟩ u)) := fun u => HK.out.setCell rfl _ _
      clear hv hlv
      go_wp2_with fail
      go_roundw
      case rel => exact ⟨k + 1, by omega, by go_num, ⟨_, HS.out _, fun j v hj => by
        rw [List.getElem?_set] at hj
        split at hj
        · split at hj
          · cases hj; exact ⟨_, rfl⟩
          · cases hj
        · exact HV.out j v hj⟩, HK2.out _⟩
      case measure => simp [intOf]; omega
    · obtain rfl : k = n := by omega
      have hqg := HQG.out
      have hgs := HGS.out
      have hgb := HGB.out
      have BR : Below w.heap.size w wr := (HBW.out.trans (HB3.out.mono HBW.out.size)).trans (HK.out.below (Nat.le_trans HBW.out.size HB3.out.size) (fun k e => by omega))
      have LR : LA wr p S := HLA.out.below BR
      obtain ⟨t, ht⟩ : ∃ t : Tk, t = { q := q, aa := some ⟨g', 0, none⟩, ca := ca', acts := la, vt := .slice none 0 0, told := [] } := ⟨_, rfl⟩
      have tq : t.q = q := by rw [ht]
      have tv : t.vt = .slice none 0 0 := by rw [ht]
      have ta : t.aa = some ⟨g', 0, none⟩ := by rw [ht]
      have T3 : TkAt (p + 1) w3 t := by
        subst ht
        exact { hq := by rw [HLL.out]; exact HQ.out, ge := by have := HPS.out; have := HBW.out.size; show p + 1 ≤ q; omega, acts := HAC.out, len := by rw [HLL.out]; exact hqg.2.2, nil := (fun e => by cases e), told := World.ownsRow_nil _ _ _ _ }
      have TR : TkAt (p + 1) wr t := T3.kb HK.out (by rw [tq]; show ¬ q = g; omega) (fun k e => by rw [tv] at e; cases e) (fun ad e => by rw [ta] at e; cases e; show ¬ g' = g; omega)
      have AR : ∀ ad, t.aa = some ad → ad.block < wr.heap.size ∧ ∃ c f, wr.heap[ad.block]? = some (.cells c 54 f) := fun ad e => by
        have hl0 : 0 < la.length := by rw [HLL.out]; exact hn0
        obtain ⟨b', off, e1, ⟨c, f, hc⟩, _⟩ := TR.acts 0 (la[0]'hl0) (by subst ht; exact List.getElem?_eq_getElem hl0)
        rw [e] at e1
        cases e1
        exact ⟨(Array.getElem?_eq_some_iff.1 hc).1, c, f, hc⟩
      have HADD : Hid (Calls Try.prog 22 #[.pointer (some ⟨p, 0, none⟩), .iface 58 (.pointer (some ⟨q, 0, none⟩))] wr fun r w' => r = .returned (.tuple #[.int .i64 (S.tks.length : Nat), .int .i64 0]) ∧ ∃ vs' vw', LA w' p { S with vs := vs', vw := vw', tks := S.tks ++ [t], waits := S.waits ++ [0] } ∧ Kb (fun b => b = p ∨ S.vs.ownBlock = some b ∨ S.vw.ownBlock = some b) wr w') := by
        rw [← tq]
        exact la_add p S t wr LR hn TR AR (fun i u hi => ⟨by
          have := (Array.getElem?_eq_some_iff.1 (HLA.out.each i u hi).1.hq).1
          have := HBW.out.size
          omega, fun g e e2 => by rw [tv] at e2; cases e2⟩)
      have hbr := (BR.block b (Array.getElem?_eq_some_iff.1 HB.out).1).trans HB.out
      have hxr := (BR.block x (Array.getElem?_eq_some_iff.1 HX.out).1).trans HX.out
      have c0 : wr.cell? ⟨b, 0, none⟩ = some (.pointer (some ⟨p, 0, none⟩)) := by have := cells_of_block hbr 0; simpa using this
      have HBR : Hid _ := hbr
      have HXR : Hid _ := hxr
      have HBB : Hid (Below w.heap.size w wr) := BR
      have HLR : Hid (LA wr p S) := LR
      have HT : Hid _ := ht
      clear hbr hxr BR LR T3 TR AR tq tv ta ht hqg hgs hgb
      go_wp2_with fail
      refine (HADD.out).mono ?_
      rintro e w4 ⟨rfl, vs', vw', L4, k4⟩
      have typ : ∀ (b : Nat) (c : Array Value) (ty : TypeId) (f : Nat × Nat), wr.heap[b]? = some (.cells c ty f) → ty ≠ 83 → ty ≠ 86 → ty ≠ 3 → w4.heap[b]? = some (.cells c ty f) := fun b c ty f hb n1 n2 n3 => by
        refine (k4.block b (Array.getElem?_eq_some_iff.1 hb).1 (fun e => ?_)).trans hb
        rcases e with e | e | e
        · rw [e, HLR.out.hp] at hb
          simp only [Option.some.injEq, Obj.cells.injEq] at hb
          exact n1 hb.2.1.symm
        · exact row_type HLR.out.tasks hb n2 e
        · exact row_type HLR.out.waits hb n3 e
      have hb4 := typ _ _ _ _ HBR.out (by decide) (by decide) (by decide)
      have hx4 := typ _ _ _ _ HXR.out (by decide) (by decide) (by decide)
      have oa4 : w4.ownsRow (p + 1) 58 1 va S.tks.length aL := owns_same HOA.out (fun k e => by
        obtain ⟨c, hc⟩ := row_block HOA.out e
        have := (World.ownsRow.lt HOA.out k e).2
        exact (typ _ _ _ _ ((HBB.out.block k this).trans hc) (by decide) (by decide) (by decide)).trans hc.symm)
      have oT4 : w4.ownsRow (p + 1) 76 1 vT S.tks.length ts := owns_same HOT.out (fun k e => by
        obtain ⟨c, hc⟩ := row_block HOT.out e
        have := (World.ownsRow.lt HOT.out k e).2
        exact (typ _ _ _ _ ((HBB.out.block k this).trans hc) (by decide) (by decide) (by decide)).trans hc.symm)
      obtain ⟨aT, cT, rfl⟩ := row_form oT4
      obtain ⟨av, cv, rfl⟩ := row_form oa4
      have d1 : w4.cell? ⟨b, 1, none⟩ = some (.slice av S.tks.length cv) := by have := cells_of_block hb4 1; simpa using this
      have d2 : w4.cell? ⟨b, 2, none⟩ = some (.pointer (some ⟨x, 0, none⟩)) := by have := cells_of_block hb4 2; simpa using this
      have d3 : w4.cell? ⟨x, 3, none⟩ = some (.slice aT S.tks.length cT) := by have := cells_of_block hx4 3; simpa using this
      obtain ⟨m, hm⟩ : ∃ m, S.tks.length = m := ⟨_, rfl⟩
      have HM : Hid _ := hm
      rw [hm] at d1 d3 hn oa4 oT4 hb4 hx4
      rw [hm]
      have HB4 : Hid _ := hb4
      have HX4 : Hid _ := hx4
      have HOA4 : Hid (w4.ownsRow (p + 1) 58 1 (.slice av m cv) m aL) := oa4
      have HOT4 : Hid (w4.ownsRow (p + 1) 76 1 (.slice aT m cT) m ts) := oT4
      have HL4 : Hid (LA w4 p { S with vs := vs', vw := vw', tks := S.tks ++ [t], waits := S.waits ++ [0] }) := L4
      have HK4 : Hid _ := k4
      clear hb4 hx4 oa4 oT4 L4 k4 typ HOA HOT HADD hm HX HXR HB HBR
      have hw4 : p < w4.heap.size := by have := (Array.getElem?_eq_some_iff.1 HL4.out.hp).1; exact this
      go_wp2_with (at_builtin; refine wpList_append_lies _ rfl (.tmp 62) (.tmp 64) 40 rfl (p + 1) 58 i5 (.pointer none) 1 8 Try.underlying40 hi5 z50 z51 z52 rfl (by decide) _ _ _ rfl (World.ownsRow.alloc HOA4.out _) ⟨w4.heap.size, 0, none⟩ 1 1 [.pointer (some ⟨q, 0, none⟩)] rfl rfl (cell_one_new _ _ _) (by simp [Value.oneCell']) (by decide) (by unfold maxLen; omega) (by omega) (by simp; omega) (w4.heap.size + 1) (by simp) ?_)
      intro g5 cap5 w5 hown5 hg5 hat5 hlt5
      obtain ⟨ob, hob⟩ : ∃ ob, (Value.slice av m cv).ownBlock = ob := ⟨_, rfl⟩
      have lt5 : ∀ k, ob = some k → p + 1 ≤ k ∧ k < w4.heap.size := fun k e => World.ownsRow.lt HOA4.out k (hob.trans e)
      have ty5 : ∀ k, ob = some k → ∃ c, w4.heap[k]? = some (.cells c 58 (0, 0)) := fun k e => row_block HOA4.out (hob.trans e)
      rw [hob] at hg5 hat5
      have k5 : Kb (fun k => ob = some k) w4 w5 := ((Kb.refl _ w4).alloc _).grown hg5 (fun r e => Or.inl e)
      have hb5 := (k5.block b (Array.getElem?_eq_some_iff.1 HB4.out).1 (fun e => by
        obtain ⟨c, hc⟩ := ty5 b e
        rw [HB4.out] at hc
        simp at hc)).trans HB4.out
      have e51 : w5.cell? ⟨b, 1, none⟩ = some (.slice av m cv) := by have := cells_of_block hb5 1; simpa using this
      have f51 : w5.frozen? ⟨b, 1, none⟩ = false := by simp [World.frozen?, hb5]
      have gb5 : g5 ≠ b := fun e => by
        rcases hat5 with e2 | e2
        · obtain ⟨c, hc⟩ := ty5 g5 e2
          rw [e, HB4.out] at hc
          simp at hc
        · have := (Array.getElem?_eq_some_iff.1 HB4.out).1
          omega
      have hbY : (w5.setCell ⟨b, 1, none⟩ (.slice (some ⟨g5, 0, none⟩) (m + 1) cap5)).heap[b]? = some (.cells #[.pointer (some ⟨p, 0, none⟩), .slice (some ⟨g5, 0, none⟩) (m + 1) cap5, .pointer (some ⟨x, 0, none⟩)] 43 (0, 0)) := block_set hb5 1 _
      have oaY : (w5.setCell ⟨b, 1, none⟩ (.slice (some ⟨g5, 0, none⟩) (m + 1) cap5)).ownsRow (p + 1) 58 1 (.slice (some ⟨g5, 0, none⟩) (m + 1) cap5) (m + 1) (aL ++ [.pointer (some ⟨q, 0, none⟩)]) := owns_same hown5 (fun k e => Below.heap_setCell _ _ _ _ (by show k ≠ b; simp only [Value.ownBlock, Option.some.injEq] at e; omega))
      have kY : Kb (fun k => k = b ∨ ob = some k) w4 (w5.setCell ⟨b, 1, none⟩ (.slice (some ⟨g5, 0, none⟩) (m + 1) cap5)) := (k5.mono (S' := fun k => k = b ∨ ob = some k) (fun b e => Or.inr e)).setCell (x := b) (Or.inl rfl) _ _
      obtain ⟨Y, hY⟩ : ∃ Y, w5.setCell ⟨b, 1, none⟩ (.slice (some ⟨g5, 0, none⟩) (m + 1) cap5) = Y := ⟨_, rfl⟩
      rw [hY] at hbY oaY kY
      have nY : ∀ (k : Nat) (c : Array Value) (ty : TypeId) (f : Nat × Nat), w4.heap[k]? = some (.cells c ty f) → ty ≠ 43 → ty ≠ 58 → ¬ (k = b ∨ ob = some k) := fun k c ty f hk n1 n2 e => by
        rcases e with e | e
        · rw [e, HB4.out] at hk
          simp only [Option.some.injEq, Obj.cells.injEq] at hk
          exact n1 hk.2.1.symm
        · obtain ⟨c2, hc2⟩ := ty5 k e
          rw [hc2] at hk
          simp only [Option.some.injEq, Obj.cells.injEq] at hk
          exact n2 hk.2.1.symm
      have hxY := (kY.block x (Array.getElem?_eq_some_iff.1 HX4.out).1 (nY _ _ _ _ HX4.out (by decide) (by decide))).trans HX4.out
      have oTY : Y.ownsRow (p + 1) 76 1 (.slice aT m cT) m ts := owns_same HOT4.out (fun k e => by
        obtain ⟨c, hc⟩ := row_block HOT4.out e
        exact kY.block k (World.ownsRow.lt HOT4.out k e).2 (nY _ _ _ _ hc (by decide) (by decide)))
      have LY : LA Y p { S with vs := vs', vw := vw', tks := S.tks ++ [t], waits := S.waits ++ [0] } := HL4.out.kbt kY (fun k e => by
        rcases e with e | e
        · refine ⟨by omega, fun c ty f hk => ?_⟩
          rw [e, HB4.out] at hk
          simp only [Option.some.injEq, Obj.cells.injEq] at hk
          rw [← hk.2.1]
          decide
        · refine ⟨by have := (lt5 k e).1; omega, fun c ty f hk => ?_⟩
          obtain ⟨c2, hc2⟩ := ty5 k e
          rw [hc2] at hk
          simp only [Option.some.injEq, Obj.cells.injEq] at hk
          rw [← hk.2.1]
          decide)
      have y2 : Y.cell? ⟨b, 2, none⟩ = some (.pointer (some ⟨x, 0, none⟩)) := by have := cells_of_block hbY 2; simpa using this
      have y3 : Y.cell? ⟨x, 3, none⟩ = some (.slice aT m cT) := by have := cells_of_block hxY 3; simpa using this
      have HBY : Hid _ := hbY
      have HXY : Hid _ := hxY
      have HOAY : Hid (Y.ownsRow (p + 1) 58 1 (.slice (some ⟨g5, 0, none⟩) (m + 1) cap5) (m + 1) (aL ++ [.pointer (some ⟨q, 0, none⟩)])) := oaY
      have HOTY : Hid (Y.ownsRow (p + 1) 76 1 (.slice aT m cT) m ts) := oTY
      have HLY : Hid (LA Y p { S with vs := vs', vw := vw', tks := S.tks ++ [t], waits := S.waits ++ [0] }) := LY
      have HKY : Hid (Kb (fun k => k = b ∨ ob = some k) w4 Y) := kY
      have HY : Hid _ := hY
      have HOB : Hid _ := hob
      have hpY : p < Y.heap.size := by have := kY.size; omega
      clear hown5 hg5 hat5 hlt5 hb5 hbY oaY kY hxY oTY LY hY hob k5 ty5 lt5 nY gb5 d1 d2 d3
      obtain ⟨od, hod⟩ : ∃ od, (Value.slice aT m cT).ownBlock = od := ⟨_, rfl⟩
      have HOD : Hid _ := hod
      have HOD5 : Hid (∀ k, od = some k → p + 1 ≤ k ∧ k < Y.heap.size ∧ ∃ c, Y.heap[k]? = some (.cells c 76 (0, 0))) := fun k e => ⟨(World.ownsRow.lt HOTY.out k (hod.trans e)).1, (World.ownsRow.lt HOTY.out k (hod.trans e)).2, row_block HOTY.out (hod.trans e)⟩
      have hra : Hid (∀ o o2, ((Y.alloc o).alloc o2).ownsRow (p + 1) 76 1 (.slice aT m cT) m ts) := fun o o2 => World.ownsRow.alloc (World.ownsRow.alloc HOTY.out o) o2
      have hcn : Hid (∀ o, ∀ j u, [Value.pointer (some ⟨Y.heap.size, 0, none⟩)][j]? = some u → ((Y.alloc o).alloc (.cells #[.pointer (some ⟨Y.heap.size, 0, none⟩)] 76)).cell? ((⟨Y.heap.size + 1, 0, none⟩ : Addr).add j) = some u) := fun o => by
        have e : Y.heap.size + 1 = (Y.alloc o).heap.size := by simp
        rw [e]
        exact cell_one_new _ _ _
      have HX6 : Hid (∀ (w6 : World) (o o2 : Obj), ((Y.alloc o).alloc o2).grownBy w6 (Value.slice aT m cT).ownBlock → w6.cell? ⟨x, 3, none⟩ = some (.slice aT m cT) ∧ w6.frozen? ⟨x, 3, none⟩ = false ∧ w6.cell? ⟨b, 2, none⟩ = some (.pointer (some ⟨x, 0, none⟩))) := fun w6 o o2 hg => by
        rw [hod] at hg
        have k6 : Kb (fun k => od = some k) Y w6 := (((Kb.refl _ Y).alloc _).alloc _).grown hg (fun r e => Or.inl e)
        have hx6 := (k6.block x (Array.getElem?_eq_some_iff.1 HXY.out).1 (fun e => by
          obtain ⟨c, hc⟩ := (HOD5.out x e).2.2
          rw [HXY.out] at hc
          simp at hc)).trans HXY.out
        have hb6 := (k6.block b (Array.getElem?_eq_some_iff.1 HBY.out).1 (fun e => by
          obtain ⟨c, hc⟩ := (HOD5.out b e).2.2
          rw [HBY.out] at hc
          simp at hc)).trans HBY.out
        exact ⟨by have := cells_of_block hx6 3; simpa using this, by simp [World.frozen?, hx6], by have := cells_of_block hb6 2; simpa using this⟩
      have yA2 : (Y.alloc (.cells #[.slice (some ⟨g0, 0, none⟩) k c, .int .i64 0, .int .i64 0, .slice none 0 0] 78)).cell? ⟨b, 2, none⟩ = some (.pointer (some ⟨x, 0, none⟩)) := (((Below.refl _ Y).alloc (Nat.le_refl _) _).cell (p := ⟨b, 2, none⟩) (World.block_lt_of_cell? Y _ y2)).trans y2
      have yA3 : (Y.alloc (.cells #[.slice (some ⟨g0, 0, none⟩) k c, .int .i64 0, .int .i64 0, .slice none 0 0] 78)).cell? ⟨x, 3, none⟩ = some (.slice aT m cT) := (((Below.refl _ Y).alloc (Nat.le_refl _) _).cell (p := ⟨x, 3, none⟩) (World.block_lt_of_cell? Y _ y3)).trans y3
      have yB2 : ((Y.alloc (.cells #[.slice (some ⟨g0, 0, none⟩) k c, .int .i64 0, .int .i64 0, .slice none 0 0] 78)).alloc (.cells #[.pointer (some ⟨Y.heap.size, 0, none⟩)] 76)).cell? ⟨b, 2, none⟩ = some (.pointer (some ⟨x, 0, none⟩)) := (((Below.refl _ _).alloc (Nat.le_refl _) _).cell (p := ⟨b, 2, none⟩) (World.block_lt_of_cell? _ _ yA2)).trans yA2
      have yB3 : ((Y.alloc (.cells #[.slice (some ⟨g0, 0, none⟩) k c, .int .i64 0, .int .i64 0, .slice none 0 0] 78)).alloc (.cells #[.pointer (some ⟨Y.heap.size, 0, none⟩)] 76)).cell? ⟨x, 3, none⟩ = some (.slice aT m cT) := (((Below.refl _ _).alloc (Nat.le_refl _) _).cell (p := ⟨x, 3, none⟩) (World.block_lt_of_cell? _ _ yA3)).trans yA3
      have HTAIL : Hid (∀ (w6 : World) (g6 cap6 : Nat), w6.ownsRow (p + 1) 76 1 (.slice (some ⟨g6, 0, none⟩) (m + 1) cap6) (m + 1) (ts ++ [.pointer (some ⟨Y.heap.size, 0, none⟩)]) → ((Y.alloc (.cells #[.slice (some ⟨g0, 0, none⟩) k c, .int .i64 0, .int .i64 0, .slice none 0 0] 78)).alloc (.cells #[.pointer (some ⟨Y.heap.size, 0, none⟩)] 76)).grownBy w6 (Value.slice aT m cT).ownBlock → ((Value.slice aT m cT).ownBlock = some g6 ∨ g6 = Y.heap.size + 2) → (w6.setCell ⟨x, 3, none⟩ (.slice (some ⟨g6, 0, none⟩) (m + 1) cap6)).cell? ⟨b, 2, none⟩ = some (.pointer (some ⟨x, 0, none⟩)) ∧ (w6.setCell ⟨x, 3, none⟩ (.slice (some ⟨g6, 0, none⟩) (m + 1) cap6)).cell? ⟨x, 3, none⟩ = some (.slice (some ⟨g6, 0, none⟩) (m + 1) cap6) ∧ Hid (∃ t vs' vw' va' vT' y, t.acts = la ∧ t.told = [] ∧ LA (w6.setCell ⟨x, 3, none⟩ (.slice (some ⟨g6, 0, none⟩) (m + 1) cap6)) p { S with vs := vs', vw := vw', tks := S.tks ++ [t], waits := S.waits ++ [0] } ∧ (w6.setCell ⟨x, 3, none⟩ (.slice (some ⟨g6, 0, none⟩) (m + 1) cap6)).heap[b]? = some (.cells #[.pointer (some ⟨p, 0, none⟩), va', .pointer (some ⟨x, 0, none⟩)] 43 (0, 0)) ∧ (w6.setCell ⟨x, 3, none⟩ (.slice (some ⟨g6, 0, none⟩) (m + 1) cap6)).heap[x]? = some (.cells #[x0, x1, x2, vT', x4, x5, x6, x7] 75 (0, 0)) ∧ (w6.setCell ⟨x, 3, none⟩ (.slice (some ⟨g6, 0, none⟩) (m + 1) cap6)).ownsRow (p + 1) 58 1 va' (m + 1) (aL ++ [.pointer (some ⟨t.q, 0, none⟩)]) ∧ (w6.setCell ⟨x, 3, none⟩ (.slice (some ⟨g6, 0, none⟩) (m + 1) cap6)).ownsRow (p + 1) 76 1 vT' (m + 1) (ts ++ [.pointer (some ⟨y, 0, none⟩)]) ∧ (w6.setCell ⟨x, 3, none⟩ (.slice (some ⟨g6, 0, none⟩) (m + 1) cap6)).heap[y]? = some (.cells #[.slice (some ⟨g0, 0, none⟩) k c, .int .i64 0, .int .i64 0, .slice none 0 0] 78 (0, 0)) ∧ Kb (AddFoot b p x (.slice av m cv) (.slice aT m cT) S) w (w6.setCell ⟨x, 3, none⟩ (.slice (some ⟨g6, 0, none⟩) (m + 1) cap6)))) := by
        intro w6 g6 cap6 hown6 hg hat6
        have hod := HOD.out
        rw [hod] at hg hat6
        have od5 := HOD5.out
        have k6 : Kb (fun k => od = some k) Y w6 := (((Kb.refl _ Y).alloc _).alloc _).grown hg (fun r e => Or.inl e)
        have hx6 := (k6.block x (Array.getElem?_eq_some_iff.1 HXY.out).1 (fun e => by
          obtain ⟨c, hc⟩ := (od5 x e).2.2
          rw [HXY.out] at hc
          simp at hc)).trans HXY.out
        have gx6 : g6 ≠ x := fun e => by
          rcases hat6 with e2 | e2
          · obtain ⟨c, hc⟩ := (od5 g6 e2).2.2
            rw [e, HXY.out] at hc
            simp at hc
          · have := (Array.getElem?_eq_some_iff.1 HXY.out).1
            omega
        have xY : x < Y.heap.size := (Array.getElem?_eq_some_iff.1 HXY.out).1
        have hxZ : (w6.setCell ⟨x, 3, none⟩ (.slice (some ⟨g6, 0, none⟩) (m + 1) cap6)).heap[x]? = some (.cells #[x0, x1, x2, .slice (some ⟨g6, 0, none⟩) (m + 1) cap6, x4, x5, x6, x7] 75 (0, 0)) := block_set hx6 3 _
        have oTZ : (w6.setCell ⟨x, 3, none⟩ (.slice (some ⟨g6, 0, none⟩) (m + 1) cap6)).ownsRow (p + 1) 76 1 (.slice (some ⟨g6, 0, none⟩) (m + 1) cap6) (m + 1) (ts ++ [.pointer (some ⟨Y.heap.size, 0, none⟩)]) := owns_same hown6 (fun k e => Below.heap_setCell _ _ _ _ (by show k ≠ x; simp only [Value.ownBlock, Option.some.injEq] at e; omega))
        have hyZ : (w6.setCell ⟨x, 3, none⟩ (.slice (some ⟨g6, 0, none⟩) (m + 1) cap6)).heap[Y.heap.size]? = some (.cells #[.slice (some ⟨g0, 0, none⟩) k c, .int .i64 0, .int .i64 0, .slice none 0 0] 78 (0, 0)) := by
          refine (Below.heap_setCell _ _ _ _ (by show Y.heap.size ≠ x; omega)).trans ((hg.block Y.heap.size (by simp; omega) (fun e => ?_)).trans ((Below.heap_alloc _ _ _ (by simp)).trans (World.alloc_heap_new _ _)))
          have := (od5 _ e.symm).2.1
          omega
        have kZ : Kb (fun k => k = x ∨ od = some k) Y (w6.setCell ⟨x, 3, none⟩ (.slice (some ⟨g6, 0, none⟩) (m + 1) cap6)) := (k6.mono (S' := fun k => k = x ∨ od = some k) (fun b e => Or.inr e)).setCell (x := x) (Or.inl rfl) _ _
        obtain ⟨Z, hZ⟩ : ∃ Z, w6.setCell ⟨x, 3, none⟩ (.slice (some ⟨g6, 0, none⟩) (m + 1) cap6) = Z := ⟨_, rfl⟩
        rw [hZ] at hxZ oTZ hyZ kZ
        rw [hZ]
        have nZ : ∀ (k : Nat) (c : Array Value) (ty : TypeId) (f : Nat × Nat), Y.heap[k]? = some (.cells c ty f) → ty ≠ 75 → ty ≠ 76 → ¬ (k = x ∨ od = some k) := fun k c ty f hk n1 n2 e => by
          rcases e with e | e
          · rw [e, HXY.out] at hk
            simp only [Option.some.injEq, Obj.cells.injEq] at hk
            exact n1 hk.2.1.symm
          · obtain ⟨c2, hc2⟩ := (od5 k e).2.2
            rw [hc2] at hk
            simp only [Option.some.injEq, Obj.cells.injEq] at hk
            exact n2 hk.2.1.symm
        have hbZ := (kZ.block b (Array.getElem?_eq_some_iff.1 HBY.out).1 (nZ _ _ _ _ HBY.out (by decide) (by decide))).trans HBY.out
        have oaZ : Z.ownsRow (p + 1) 58 1 (.slice (some ⟨g5, 0, none⟩) (m + 1) cap5) (m + 1) (aL ++ [.pointer (some ⟨q, 0, none⟩)]) := owns_same HOAY.out (fun k e => by
          obtain ⟨c, hc⟩ := row_block HOAY.out e
          exact kZ.block k (World.ownsRow.lt HOAY.out k e).2 (nZ _ _ _ _ hc (by decide) (by decide)))
        have LZ : LA Z p { S with vs := vs', vw := vw', tks := S.tks ++ [t], waits := S.waits ++ [0] } := HLY.out.kbt kZ (fun k e => by
          rcases e with e | e
          · refine ⟨by omega, fun c ty f hk => ?_⟩
            rw [e, HXY.out] at hk
            simp only [Option.some.injEq, Obj.cells.injEq] at hk
            rw [← hk.2.1]
            decide
          · refine ⟨by have := (od5 k e).1; omega, fun c ty f hk => ?_⟩
            obtain ⟨c2, hc2⟩ := (od5 k e).2.2
            rw [hc2] at hk
            simp only [Option.some.injEq, Obj.cells.injEq] at hk
            rw [← hk.2.1]
            decide)
        have s2 : Z.cell? ⟨b, 2, none⟩ = some (.pointer (some ⟨x, 0, none⟩)) := by have := cells_of_block hbZ 2; simpa using this
        have s3 : Z.cell? ⟨x, 3, none⟩ = some (.slice (some ⟨g6, 0, none⟩) (m + 1) cap6) := by have := cells_of_block hxZ 3; simpa using this
        refine ⟨s2, s3, ?_⟩
        refine ⟨t, vs', vw', _, _, _, by rw [HT.out], by rw [HT.out], LZ, hbZ, hxZ, by rw [HT.out]; exact oaZ, oTZ, hyZ, ?_⟩
        have hob := HOB.out
        refine (((Kb.of_below (S := AddFoot b p x (.slice av m cv) (.slice aT m cT) S) HBB.out).trans HK4.out (fun k _ e => ?_)).trans HKY.out (fun k _ e => ?_)).trans kZ (fun k _ e => ?_)
        · rcases e with e | e | e
          · exact Or.inr (Or.inr (Or.inr (Or.inr (Or.inl e))))
          · exact Or.inr (Or.inr (Or.inr (Or.inr (Or.inr (Or.inl e)))))
          · exact Or.inr (Or.inr (Or.inr (Or.inr (Or.inr (Or.inr e)))))
        · rcases e with e | e
          · exact Or.inl e
          · exact Or.inr (Or.inr (Or.inl (hob.trans e)))
        · rcases e with e | e
          · exact Or.inr (Or.inl e)
          · exact Or.inr (Or.inr (Or.inr (Or.inl (hod.trans e))))
      clear hod
      go_upto_region 13 with fail
      rw [HY.out]
      clear HY
      go_region_law (refine step_append_lies _ rfl (.tmp 78) (.tmp 82) 73 rfl (p + 1) 76 i7 (.pointer none) 1 8 Try.underlying73 hi7 z70 z71 z72 rfl (by decide) (.slice aT m cT) m ts rfl (by exact hra.out _ _) ⟨Y.heap.size + 1, 0, none⟩ 1 1 [.pointer (some ⟨Y.heap.size, 0, none⟩)] rfl rfl (by exact hcn.out _) (by simp [Value.oneCell']) (by decide) (by unfold maxLen; omega) (by omega) (by simp; omega) (Y.heap.size + 2) (by simp) ?_; intro g6 cap6 w6 hown6 hg6 hat6 hlt6; obtain ⟨x61, x62, x63⟩ := HX6.out w6 _ _ (grownBy_undrew hg6))
      all_goals
        obtain ⟨s2, s3, HEND⟩ := HTAIL.out w6 g6 cap6 hown6 (grownBy_undrew hg6) hat6
        obtain ⟨Z, hZ⟩ : ∃ Z, w6.setCell ⟨x, 3, none⟩ (.slice (some ⟨g6, 0, none⟩) (m + 1) cap6) = Z := ⟨_, rfl⟩
        rw [hZ] at s2 s3 HEND ⊢
        clear hown6 hg6 hat6 hlt6 x61 x62 x63 hZ HTAIL yA2 yA3 yB2 yB3
        go_wp2_with fail
        go_ret
        exact ⟨rfl, by rw [HM.out]; exact HEND.out⟩
end Go.Proofs.Ytefmhghdehokcaa
