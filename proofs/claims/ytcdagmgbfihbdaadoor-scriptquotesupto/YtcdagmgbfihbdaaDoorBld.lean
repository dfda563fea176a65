/-
  strings.Builder, first in whatever block: copyCheck, Len, WriteByte, WriteString, String.
-/
import Derived.Test.YtcdagmgbfihbdaaDoorBas
namespace Go.Proofs.YtcdagmgbfihbdaaDoor
open Go.RowKit
/-- What is asked of the block's type. -/
structure Lay (T n : Nat) : Prop where
  lies : liesAt Tryd.prog Tryd.prog.depth T (n / Tryd.prog.cellsOf T) 0 48 1 = true
  ne : T ≠ 5
theorem infoB : (Tryd.prog.info? 48).map (·.size) = some 2 := by kernel_rfl
set_option maxHeartbeats 2000000 in
set_option maxRecDepth 100000 in
theorem copy_any (B T b : Nat) (rest : List Value) (l : List UInt8) (w : World) (hL : Lay T (rest.length + 2)) (h : BA B T b rest l w) :
    Calls Tryd.prog 35 #[.pointer (some ⟨b, 0, none⟩)] w fun e w' => e = .returned (.tuple #[]) ∧ BU B T b rest l w' ∧ KP b w w' ∧ Below B w w' := by
  obtain ⟨j, hj, hjs⟩ := Option.map_eq_some_iff.1 infoB
  obtain ⟨hB, a, v, hb, hrow, ha⟩ := h
  have h0 : w.cell? ⟨b, 0, none⟩ = some a := cell_of_block hb rfl
  rcases ha with rfl | rfl
  · have hsh : w.shape? b = some (T, rest.length + 2) := by simp [World.shape?, hb]
    have hfz : w.frozen? ⟨b, 0, none⟩ = false := free_of_block hb 0
    have h1 := Lib.run_to_unsafe w ⟨b, 0, none⟩ Tryd.underlying45 Tryd.underlying106 hj (by rw [hjs]; decide) hsh (Nat.zero_lt_succ _)
    have h2 := Lib.run_from_unsafe w ⟨b, 0, none⟩ Tryd.underlying106 Tryd.underlying45 hj hsh hL.lies
    have HFI : Hid (BU B T b rest l (w.setCell ⟨b, 0, none⟩ (.pointer (some ⟨b, 0, none⟩))) ∧ KP b w (w.setCell ⟨b, 0, none⟩ (.pointer (some ⟨b, 0, none⟩))) ∧ Below B w (w.setCell ⟨b, 0, none⟩ (.pointer (some ⟨b, 0, none⟩)))) := by
      refine ⟨⟨hB, v, ?_, owns_same hrow (fun g hg => Below.heap_setCell _ _ _ _ (fun e => ?_))⟩, (KP.refl b w).set 0 _, (Below.refl B w).setCell (p := ⟨b, 0, none⟩) hB _⟩
      · have := set_block hb 0 (.pointer (some ⟨b, 0, none⟩))
        simpa using this
      · have e' : g = b := e
        subst e'
        rcases hrow.2 with ⟨ev, _⟩ | ⟨g', cap, cur, ev, _, hh, _⟩
        · rw [ev] at hg; cases hg
        · rw [ev] at hg
          simp only [Value.ownBlock, Option.some.injEq] at hg
          subst hg
          rw [hb] at hh
          simp only [Option.some.injEq, Obj.cells.injEq] at hh
          exact hL.ne hh.2.1
    clear hb hrow hL hsh
    go_enter Tryd.func35, Tryd.ntmps35
    go_wp2
    rw [run_callFunc_extern Tryd.func46 (by kernel_rfl) (by kernel_rfl) (by kernel_rfl) (e := Extern.AbiNoEscape.same) (by kernel_rfl)]
    rw [Lib.run_noEscape]
    simp only [Result.andThen]
    rw [Oper.upon_value]
    go_wp2
    go_end0
    exact ⟨rfl, HFI.out⟩
  · have hne := Lib.run_neq_ptr_same w (⟨b, 0, none⟩ : Addr) Tryd.underlying45 hj
    have HFI : Hid (BU B T b rest l w ∧ KP b w w ∧ Below B w w) := ⟨⟨hB, v, hb, hrow⟩, KP.refl b w, Below.refl B w⟩
    clear hb hrow hL
    go_enter Tryd.func35, Tryd.ntmps35
    go_wp2
    go_end0
    exact ⟨rfl, HFI.out⟩
theorem BU.row {B T b : Nat} {rest : List Value} {l : List UInt8} {W : World} (h : BU B T b rest l W) (hT : T ≠ 5) : ∃ v, W.cell? ⟨b, 0, none⟩ = some (.pointer (some ⟨b, 0, none⟩)) ∧ W.cell? ⟨b, 1, none⟩ = some v ∧ W.frozen? ⟨b, 1, none⟩ = false ∧ W.ownsRow B 5 1 v l.length (Lib.byteCells l) ∧ b < W.heap.size ∧
    (∀ (W2 W3 : World) (v' : Value) (l' : List UInt8), KP b W W2 → (∀ g, v.ownBlock = some g → True) → W2.ownsRow B 5 1 v' l'.length (Lib.byteCells l') → W2.heap[b]? = W.heap[b]? → W3 = W2.setCell ⟨b, 1, none⟩ v' → BU B T b rest l' W3 ∧ KP b W W3) := by
  obtain ⟨hB, v, hb, hrow⟩ := h
  refine ⟨v, cell_of_block hb rfl, cell_of_block hb rfl, free_of_block hb 1, hrow, (Array.getElem?_eq_some_iff.1 hb).1, ?_⟩
  rintro W2 W3 v' l' hk _ hr h2 rfl
  rw [hb] at h2
  refine ⟨⟨hB, v', ?_, owns_same hr (fun g hg => Below.heap_setCell _ _ _ _ (fun e => ?_))⟩, hk.set 1 v'⟩
  · have := set_block h2 1 v'
    simpa using this
  · have e' : g = b := e
    subst e'
    rcases hr.2 with ⟨ev, _⟩ | ⟨g', cap, cur, ev, _, hh, _⟩
    · rw [ev] at hg; cases hg
    · rw [ev] at hg
      simp only [Value.ownBlock, Option.some.injEq] at hg
      subst hg
      rw [h2] at hh
      simp only [Option.some.injEq, Obj.cells.injEq] at hh
      exact hT hh.2.1
theorem not_row {B b T n : Nat} {c : Array Value} {v : Value} {xs : List Value} {W : World} (h : W.ownsRow B 5 1 v n xs) (hb : W.heap[b]? = some (.cells c T (0, 0))) (hT : T ≠ 5) : v.ownBlock ≠ some b := by
  intro e
  rcases h.2 with ⟨ev, _⟩ | ⟨g', cap, cur, ev, _, hh, _⟩
  · rw [ev] at e; cases e
  · rw [ev] at e
    simp only [Value.ownBlock, Option.some.injEq] at e
    subst e
    rw [hb] at hh
    simp only [Option.some.injEq, Obj.cells.injEq] at hh
    exact hT hh.2.1
set_option maxHeartbeats 2000000 in
set_option maxRecDepth 100000 in
theorem len_any (B T b : Nat) (rest : List Value) (l : List UInt8) (w : World) (h : BA B T b rest l w) :
    Calls Tryd.prog 65 #[.pointer (some ⟨b, 0, none⟩)] w fun e w' => e = .returned (.int .i64 ((l.length : Nat) : Int)) ∧ w' = w := by
  obtain ⟨hB, a, v, hb, hrow, ha⟩ := h
  obtain ⟨ra, rc, rfl⟩ := row_form hrow
  have c1 : w.cell? ⟨b, 1, none⟩ = some (.slice ra l.length rc) := cell_of_block hb rfl
  clear hb hrow
  go_enter Tryd.func65, Tryd.ntmps65
  go_wp2
  go_ret
  exact ⟨rfl, rfl⟩
set_option maxHeartbeats 4000000 in
set_option maxRecDepth 100000 in
theorem wstr_any (B T b : Nat) (rest : List Value) (l x : List UInt8) (w : World) (hL : Lay T (rest.length + 2)) (h : BA B T b rest l w) (hlen : l.length + x.length ≤ 140737488355328) (hBw : B ≤ w.heap.size) :
    Calls Tryd.prog 45 #[.pointer (some ⟨b, 0, none⟩), .string (bOf x)] w fun e w' => e = .returned (.tuple #[.int .i64 ((x.length : Nat) : Int), .nilIface]) ∧ BU B T b rest (l ++ x) w' ∧ KP b w w' ∧ Below B w w' := by
  obtain ⟨i0, hi, hz0, hz1, hz2⟩ := info_parts info5
  have HCC : Hid (∀ _ : Unit, _) := fun _ => copy_any B T b rest l w hL h
  have hTne := hL.ne
  clear h hL
  go_enter Tryd.func45, Tryd.ntmps45
  go_wp2_with fail
  refine (HCC.out ()).mono ?_
  rintro e w1 ⟨rfl, hu, hk1, hb1⟩
  have hbk := hu.2
  have hBb := hu.1
  obtain ⟨v, c0, c1, f1, hrow, hlt, hfin⟩ := hu.row hTne
  obtain ⟨vb, hvb, _⟩ := hbk
  have hnr : v.ownBlock ≠ some b := by
    obtain ⟨v2, hb2, hr2⟩ := hu.2
    have : v2 = v := by
      have := cell_of_block (o := 1) hb2 rfl
      rw [c1] at this
      exact (Option.some.inj this).symm
    subst this
    exact not_row hr2 hb2 hTne
  have hx : (bOf x).size = x.length := bOf_size x
  have HST : Hid (∀ (w2 : World) (v2 : Value), w2.ownsRow B 5 1 v2 (l.length + (bOf x).size) (Lib.byteCells l ++ Lib.strCells (bOf x)) → w1.grownBy w2 v.ownBlock → w2.frozen? ⟨b, 1, none⟩ = false ∧ (∃ u, w2.cell? ⟨b, 1, none⟩ = some u) ∧ BU B T b rest (l ++ x) (w2.setCell ⟨b, 1, none⟩ v2) ∧ KP b w (w2.setCell ⟨b, 1, none⟩ v2) ∧ Below B w (w2.setCell ⟨b, 1, none⟩ v2)) := fun w2 v2 h2 hg => by
    have hbb : w2.heap[b]? = w1.heap[b]? := hg.block b hlt (fun e => hnr e.symm)
    have hr : w2.ownsRow B 5 1 v2 (l ++ x).length (Lib.byteCells (l ++ x)) := by rw [List.length_append, byteC_app, ← strC, ← hx]; exact h2
    have hkg : KP b w1 w2 := (KP.refl b w1).grown hrow hg
    obtain ⟨q1, q2⟩ := hfin w2 _ v2 (l ++ x) hkg (fun _ _ => trivial) hr hbb rfl
    refine ⟨?_, ⟨v, ?_⟩, q1, hk1.trans q2, (hb1.grown hg (Nat.le_trans hBw hb1.size) (fun k e => (World.ownsRow.lt hrow k e).1)).setCell (p := ⟨b, 1, none⟩) hBb _⟩
    · rw [World.frozen?, hbb]; exact f1
    · rw [World.cell?, hbb]; exact c1
  have hlen' : l.length + (bOf x).size ≤ 140737488355328 := by rw [hx]; exact hlen
  have h63 : l.length + (bOf x).size ≤ maxLen := by unfold maxLen; omega
  have hBw1 : B ≤ w1.heap.size := Nat.le_trans hBw hb1.size
  clear hfin hnr hk1 hb1 hu hvb
  go_wp2_with (at_builtin; refine Lib.wpList_append_own_string _ rfl _ _ 46 9 rfl B 5 i0 Tryd.underlying46 Tryd.underlying9 hi hz0 hz1 hz2 _ _ _ rfl hrow (bOf x) rfl h63 hlen' hBw1 ?_; intro v2 w2 hown hg _; obtain ⟨qa, qc, rfl⟩ := row_form hown; obtain ⟨f2, ⟨u2, c2⟩, HE0⟩ := HST.out w2 _ hown hg; have HE : Hid _ := HE0; clear hown hg HE0)
  go_ret2
  exact ⟨rfl, HE.out⟩
set_option maxHeartbeats 4000000 in
set_option maxRecDepth 100000 in
theorem wbyte_any (B T b : Nat) (rest : List Value) (l : List UInt8) (c : UInt8) (w : World) (hL : Lay T (rest.length + 2)) (h : BA B T b rest l w) (hlen : l.length + 1 ≤ 140737488355328) (hBw : B ≤ w.heap.size) :
    Calls Tryd.prog 19 #[.pointer (some ⟨b, 0, none⟩), .int .u8 ((c.toNat : Nat) : Int)] w fun e w' => e = .returned .nilIface ∧ BU B T b rest (l ++ [c]) w' ∧ KP b w w' ∧ Below B w w' := by
  obtain ⟨i0, hi, hz0, hz1, hz2⟩ := info_parts info5
  have HCC : Hid (∀ _ : Unit, _) := fun _ => copy_any B T b rest l w hL h
  have hTne := hL.ne
  clear h hL
  go_enter Tryd.func19, Tryd.ntmps19
  go_wp2_with fail
  refine (HCC.out ()).mono ?_
  rintro e w1 ⟨rfl, hu, hk1, hb1⟩
  have hBb := hu.1
  obtain ⟨v, c0, c1, f1, hrow, hlt, hfin⟩ := hu.row hTne
  have hnr : v.ownBlock ≠ some b := by
    obtain ⟨v2, hb2, hr2⟩ := hu.2
    have : v2 = v := by
      have := cell_of_block (o := 1) hb2 rfl
      rw [c1] at this
      exact (Option.some.inj this).symm
    subst this
    exact not_row hr2 hb2 hTne
  have HST : Hid (∀ (w2 : World) (v2 : Value), w2.ownsRow B 5 1 v2 (l.length + 1) (Lib.byteCells l ++ [Value.int .u8 ((c.toNat : Nat) : Int)]) → (w1.alloc (.cells #[.int .u8 ((c.toNat : Nat) : Int)] 5)).grownBy w2 v.ownBlock → w2.frozen? ⟨b, 1, none⟩ = false ∧ (∃ u, w2.cell? ⟨b, 1, none⟩ = some u) ∧ BU B T b rest (l ++ [c]) (w2.setCell ⟨b, 1, none⟩ v2) ∧ KP b w (w2.setCell ⟨b, 1, none⟩ v2) ∧ Below B w (w2.setCell ⟨b, 1, none⟩ v2)) := fun w2 v2 h2 hg => by
    have hba : (w1.alloc (.cells #[.int .u8 ((c.toNat : Nat) : Int)] 5)).heap[b]? = w1.heap[b]? := Below.heap_alloc _ _ _ hlt
    have hbb : w2.heap[b]? = w1.heap[b]? := (hg.block b (by simp; omega) (fun e => hnr e.symm)).trans hba
    have hr : w2.ownsRow B 5 1 v2 (l ++ [c]).length (Lib.byteCells (l ++ [c])) := by rw [List.length_append, byteC_app]; exact h2
    have hkg : KP b w1 w2 := (KP.of (below_new w1 (.cells #[.int .u8 ((c.toNat : Nat) : Int)] 5))).grown (World.ownsRow.alloc hrow _) hg
    obtain ⟨q1, q2⟩ := hfin w2 _ v2 (l ++ [c]) hkg (fun _ _ => trivial) hr hbb rfl
    have hB1 : B ≤ w1.heap.size := Nat.le_trans hBw hb1.size
    refine ⟨?_, ⟨v, ?_⟩, q1, hk1.trans q2, ((hb1.alloc hB1 _).grown hg (by simp; omega) (fun k e => (World.ownsRow.lt hrow k e).1)).setCell (p := ⟨b, 1, none⟩) hBb _⟩
    · rw [World.frozen?, hbb]; exact f1
    · rw [World.cell?, hbb]; exact c1
  have h63 : l.length + 1 ≤ maxLen := by unfold maxLen; omega
  have hl1 : (l.length + 1) * 1 ≤ 140737488355328 := by omega
  have hBw1 : B ≤ (w1.alloc (.cells #[.int .u8 ((c.toNat : Nat) : Int)] 5)).heap.size := by simp; exact Nat.le_succ_of_le (Nat.le_trans hBw hb1.size)
  have HRA : Hid ((w1.alloc (.cells #[.int .u8 ((c.toNat : Nat) : Int)] 5)).ownsRow B 5 1 v l.length (Lib.byteCells l)) := World.ownsRow.alloc hrow _
  have HNC : Hid (∀ j u, [Value.int .u8 ((c.toNat : Nat) : Int)][j]? = some u → (w1.alloc (.cells #[.int .u8 ((c.toNat : Nat) : Int)] 5)).cell? ((⟨w1.heap.size, 0, none⟩ : Addr).add j) = some u) := fun j u hj => by
    match j, hj with
    | 0, hj => simp at hj; subst hj; simp [Addr.add]
  have HOC : Hid (∀ u ∈ [Value.int .u8 ((c.toNat : Nat) : Int)], u.oneCell' = true) := by intro u hu; simp at hu; subst hu; rfl
  clear hfin hnr hk1 hb1 hu hrow
  go_wp2_with (at_builtin; refine wpList_append_own _ rfl _ _ 46 rfl B 5 i0 (.int .u8 0) 1 1 Tryd.underlying46 hi hz0 hz1 hz2 rfl (by decide) _ _ _ rfl HRA.out ⟨w1.heap.size, 0, none⟩ 1 1 [.int .u8 ((c.toNat : Nat) : Int)] rfl rfl HNC.out HOC.out h63 hl1 hBw1 ?_; intro v2 w2 hown hg _; obtain ⟨qa, qc, rfl⟩ := row_form hown; obtain ⟨f2, ⟨u2, c2⟩, HE0⟩ := HST.out w2 _ hown hg; have HE : Hid _ := HE0; clear hown hg HE0)
  go_ret
  exact ⟨rfl, HE.out⟩
theorem cells5 : Tryd.prog.cellsOf 5 = 1 := by kernel_rfl
set_option maxHeartbeats 4000000 in
set_option maxRecDepth 100000 in
theorem bstr_any (B T b : Nat) (rest : List Value) (l : List UInt8) (w : World) (h : BA B T b rest l w) (h0 : l ≠ []) :
    Calls Tryd.prog 21 #[.pointer (some ⟨b, 0, none⟩)] w fun e w' => e = .returned (.string (bOf l)) ∧ Below B w w' := by
  obtain ⟨hB, a, v, hbk, hown, _⟩ := h
  have hl0 : l.length ≠ 0 := by simpa using h0
  obtain ⟨g, cap, cur, rfl, hbg, hg, hnc, hcm, hcs, htake⟩ : ∃ g cap cur, v = .slice (some ⟨g, 0, none⟩) l.length cap ∧ B ≤ g ∧ w.heap[g]? = some (.cells cur 5 (0, 0)) ∧ l.length ≤ cap ∧ cap ≤ maxLen ∧ cur.size = cap * 1 ∧ cur.toList.take (l.length * 1) = Lib.byteCells l := by
    rcases hown.2 with ⟨_, hz⟩ | ⟨g, cap, cur, hv, r⟩
    · exact absurd hz hl0
    · exact ⟨g, cap, cur, hv, r⟩
  have c1 : w.drew.cell? ⟨b, 1, none⟩ = some (.slice (some ⟨g, 0, none⟩) l.length cap) := cell_of_block (w := w.drew) (f := (0, 0)) hbk rfl
  have hSD : (Builtin.unsafeSliceData_ #[46] 88 #[.slice (some ⟨g, 0, none⟩) l.length cap]).run Tryd.prog w.drew = .ok (.pointer (some ⟨g, 0, none⟩)) w.drew :=
    Lib.run_unsafeSliceData_row _ _ _ _ _ _ (by omega)
  have hUS : (Builtin.unsafeString_ #[88, 3] 9 #[.pointer (some ⟨g, 0, none⟩), .int .i64 l.length]).run Tryd.prog w.drew = .ok (.string (bOf l)) (w.drew.freeze ⟨g, 0, none⟩ l.length) := by
    refine Lib.run_unsafeString_row w.drew 88 3 9 5 Tryd.underlying88 cells5 g cur.size (by have hg' : w.drew.heap[g]? = some (.cells cur 5 (0, 0)) := hg; simp [World.shape?, hg']) l h0 (by omega) (by unfold maxLen at hcm; omega) ?_
    intro j x hx
    exact hown.cells (g := g) rfl j (.int .u8 x.toNat) (by simp [Lib.byteCells, hx])
  have HFI : Hid (Below B w (w.drew.freeze ⟨g, 0, none⟩ l.length)) := Lib.below_freeze (Below.drew (Below.refl B w)) (p := ⟨g, 0, none⟩) hbg _
  clear hbk hown hg htake
  go_enter Tryd.func21, Tryd.ntmps21
  go_wp2
  go_region
  all_goals (go_wp2; go_ret; exact ⟨rfl, HFI.out⟩)
end Go.Proofs.YtcdagmgbfihbdaaDoor
