/-
  Add behind any number of tasks.
-/
import Derived.Test.YtefmhghdehokcaaMany
namespace Go.Proofs.Ytefmhghdehokcaa
open Go.RowKit
set_option maxRecDepth 100000 in
set_option maxHeartbeats 4000000 in
/-- Add behind n tasks. -/
theorem add_more (p q n : Nat) (vp vk vd vs vw : Value) (v4 v5 v7 : Value) (ts ws : List Value) (w : World) (hp : w.heap[p]? = some (.cells #[vp, vk, vs, vw, v4, v5, vd, v7] 83 (0, 0))) (ot : w.ownsRow (p + 1) 86 1 vs n ts) (ow : w.ownsRow (p + 1) 3 1 vw n ws) (hn : n < 64) :
    Calls Try.prog 22 #[.pointer (some ⟨p, 0, none⟩), .iface 58 (.pointer (some ⟨q, 0, none⟩))] w fun r w' => ∃ vs' vw', r = .returned (.tuple #[.int .i64 (n : Nat), .int .i64 0]) ∧ w'.heap[p]? = some (.cells #[vp, vk, vs', vw', v4, v5, vd, v7] 83 (0, 0)) ∧ w'.ownsRow (p + 1) 86 1 vs' (n + 1) (ts ++ [.iface 58 (.pointer (some ⟨q, 0, none⟩))]) ∧ w'.ownsRow (p + 1) 3 1 vw' (n + 1) (ws ++ [.int .i64 0]) ∧ Kb (fun b => b = p ∨ vs.ownBlock = some b ∨ vw.ownBlock = some b) w w' := by
  obtain ⟨i3, hi3, z30, z31, z32⟩ := info_parts info3
  obtain ⟨i8, hi8, z80, z81, z82⟩ := info_parts info86
  have hps := (Array.getElem?_eq_some_iff.1 hp).1
  have hin := iface_nil q
  have hne : ∀ b, vs.ownBlock = some b → vw.ownBlock ≠ some b := fun b e => by
    obtain ⟨c, hc⟩ := row_block ot e
    exact row_type ow hc (by decide)
  obtain ⟨aa, cc, rfl⟩ := row_form ot
  obtain ⟨ab, cb, rfl⟩ := row_form ow
  obtain ⟨ob, hob⟩ : ∃ ob, (Value.slice aa n cc).ownBlock = ob := ⟨_, rfl⟩
  obtain ⟨od, hod⟩ : ∃ od, (Value.slice ab n cb).ownBlock = od := ⟨_, rfl⟩
  have c2 : w.cell? ⟨p, 2, none⟩ = some (.slice aa n cc) := by have := cells_of_block hp 2; simpa using this
  have lt1 : ∀ b, ob = some b → p + 1 ≤ b ∧ b < w.heap.size := fun b e => ot.lt b (hob.trans e)
  have lt2 : ∀ b, od = some b → p + 1 ≤ b ∧ b < w.heap.size := fun b e => ow.lt b (hod.trans e)
  have ne2 : ∀ b, ob = some b → od ≠ some b := fun b e => by rw [← hod]; exact hne b (hob.trans e)
  rw [hob, hod]
  have HP : Hid _ := hp
  have HOT : Hid _ := ot
  have HOW : Hid _ := ow
  have HOB : Hid _ := hob
  have HOD : Hid _ := hod
  have HL1 : Hid _ := lt1
  have HL2 : Hid _ := lt2
  have HN2 : Hid _ := ne2
  clear hp ot ow hne hob hod lt1 lt2 ne2
  go_enter Try.func22, Try.ntmps22
  go_wp2_with (at_builtin; go_loud (refine wpList_append_lies _ rfl (.tmp 20) (.tmp 22) 81 rfl (p + 1) 86 i8 .nilIface 1 16 Try.underlying81 hi8 z80 z81 z82 rfl (by decide) _ _ _ rfl (World.ownsRow.alloc HOT.out _) ⟨w.heap.size, 0, none⟩ 1 1 [.iface 58 (.pointer (some ⟨q, 0, none⟩))] rfl rfl (cell_one_new _ _ _) (by simp [Value.oneCell']) (by decide) (by unfold maxLen; omega) (by omega) (by simp; omega) (w.heap.size + 1) (by simp) ?_))
  intro g cap w2 hown2 hg2 hat2 hlt2
  have hob := HOB.out
  have hod := HOD.out
  have lt1 := HL1.out
  have lt2 := HL2.out
  have ne2 := HN2.out
  rw [hob] at hg2 hat2
  have gge : p + 1 ≤ g := by
    rcases hat2 with h | h
    · exact (lt1 g h).1
    · omega
  have gne : od ≠ some g := fun e => by
    rcases hat2 with h | h
    · exact ne2 g h e
    · have := (lt2 g e).2; omega
  have k2 : Kb (fun b => ob = some b) w w2 := ((Kb.refl _ w).alloc _).grown hg2 (fun r e => Or.inl e)
  have hp2 := (k2.block p hps (fun e => by have := (lt1 p e).1; omega)).trans HP.out
  have c22 : w2.cell? ⟨p, 2, none⟩ = some (.slice aa n cc) := by have := cells_of_block hp2 2; simpa using this
  have f22 : w2.frozen? ⟨p, 2, none⟩ = false := by simp [World.frozen?, hp2]
  have hpY := block_set hp2 2 (.slice (some ⟨g, 0, none⟩) (n + 1) cap)
  have oY : (w2.setCell ⟨p, 2, none⟩ (.slice (some ⟨g, 0, none⟩) (n + 1) cap)).ownsRow (p + 1) 86 1 (.slice (some ⟨g, 0, none⟩) (n + 1) cap) (n + 1) (ts ++ [.iface 58 (.pointer (some ⟨q, 0, none⟩))]) := owns_same hown2 (fun b e => Below.heap_setCell _ _ _ _ (by show b ≠ p; simp only [Value.ownBlock, Option.some.injEq] at e; omega))
  have oW : (w2.setCell ⟨p, 2, none⟩ (.slice (some ⟨g, 0, none⟩) (n + 1) cap)).ownsRow (p + 1) 3 1 (.slice ab n cb) n ws := owns_same HOW.out (fun b e => by
    rw [hod] at e
    have := lt2 b e
    exact (Below.heap_setCell _ _ _ _ (by show b ≠ p; omega)).trans (k2.block b this.2 (fun e2 => ne2 b e2 e)))
  have kY : Kb (fun b => b = p ∨ ob = some b) w (w2.setCell ⟨p, 2, none⟩ (.slice (some ⟨g, 0, none⟩) (n + 1) cap)) := (k2.mono (S' := fun b => b = p ∨ ob = some b) (fun b e => Or.inr e)).setCell (x := p) (Or.inl rfl) _ _
  obtain ⟨Y, hY⟩ : ∃ Y, w2.setCell ⟨p, 2, none⟩ (.slice (some ⟨g, 0, none⟩) (n + 1) cap) = Y := ⟨_, rfl⟩
  rw [hY] at hpY oY kY oW
  have hpY' : Y.heap[p]? = some (.cells #[vp, vk, .slice (some ⟨g, 0, none⟩) (n + 1) cap, .slice ab n cb, v4, v5, vd, v7] 83 (0, 0)) := hpY
  have y3 : Y.cell? ⟨p, 3, none⟩ = some (.slice ab n cb) := by have := cells_of_block hpY' 3; simpa using this
  have HPY : Hid _ := hpY'
  have HOY : Hid _ := oY
  have HOWY : Hid _ := oW
  have HKY : Hid _ := kY
  have hYs : w.heap.size ≤ Y.heap.size := kY.size
  have hpYs : p < Y.heap.size := by omega
  have HY : Hid _ := hY
  have HGE : Hid _ := gge
  have HGN : Hid _ := gne
  clear hown2 hg2 hat2 hlt2 hpY hpY' oY oW kY hp2 k2 hY gge gne hob hod lt1 lt2 ne2
  go_upto_region 8 with fail
  rw [HY.out]
  clear HY
  go_wp2_with (at_builtin; refine wpList_append_lies _ rfl (.tmp 30) (.tmp 31) 22 rfl (p + 1) 3 i3 (.int .i64 0) 1 8 Try.underlying22 hi3 z30 z31 z32 rfl (by decide) _ _ _ rfl (World.ownsRow.alloc HOWY.out _) ⟨Y.heap.size, 0, none⟩ 1 1 [.int .i64 0] rfl rfl (cell_one_new _ _ _) (by simp [Value.oneCell']) (by decide) (by unfold maxLen; omega) (by omega) (by simp; omega) (Y.heap.size + 1) (by simp) ?_)
  intro g3 cap3 w3 hown3 hg3 hat3 hlt3
  have hob := HOB.out
  have hod := HOD.out
  have lt1 := HL1.out
  have lt2 := HL2.out
  have gge := HGE.out
  have gne := HGN.out
  rw [hod] at hg3 hat3
  have gge3 : p + 1 ≤ g3 := by
    rcases hat3 with h | h
    · exact (lt2 g3 h).1
    · omega
  have k3 : Kb (fun b => od = some b) Y w3 := ((Kb.refl _ Y).alloc _).grown hg3 (fun r e => Or.inl e)
  have hp3 := (k3.block p hpYs (fun e => by have := (lt2 p e).1; omega)).trans HPY.out
  have c33 : w3.cell? ⟨p, 3, none⟩ = some (.slice ab n cb) := by have := cells_of_block hp3 3; simpa using this
  have f33 : w3.frozen? ⟨p, 3, none⟩ = false := by simp [World.frozen?, hp3]
  have hpZ : (w3.setCell ⟨p, 3, none⟩ (.slice (some ⟨g3, 0, none⟩) (n + 1) cap3)).heap[p]? = some (.cells #[vp, vk, .slice (some ⟨g, 0, none⟩) (n + 1) cap, .slice (some ⟨g3, 0, none⟩) (n + 1) cap3, v4, v5, vd, v7] 83 (0, 0)) := block_set hp3 3 _
  have oZ : (w3.setCell ⟨p, 3, none⟩ (.slice (some ⟨g3, 0, none⟩) (n + 1) cap3)).ownsRow (p + 1) 3 1 (.slice (some ⟨g3, 0, none⟩) (n + 1) cap3) (n + 1) (ws ++ [.int .i64 0]) := owns_same hown3 (fun b e => Below.heap_setCell _ _ _ _ (by show b ≠ p; simp only [Value.ownBlock, Option.some.injEq] at e; omega))
  have oZ2 : (w3.setCell ⟨p, 3, none⟩ (.slice (some ⟨g3, 0, none⟩) (n + 1) cap3)).ownsRow (p + 1) 86 1 (.slice (some ⟨g, 0, none⟩) (n + 1) cap) (n + 1) (ts ++ [.iface 58 (.pointer (some ⟨q, 0, none⟩))]) := owns_same HOY.out (fun b e => by
    have hb := (World.ownsRow.lt HOY.out b e).2
    simp only [Value.ownBlock, Option.some.injEq] at e
    subst e
    exact (Below.heap_setCell _ _ _ _ (by show g ≠ p; omega)).trans (k3.block g hb gne))
  have kZ : Kb (fun b => b = p ∨ ob = some b ∨ od = some b) w (w3.setCell ⟨p, 3, none⟩ (.slice (some ⟨g3, 0, none⟩) (n + 1) cap3)) := ((Kb.mono (S' := fun b => b = p ∨ ob = some b ∨ od = some b) HKY.out (fun b e => e.elim (fun e => Or.inl e) (fun e => Or.inr (Or.inl e)))).trans k3 (fun _ _ e => Or.inr (Or.inr e))).setCell (x := p) (Or.inl rfl) _ _
  obtain ⟨Z, hZ⟩ : ∃ Z, w3.setCell ⟨p, 3, none⟩ (.slice (some ⟨g3, 0, none⟩) (n + 1) cap3) = Z := ⟨_, rfl⟩
  rw [hZ] at hpZ oZ oZ2 kZ
  have z2 : Z.cell? ⟨p, 2, none⟩ = some (.slice (some ⟨g, 0, none⟩) (n + 1) cap) := by have := cells_of_block hpZ 2; simpa using this
  have HPZ : Hid _ := hpZ
  have HOZ : Hid _ := oZ
  have HOZ2 : Hid _ := oZ2
  have HKZ : Hid _ := kZ
  have HZ : Hid _ := hZ
  clear hown3 hg3 hat3 hlt3 hpZ oZ oZ2 kZ hp3 k3 hZ gge gne gge3 lt1 lt2 hob hod
  go_upto_region 9 with fail
  rw [HZ.out]
  clear HZ
  go_wp2_with fail
  go_ret2
  exact ⟨_, _, rfl, HPZ.out, HOZ2.out, HOZ.out, HKZ.out⟩
/-- Add onto a loop: a task that is none of its own yet. -/
theorem la_add (p : Nat) (S : LS) (t : Tk) (w : World) (h : LA w p S) (hn : S.tks.length < 64) (ht : TkAt (p + 1) w t) (haa : ∀ ad, t.aa = some ad → ad.block < w.heap.size ∧ ∃ c f, w.heap[ad.block]? = some (.cells c 54 f)) (hnew : ∀ (i : Nat) (u : Tk), S.tks[i]? = some u → u.q ≠ t.q ∧ ∀ g, u.vt.ownBlock = some g → t.vt.ownBlock ≠ some g) :
    Calls Try.prog 22 #[.pointer (some ⟨p, 0, none⟩), tkV t] w fun r w' => r = .returned (.tuple #[.int .i64 (S.tks.length : Nat), .int .i64 0]) ∧ ∃ vs' vw', LA w' p { S with vs := vs', vw := vw', tks := S.tks ++ [t], waits := S.waits ++ [0] } ∧ Kb (fun b => b = p ∨ S.vs.ownBlock = some b ∨ S.vw.ownBlock = some b) w w' := by
  have hps := (Array.getElem?_eq_some_iff.1 h.hp).1
  refine (add_more p t.q S.tks.length S.vp S.vk S.vd S.vs S.vw _ _ _ _ _ w h.hp h.tasks h.waits hn).mono ?_
  rintro r w' ⟨vs', vw', rfl, hp', o1, o2, k⟩
  have low : ∀ b : Nat, (b = p ∨ S.vs.ownBlock = some b ∨ S.vw.ownBlock = some b) → p ≤ b := fun b e => by
    rcases e with e | e | e
    · omega
    · have := (h.tasks.lt b e).1; omega
    · have := (h.waits.lt b e).1; omega
  have typ : ∀ (b : Nat) (c : Array Value) (ty : TypeId) (f : Nat × Nat), w.heap[b]? = some (.cells c ty f) → ty ≠ 83 → ty ≠ 86 → ty ≠ 3 → ¬ (b = p ∨ S.vs.ownBlock = some b ∨ S.vw.ownBlock = some b) := fun b c ty f hb n1 n2 n3 e => by
    rcases e with e | e | e
    · rw [e, h.hp] at hb
      simp only [Option.some.injEq, Obj.cells.injEq] at hb
      exact n1 hb.2.1.symm
    · exact row_type h.tasks hb n2 e
    · exact row_type h.waits hb n3 e
  have one : ∀ u : Tk, TkAt (p + 1) w u → (∀ ad, u.aa = some ad → ad.block < w.heap.size ∧ ∃ c f, w.heap[ad.block]? = some (.cells c 54 f)) → TkAt (p + 1) w' u ∧ (∀ ad, u.aa = some ad → ad.block < w'.heap.size ∧ ∃ c f, w'.heap[ad.block]? = some (.cells c 54 f)) := fun u hu hua => by
    refine ⟨hu.kb k (typ _ _ _ _ hu.hq (by decide) (by decide) (by decide)) (fun g hg => ?_) (fun ad e => ?_), fun ad e => ?_⟩
    · obtain ⟨c, hc⟩ := row_block hu.told hg
      exact typ _ _ _ _ hc (by decide) (by decide) (by decide)
    · obtain ⟨hb, c, f, hc⟩ := hua ad e
      exact typ _ _ _ _ hc (by decide) (by decide) (by decide)
    · obtain ⟨hb, c, f, hc⟩ := hua ad e
      exact ⟨Nat.lt_of_lt_of_le hb k.size, c, f, (k.block _ hb (typ _ _ _ _ hc (by decide) (by decide) (by decide))).trans hc⟩
  have row : ∀ v l, RowAt p w v l → RowAt p w' v l := fun v l hr => hr.kb hps (fun b e => low b e) k
  have hlen : (S.tks ++ [t]).length = S.tks.length + 1 := by simp
  have at' : ∀ (i : Nat) (u : Tk), (S.tks ++ [t])[i]? = some u → S.tks[i]? = some u ∨ (i = S.tks.length ∧ u = t) := fun i u hi => by
    rw [List.getElem?_append] at hi
    split at hi
    · exact Or.inl hi
    · rename_i hlt
      have : i - S.tks.length = 0 := by
        have := (List.getElem?_eq_some_iff.1 hi).1
        simp at this
        omega
      rw [this] at hi
      simp at hi
      exact Or.inr ⟨by omega, hi.symm⟩
  refine ⟨rfl, vs', vw', { hp := hp', picks := row _ _ h.picks, ticks := row _ _ h.ticks, draws := row _ _ h.draws, tasks := ?_, waits := ?_, each := ?_, apart := ?_ }, k⟩
  · show w'.ownsRow (p + 1) 86 1 vs' (S.tks ++ [t]).length ((S.tks ++ [t]).map tkV)
    rw [hlen, List.map_append]
    exact o1
  · show w'.ownsRow (p + 1) 3 1 vw' (S.tks ++ [t]).length ((S.waits ++ [0]).map iV)
    rw [hlen, List.map_append]
    exact o2
  · intro i u hi
    rcases at' i u hi with e | ⟨_, e⟩
    · exact one u (h.each i u e).1 (h.each i u e).2
    · subst e; exact one u ht haa
  · intro i j u v hij hi hj
    rcases at' i u hi with e1 | ⟨e1, e1'⟩
    · rcases at' j v hj with e2 | ⟨e2, e2'⟩
      · exact h.apart i j u v hij e1 e2
      · subst e2'; exact hnew i u e1
    · rcases at' j v hj with e2 | ⟨e2, e2'⟩
      · subst e1'
        obtain ⟨h1, h2⟩ := hnew j v e2
        exact ⟨fun e => h1 e.symm, fun g hg hg2 => h2 g hg2 hg⟩
      · omega
end Go.Proofs.Ytefmhghdehokcaa
