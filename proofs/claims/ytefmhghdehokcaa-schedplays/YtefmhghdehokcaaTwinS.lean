/-
  The twin's tasks turned one by one; what a step makes of the twin, as numbers.
-/
import Derived.Test.YtefmhghdehokcaaTwinD
namespace Go.Proofs.Ytefmhghdehokcaa
open Go.RowKit
def TFootUp (w : World) (x : Nat) (T T' : TS) : Prop := ∀ b, TFoot x T' b → TFoot x T b ∨ w.heap.size ≤ b
theorem TFootUp.refl (w : World) (x : Nat) (T : TS) : TFootUp w x T T := fun _ e => Or.inl e
theorem TFootUp.set {w : World} {x i : Nat} {T : TS} {t t' : TT} (hti : T.ts[i]? = some t) (hy : t'.y = t.y) (hl : t'.vt.ownBlock = t.vt.ownBlock ∨ ∃ g, t'.vt.ownBlock = some g ∧ w.heap.size ≤ g) (T' : TS) (e1 : T'.vT = T.vT) (e2 : T'.ts = T.ts.set i t') : TFootUp w x T T' := by
  intro b hb
  rcases hb with e | e | ⟨j, u, hj, e⟩
  · exact Or.inl (Or.inl e)
  · exact Or.inl (Or.inr (Or.inl (by rw [← e1]; exact e)))
  · rw [e2, List.getElem?_set] at hj
    by_cases hij : i = j
    · rw [if_pos hij] at hj
      split at hj
      · cases hj
        rcases e with e | e
        · exact Or.inl (Or.inr (Or.inr ⟨i, t, hti, Or.inl (by rw [← hy]; exact e)⟩))
        · rcases hl with h | ⟨g, h1, h2⟩
          · exact Or.inl (Or.inr (Or.inr ⟨i, t, hti, Or.inr (by rw [← h]; exact e)⟩))
          · rw [h1] at e
            simp only [Option.some.injEq] at e
            exact Or.inr (by omega)
      · cases hj
    · rw [if_neg hij] at hj
      exact Or.inl (Or.inr (Or.inr ⟨j, u, hj, e⟩))
theorem TFootUp.trans {w w' : World} {x : Nat} {T T' T'' : TS} (h : TFootUp w x T T') (k : TFootUp w' x T' T'') (hs : w.heap.size ≤ w'.heap.size) : TFootUp w x T T'' := fun b e => by
  rcases k b e with e | e
  · exact h b e
  · exact Or.inr (by omega)
theorem TW.ty {w : World} {lo x i : Nat} {T : TS} {t : TT} (h : TW w lo x T) (hti : T.ts[i]? = some t) : ∀ g, t.vt.ownBlock = some g → g ≠ t.y := fun g e e2 => by
  have htt := h.each i t hti
  obtain ⟨c, hc⟩ := row_block htt.told e
  rw [e2, htt.hy] at hc
  simp at hc
/-- A cell of a task's own block turned. -/
theorem TW.cell_put {w : World} {lo x i o : Nat} {T : TS} {t t' : TT} {v : Value} (h : TW w lo x T) (hti : T.ts[i]? = some t) (hy : t'.y = t.y) (hA : t'.vA = t.vA) (ha : t'.acts = t.acts) (hv : t'.vt = t.vt) (ht : t'.told = t.told) (hp : t'.pos ≤ t'.acts.length) (hc : (#[t.vA, .int .i64 (t.pos : Nat), .int .i64 t.wait, t.vt] : Array Value).setIfInBounds o v = #[t'.vA, .int .i64 (t'.pos : Nat), .int .i64 t'.wait, t'.vt]) :
    TW (w.setCell ⟨t.y, o, none⟩ v) lo x { T with ts := T.ts.set i t' } ∧ Kb (fun b => b = t.y) w (w.setCell ⟨t.y, o, none⟩ v) := by
  have htt := h.each i t hti
  have k : Kb (fun b => b = t.y) w (w.setCell ⟨t.y, o, none⟩ v) := (Kb.refl (fun b => b = t.y) w).setCell rfl _ _
  refine ⟨h.put hti hy { hy := ?_, ge := by rw [hy]; exact htt.ge, acts := ?_, told := ?_, pos := hp } (k.mono (fun b e => Or.inl e)) (Or.inl (by rw [hv])), k⟩
  · rw [hy, ← hc]
    exact block_set htt.hy o v
  · rw [hA, ha]
    exact htt.acts.kb (fun b hb => Below.heap_setCell _ _ _ _ (by show b ≠ t.y; have := htt.ge; omega))
  · rw [hv, ht]
    exact owns_same htt.told (fun g e => Below.heap_setCell _ _ _ _ (h.ty hti g e))
/-- A further number taken down. -/
theorem TW.told_put {W w2 : World} {o : Obj} {lo x i g cap : Nat} {c : Int} {T : TS} {t : TT} (h : TW W lo x T) (hti : T.ts[i]? = some t) (hown : w2.ownsRow lo 45 1 (.slice (some ⟨g, 0, none⟩) (t.told.length + 1) cap) (t.told.length + 1) (t.told.map nV ++ [nV c])) (hg : (W.alloc o).grownBy w2 t.vt.ownBlock) (hat : t.vt.ownBlock = some g ∨ W.heap.size ≤ g) :
    TW (w2.setCell ⟨t.y, 3, none⟩ (.slice (some ⟨g, 0, none⟩) (t.told.length + 1) cap)) lo x { T with ts := T.ts.set i { t with vt := .slice (some ⟨g, 0, none⟩) (t.told.length + 1) cap, told := t.told ++ [c] } } ∧ Kb (fun b => b = t.y ∨ t.vt.ownBlock = some b) W (w2.setCell ⟨t.y, 3, none⟩ (.slice (some ⟨g, 0, none⟩) (t.told.length + 1) cap)) := by
  have htt := h.each i t hti
  have hys := (Array.getElem?_eq_some_iff.1 htt.hy).1
  have hlo := h.lox
  have hxs := h.xs
  have k2 : Kb (fun b => b = t.y ∨ t.vt.ownBlock = some b) W w2 := ((Kb.refl _ W).alloc _).grown hg (fun r e => Or.inl (Or.inr e))
  have kg : Kb (fun b => t.vt.ownBlock = some b) W w2 := ((Kb.refl _ W).alloc _).grown hg (fun r e => Or.inl e)
  have kY : Kb (fun b => b = t.y ∨ t.vt.ownBlock = some b) W (w2.setCell ⟨t.y, 3, none⟩ (.slice (some ⟨g, 0, none⟩) (t.told.length + 1) cap)) := k2.setCell (Or.inl rfl) _ _
  have gy : g ≠ t.y := fun e => by
    rcases hat with e2 | e2
    · exact h.ty hti g e2 e
    · omega
  have hy2 := (kg.block t.y hys (fun e => h.ty hti t.y e rfl)).trans htt.hy
  refine ⟨h.put hti rfl { hy := block_set hy2 3 _, ge := htt.ge, acts := ?_, told := ?_, pos := htt.pos } kY (hat.imp (fun e => by show some g = _; rw [e]) (fun e => ⟨g, rfl, e⟩)), kY⟩
  · exact htt.acts.kb (fun b hb => kY.block b (by omega) (fun e => by
      rcases e with e | e
      · have := htt.ge; omega
      · have := (htt.told.lt b e).1; omega))
  · show (w2.setCell _ _).ownsRow lo 45 1 _ (t.told ++ [c]).length ((t.told ++ [c]).map nV)
    rw [List.length_append, List.length_singleton, List.map_append]
    exact owns_same hown (fun k e => Below.heap_setCell _ _ _ _ (by
      show k ≠ t.y
      simp only [Value.ownBlock, Option.some.injEq] at e
      omega))
theorem set_same {α : Type} {l : List α} {i : Nat} {a : α} (h : l[i]? = some a) : l.set i a = l := by
  refine List.ext_getElem? fun m => ?_
  rw [List.getElem?_set]
  split
  · rename_i e
    subst e
    have hl := (List.getElem?_eq_some_iff.1 h).1
    rw [h]
    first | rfl | rw [if_pos hl]
  · rfl
theorem wk_same {ws : List Int} (h : ∀ y ∈ ws, y = -1 ∨ (0 ≤ y ∧ y ≤ 1024)) (ch : Int) : ws.map (fun y => if 0 < ch ∧ y = ch then 0 else y) = wakeL ch ws := by
  unfold wakeL
  by_cases hc : chanB ch = true
  · rw [if_pos hc]
    refine List.map_congr_left (fun y _ => ?_)
    unfold wk
    have h1 : 1 ≤ ch := by unfold chanB at hc; simp at hc; exact hc.1
    by_cases e : y = ch
    · rw [if_pos ⟨by omega, e⟩, if_pos e]
    · rw [if_neg (fun q => e q.2), if_neg e]
  · rw [if_neg hc]
    conv => rhs; rw [← List.map_id ws]
    refine List.map_congr_left (fun y hy => ?_)
    have h1 := h y hy
    have h2 : ¬ (1 ≤ ch ∧ ch ≤ 1024) := fun q => hc (by unfold chanB; simp [q.1, q.2])
    rw [if_neg (by omega)]
    rfl
end Go.Proofs.Ytefmhghdehokcaa
