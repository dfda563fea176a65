/-
  Cut's round, as the walk asks it of memory.
-/
import Derived.Test.YtohamjoiohfoiaaCut1
namespace Go.Proofs.Ytohamjoiohfoiaa
open Go.RowKit
theorem KcC.tr {ob : Option Nat} {A B C : World} (h : KcC ob A B) (k : KcC ob B C) : KcC ob A C := h.trans k
theorem box_other {V : World} {x t6 : Nat} {T : TypeId} {u u' : Value} (h : Boxed V x T u) (hx : x ≠ t6) : Boxed (V.setCell ⟨t6, 0, none⟩ u') x T u := (Below.heap_setCell _ _ _ x (fun e => hx e)).trans h
/-- A row, so that no walk opens it. -/
def RowAt (V : World) (s : Nat) (e : TypeId) (size : Nat) (v : Value) (n : Nat) (xs : List Value) : Prop := V.ownsRow s e size v n xs
def HeadOut (w V : World) (s t5 t6 x0 n : Nat) (ob : Option Nat) (pcs : List (List Cl)) (left most : Int) (va : Option Addr) (vc : Nat) (vs : List Value) : Prop :=
      ∀ w3 v2, w3.ownsRow s 25 1 v2 (n + 1) (vs ++ [.slice none 0 0]) → (V.alloc (.cells #[.slice none 0 0] 25)).grownBy w3 (Value.slice va n vc).ownBlock →
        ∃ a2 c2, v2 = .slice a2 (n + 1) c2 ∧ w3.cell? ⟨t5, 0, none⟩ = some (.slice va n vc) ∧ w3.frozen? ⟨t5, 0, none⟩ = false ∧ (w3.setCell ⟨t5, 0, none⟩ v2).cell? ⟨x0, 0, none⟩ = some (.int .i64 most) ∧ (w3.setCell ⟨t5, 0, none⟩ v2).cell? ⟨t6, 0, none⟩ = some (.int .i64 left) ∧ (w3.setCell ⟨t5, 0, none⟩ v2).frozen? ⟨t6, 0, none⟩ = false ∧
          Hid (CutI w s t5 t6 (pcs ++ [[]]) most ((w3.setCell ⟨t5, 0, none⟩ v2).setCell ⟨t6, 0, none⟩ (.int .i64 most)) ∧ KeepsOthers V ((w3.setCell ⟨t5, 0, none⟩ v2).setCell ⟨t6, 0, none⟩ (.int .i64 most)) ∧ KcC ob V ((w3.setCell ⟨t5, 0, none⟩ v2).setCell ⟨t6, 0, none⟩ (.int .i64 most)) ∧ Boxed ((w3.setCell ⟨t5, 0, none⟩ v2).setCell ⟨t6, 0, none⟩ (.int .i64 most)) x0 3 (.int .i64 most))
def TailOut (w V : World) (s t5 t6 x0 n m pl : Nat) (ob : Option Nat) (ini : List (List Cl)) (p k : List Cl) (left left' most : Int) (go : Nat) (ua : Option Addr) (uc β : Nat) : Prop :=
      ∀ w3 u2, w3.ownsRow β 24 4 u2 (pl + m) (flC p ++ flC k) → V.grownBy w3 (Value.slice ua pl uc).ownBlock →
        ∃ a2 c2, u2 = .slice a2 (pl + m) c2 ∧ w3.cell? ⟨go, n, none⟩ = some (.slice ua pl uc) ∧ w3.frozen? ⟨go, n, none⟩ = false ∧ (w3.setCell ⟨go, n, none⟩ u2).cell? ⟨t6, 0, none⟩ = some (.int .i64 left) ∧ (w3.setCell ⟨go, n, none⟩ u2).frozen? ⟨t6, 0, none⟩ = false ∧
          Hid (CutI w s t5 t6 (ini ++ [p ++ k]) left' ((w3.setCell ⟨go, n, none⟩ u2).setCell ⟨t6, 0, none⟩ (.int .i64 left')) ∧ KeepsOthers V ((w3.setCell ⟨go, n, none⟩ u2).setCell ⟨t6, 0, none⟩ (.int .i64 left')) ∧ KcC ob V ((w3.setCell ⟨go, n, none⟩ u2).setCell ⟨t6, 0, none⟩ (.int .i64 left')) ∧ Boxed ((w3.setCell ⟨go, n, none⟩ u2).setCell ⟨t6, 0, none⟩ (.int .i64 left')) x0 3 (.int .i64 most))
theorem cut_head {w V : World} {s t5 t6 x0 n : Nat} {ob : Option Nat} {pcs : List (List Cl)} {left : Int} {most : Int} (hs : s ≤ w.heap.size) (hob : ∀ b, ob = some b → b < s) (ht5 : s ≤ t5) (ht6 : s ≤ t6) (h65 : t6 ≠ t5) (hx5 : x0 ≠ t5) (hx6 : x0 ≠ t6) (hn : pcs.length = n) (h : CutI w s t5 t6 pcs left V) (hx : Boxed V x0 3 (.int .i64 most)) :
    ∃ va vc vs, V.cell? ⟨t5, 0, none⟩ = some (.slice va n vc) ∧ V.cell? ⟨t6, 0, none⟩ = some (.int .i64 left) ∧ RowAt (V.alloc (.cells #[.slice none 0 0] 25)) s 25 1 (.slice va n vc) n vs ∧
      HeadOut w V s t5 t6 x0 n ob pcs left most va vc vs := by
  obtain ⟨⟨v, vs, β, h1, h2, h3, h4, h5, h6⟩, hl, hb⟩ := h
  rw [hn] at h2
  obtain ⟨va, vc, rfl⟩ := row_form4 h2
  refine ⟨va, vc, vs, h1.cell, hl.cell, World.ownsRow.alloc h2 _, fun w3 v2 q1 q2 => ?_⟩
  obtain ⟨a2, c2, e2, r1, r2, r3, r4⟩ := cut_new hs hob ht5 hn h1 h2 h3 h6 hl hb q1 q2
  have bx := r3 x0 3 _ hx hx5 (by decide)
  have b6 := r3 t6 3 _ hl h65 (by decide)
  obtain ⟨g1, g2, g3⟩ := cut_left (left' := most) hob ht6 r4.out.1
  exact ⟨a2, c2, e2, r1, r2, bx.cell, b6.cell, b6.frozen, g1, r4.out.2.1.trans g2, r4.out.2.2.tr g3, box_other bx hx6⟩
theorem cut_tail {w V : World} {s t5 t6 x0 n m pl : Nat} {ob : Option Nat} {ini : List (List Cl)} {p k : List Cl} {left left' most : Int} (hs : s ≤ w.heap.size) (hob : ∀ b, ob = some b → b < s) (ht6 : s ≤ t6) (hx6 : x0 ≠ t6) (hn : ini.length = n) (hp : p.length = pl) (hk : k.length = m) (h : CutI w s t5 t6 (ini ++ [p]) left V) (hx : Boxed V x0 3 (.int .i64 most)) :
    ∃ go cap ua uc β, V.cell? ⟨t5, 0, none⟩ = some (.slice (some ⟨go, 0, none⟩) (n + 1) cap) ∧ V.cell? ⟨t6, 0, none⟩ = some (.int .i64 left) ∧ V.cell? ⟨go, n, none⟩ = some (.slice ua pl uc) ∧ β ≤ V.heap.size ∧ RowAt V β 24 4 (.slice ua pl uc) pl (flC p) ∧
      TailOut w V s t5 t6 x0 n m pl ob ini p k left left' most go ua uc β := by
  obtain ⟨⟨v, vs, β, h1, h2, h3, h4, h5, h6⟩, hl, hb⟩ := h
  have hpl : (ini ++ [p]).length = n + 1 := by rw [List.length_append, List.length_singleton, hn]
  rw [hpl] at h2
  obtain ⟨go, cap, rfl⟩ := ownsRow_succ h2
  obtain ⟨u, hu, hru, hgu⟩ := h6 n p (by rw [List.getElem?_append_right (by omega), hn, Nat.sub_self]; rfl)
  have hrβ : V.ownsRow β 24 4 u p.length (flC p) := row_from hru (fun g hg => (hgu g hg).2 hpl.symm)
  rw [hp] at hrβ
  obtain ⟨ua, uc, rfl⟩ := row_form4 hrβ
  refine ⟨go, cap, ua, uc, β, h1.cell, hl.cell, by rw [h2.cellAt n (by omega)]; exact hu, h5, hrβ, fun w3 u2 q1 q2 => ?_⟩
  rw [← hp] at q1
  obtain ⟨a2, c2, e2, r1, r2, r3, r4⟩ := cut_grow hs hob hn h1 h2 hu h4 h5 h6 hl hb hk q1 q2
  have bx := r3 x0 3 _ hx (by decide) (by decide)
  have b6 := r3 t6 3 _ hl (by decide) (by decide)
  obtain ⟨g1, g2, g3⟩ := cut_left (left' := left') hob ht6 r4.out.1
  exact ⟨a2, c2, by rw [← hp]; exact e2, r1, r2, b6.cell, b6.frozen, g1, r4.out.2.1.trans g2, r4.out.2.2.tr g3, box_other bx hx6⟩
end Go.Proofs.Ytohamjoiohfoiaa
