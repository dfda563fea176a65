/-
  The contract of Find.
-/
import Derived.Test.YtbpfggpljfpfcaaDoorRof
import Derived.Test.YtbpfggpljfpfcaaDoorFil
import Derived.Laws.ResultCell
namespace Go.Proofs.YtbpfggpljfpfcaaDoor
open Go.RowKit
theorem find_at {α : Type} {p : α → Bool} : ∀ {l : List α} {k : Nat} {x : α}, l[k]? = some x → p x = true → (∀ j y, j < k → l[j]? = some y → p y = false) → l.find? p = some x
  | [], k, x, h, _, _ => by simp at h
  | a :: l, 0, x, h, hp, _ => by
    simp only [List.getElem?_cons_zero, Option.some.injEq] at h
    subst h
    rw [List.find?_cons_of_pos hp]
  | a :: l, k + 1, x, h, hp, hn => by
    rw [List.getElem?_cons_succ] at h
    rw [List.find?_cons_of_neg (by rw [hn 0 a (by omega) rfl]; decide)]
    exact find_at h hp (fun j y hj hy => hn (j + 1) y (by omega) (by rw [List.getElem?_cons_succ]; exact hy))
theorem rul_mem (i : Nat) (h : i < 10) : rul i ∈ rulesT := by
  unfold rul
  rw [List.getD_eq_getElem?_getD, List.getElem?_eq_getElem h]
  exact List.getElem_mem h
theorem rules_fill {L : List (List UInt8)} {r : Rule} (h : r ∈ rulesC L) : fillR L r.kind r.me = fillQ r (ufp (L.getD 1 [])) ∧ L.length = r.path.length ∧ (r.part ≠ 0 → L[1]? = some (L.getD 1 [])) ∧ r ∈ rulesT := by
  have hU : wSess ≠ wUsers := by decide
  match L, h with
  | [], h => cases h
  | [a], h =>
    unfold rulesC at h
    dsimp only at h
    have hh : r = rul 0 ∨ r = rul 5 ∨ r = rul 7 ∨ r = rul 9 ∨ r = rul 8 := by
      by_cases h1 : a = wSess
      · rw [if_pos h1] at h; simp at h; rcases h with h | h <;> simp [h]
      rw [if_neg h1] at h
      by_cases h2 : a = wAudit
      · rw [if_pos h2] at h; simp at h; simp [h]
      rw [if_neg h2] at h
      by_cases h3 : a = wStats
      · rw [if_pos h3] at h; simp at h; simp [h]
      rw [if_neg h3] at h
      by_cases h4 : a = wMe
      · rw [if_pos h4] at h; simp at h; simp [h]
      rw [if_neg h4] at h
      cases h
    rcases hh with rfl | rfl | rfl | rfl | rfl
    all_goals exact ⟨rfl, rfl, fun e => absurd rfl e, rul_mem _ (by decide)⟩
  | [a, b], h =>
    unfold rulesC at h
    dsimp only at h
    by_cases h1 : a = wSess ∧ b ≠ []
    · rw [if_pos h1] at h
      obtain ⟨rfl, _⟩ := h1
      have hh : r = rul 1 ∨ r = rul 3 := by simpa using h
      rcases hh with rfl | rfl
      all_goals exact ⟨by unfold fillR; dsimp only; rw [if_neg hU]; rfl, rfl, fun _ => rfl, rul_mem _ (by decide)⟩
    · rw [if_neg h1] at h; cases h
  | [a, b, c], h =>
    unfold rulesC at h
    dsimp only at h
    by_cases h1 : a = wSess ∧ b ≠ [] ∧ c = wTouch
    · rw [if_pos h1] at h
      obtain ⟨rfl, _⟩ := h1
      have hh : r = rul 2 := by simpa using h
      subst hh
      exact ⟨by unfold fillR; dsimp only; rw [if_neg hU]; rfl, rfl, fun _ => rfl, rul_mem _ (by decide)⟩
    rw [if_neg h1] at h
    by_cases h2 : a = wUsers ∧ b ≠ [] ∧ c = wSess
    · rw [if_pos h2] at h
      obtain ⟨rfl, _⟩ := h2
      have hh : r = rul 4 ∨ r = rul 6 := by simpa using h
      rcases hh with rfl | rfl
      all_goals exact ⟨by unfold fillR; dsimp only; rw [if_pos rfl]; rfl, rfl, fun _ => rfl, rul_mem _ (by decide)⟩
    · rw [if_neg h2] at h; cases h
  | _ :: _ :: _ :: _ :: _, h => cases h
theorem find_bad {m t : List UInt8} (h : splE t ≠ 0) : findR m t = (rt0, 400) := by unfold findR; rw [if_neg h]
theorem find_no {m t : List UInt8} (h : splE t = 0) (h2 : rulesR (rawL t) = []) : findR m t = (rt0, 404) := by
  unfold findR
  rw [if_pos h, if_pos ((rules_none _).1 (by rw [← rules_eq]; exact h2))]
theorem find_meth {m t : List UInt8} (h : splE t = 0) (h2 : rulesR (rawL t) ≠ []) (h3 : ∀ r ∈ rulesR (rawL t), r.meth ≠ m) : findR m t = (rt0, 405) := by
  unfold findR
  rw [if_pos h, if_neg (fun e => h2 (by rw [rules_eq]; exact (rules_none _).2 e)), ← rules_find, ← rules_eq]
  have : ((rulesR (rawL t)).map rowOf).find? (fun r => decide (r.1 = m)) = none := by
    rw [List.find?_eq_none]
    intro y hy
    obtain ⟨r, hr, rfl⟩ := List.mem_map.1 hy
    simp only [decide_eq_true_eq]
    exact h3 r hr
  rw [this]
theorem find_rule {m t : List UInt8} {k : Nat} {r : Rule} (h : splE t = 0) (hk : (rulesR (rawL t))[k]? = some r) (hm : r.meth = m) (hn : ∀ j y, j < k → (rulesR (rawL t))[j]? = some y → y.meth ≠ m) : findR m t = readR (fillQ r (ufp ((rawL t).getD 1 []))) (qryL t) (hasQ t) := by
  have hmem := List.mem_of_getElem? hk
  have h2 : rulesR (rawL t) ≠ [] := fun e => by rw [e] at hmem; cases hmem
  unfold findR
  rw [if_pos h, if_neg (fun e => h2 (by rw [rules_eq]; exact (rules_none _).2 e)), ← rules_find, ← rules_eq]
  have : ((rulesR (rawL t)).map rowOf).find? (fun r => decide (r.1 = m)) = some (rowOf r) := by
    refine find_at (k := k) (by rw [List.getElem?_map, hk]; rfl) (decide_eq_true hm) (fun j y hj hy => ?_)
    rw [List.getElem?_map] at hy
    cases hq : (rulesR (rawL t))[j]? with
    | none => rw [hq] at hy; cases hy
    | some z =>
      rw [hq] at hy
      cases hy
      exact decide_eq_false (hn j z hj hq)
  rw [this]
  rw [rules_eq] at hmem
  show readR (fillR (rawL t) r.kind r.me) _ _ = _
  rw [(rules_fill hmem).1]
theorem fillQ_kind (r : Rule) (u : List UInt8) : (fillQ r u).kind = r.kind := by
  unfold fillQ
  by_cases h1 : r.part = 1
  · rw [if_pos h1]
  rw [if_neg h1]
  by_cases h2 : r.part = 2
  · rw [if_pos h2]
  · rw [if_neg h2]
theorem rulesR_len (L : List (List UInt8)) : (rulesR L).length ≤ 10 := List.length_filter_le _ _
/-- The method's box and the result's block lie there. -/
def FB (w : World) (m : List UInt8) (W : World) : Prop := W.heap[w.heap.size]? = some (.cells #[.string (bOf m)] 9 (0, 0)) ∧ XB W (w.heap.size + 1) rt0 ∧ Below w.heap.size w W
theorem fb_start (w : World) (m : List UInt8) : FB w m ((w.alloc (.cells #[.string (bOf m)] 9)).alloc (.cells #[.int .i64 0, .string ⟨#[]⟩, .string ⟨#[]⟩, .int .i64 0, .bool false] 23)) := by
  have e1 : (w.alloc (.cells #[.string (bOf m)] 9)).heap.size = w.heap.size + 1 := by simp
  refine ⟨alloc_old (block_alloc_at _ _), ?_, ((Below.refl _ _).alloc (Nat.le_refl _) _).alloc (by simp) _⟩
  rw [← e1]
  exact block_alloc_at _ _
theorem FB.on {w : World} {m : List UInt8} {W W' : World} (h : FB w m W) (b : Below W.heap.size W W') : FB w m W' := ⟨(b.block _ (Array.getElem?_eq_some_iff.1 h.1).1).trans h.1, h.2.1.below b, h.2.2.trans (b.mono h.2.2.size)⟩
theorem FB.kb {w : World} {m : List UInt8} {W W' : World} {g : Nat} (h : FB w m W) (b : KB g W W') (hg : w.heap.size + 1 < g) : FB w m W' :=
  ⟨(b.block (by omega) (Array.getElem?_eq_some_iff.1 h.1).1).trans h.1, (b.block (by omega) h.2.1.lt).trans h.2.1, b.below (by omega) h.2.2 h.2.2.size⟩
theorem FB.fin {w : World} {m : List UInt8} {W : World} (h : FB w m W) (x : Rt) : XB (setX W (w.heap.size + 1) x) (w.heap.size + 1) x ∧ Below w.heap.size w (setX W (w.heap.size + 1) x) := ⟨h.2.1.set x, setX_below h.2.2 (by omega) x⟩
end Go.Proofs.YtbpfggpljfpfcaaDoor
