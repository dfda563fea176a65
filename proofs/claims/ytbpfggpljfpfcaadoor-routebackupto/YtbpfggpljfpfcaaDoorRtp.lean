/-
  Routes: the pure side.
-/
import Derived.Test.YtbpfggpljfpfcaaDoorUnesc
import Derived.Test.YtbpfggpljfpfcaaDoorDigits
namespace Go.Proofs.YtbpfggpljfpfcaaDoor
open Go.RowKit
/-- Pieces between bytes. -/
def cutL (c : UInt8) : List UInt8 → List (List UInt8)
  | [] => [[]]
  | x :: l => if x = c then [] :: cutL c l else (x :: (cutL c l).headD []) :: (cutL c l).tail
theorem cutL_cons (c : UInt8) (l : List UInt8) : cutL c l = (cutL c l).headD [] :: (cutL c l).tail := by
  cases l with
  | nil => rfl
  | cons x l =>
    rw [cutL]
    by_cases h : x = c
    · rw [if_pos h]; rfl
    · rw [if_neg h]; rfl
/-- The pieces, some bytes of the first of which were met already. -/
def cutA (c : UInt8) (cur l : List UInt8) : List (List UInt8) := (cur ++ (cutL c l).headD []) :: (cutL c l).tail
theorem cutA_nil (c : UInt8) (l : List UInt8) : cutA c [] l = cutL c l := by rw [cutA, List.nil_append, ← cutL_cons]
theorem cutA_end (c : UInt8) (cur : List UInt8) : cutA c cur [] = [cur] := by simp [cutA, cutL]
theorem cutA_hit (c : UInt8) (cur l : List UInt8) : cutA c cur (c :: l) = cur :: cutA c [] l := by
  rw [cutA_nil, cutA, cutL, if_pos rfl]
  simp
theorem cutA_on {c x : UInt8} (h : x ≠ c) (cur l : List UInt8) : cutA c cur (x :: l) = cutA c (cur ++ [x]) l := by
  rw [cutA, cutA, cutL, if_neg h]
  simp
theorem cutL_none : ∀ {c : UInt8} {l : List UInt8}, c ∉ l → cutL c l = [l]
  | c, [], _ => rfl
  | c, x :: l, h => by
    have h1 : x ≠ c := fun e => h (by rw [e]; exact List.mem_cons_self ..)
    have h2 : c ∉ l := fun e => h (List.mem_cons_of_mem _ e)
    rw [cutL, if_neg h1, cutL_none h2]
    rfl
theorem cutL_hit : ∀ {c : UInt8} {a l : List UInt8}, c ∉ a → cutL c (a ++ c :: l) = a :: cutL c l
  | c, [], l, _ => by rw [List.nil_append, cutL, if_pos rfl]
  | c, x :: a, l, h => by
    have h1 : x ≠ c := fun e => h (by rw [e]; exact List.mem_cons_self ..)
    have h2 : c ∉ a := fun e => h (List.mem_cons_of_mem _ e)
    rw [List.cons_append, cutL, if_neg h1, cutL_hit h2]
    rfl
/-- What stands ahead of a byte, what behind its first place, and whether it is there. -/
def ahd (c : UInt8) (l : List UInt8) : List UInt8 := l.takeWhile (fun x => x != c)
def bhd (c : UInt8) (l : List UInt8) : List UInt8 := (l.dropWhile (fun x => x != c)).tail
def hsb (c : UInt8) (l : List UInt8) : Bool := !(l.dropWhile (fun x => x != c)).isEmpty
/-! ### A target -/
def pathL (t : List UInt8) : List UInt8 := ahd 63 t.tail
def rawL (t : List UInt8) : List (List UInt8) := cutL 47 (pathL t)
def splE (t : List UInt8) : Int := if 1024 < t.length then 3 else if t.head? = some 47 then (if (rawL t).all (fun p => (unesc p).isSome) = true then 0 else 150) else 150
def pcsL (t : List UInt8) : List (List UInt8) := (rawL t).map (fun p => (unesc p).getD [])
def qryL (t : List UInt8) : List UInt8 := bhd 63 t.tail
def hasQ (t : List UInt8) : Bool := hsb 63 t.tail
/-- A query's pairs. -/
def pairL (p : List UInt8) : Option (List UInt8 × List UInt8) := if hsb 61 p = true then (match unesc (ahd 61 p), unesc (bhd 61 p) with
  | some a, some b => some (a, b)
  | _, _ => none) else none
def pairsL : List (List UInt8) → Option (List (List UInt8 × List UInt8))
  | [] => some []
  | p :: l => match pairL p, pairsL l with
    | some x, some y => some (x :: y)
    | _, _ => none
def qryR (q : List UInt8) : Option (List (List UInt8 × List UInt8)) := if q = [] then some [] else pairsL (cutL 38 q)
/-! ### Routes -/
structure Rt where
  kind : Int
  token : List UInt8
  user : List UInt8
  frm : Int
  me : Bool
def rt0 : Rt := ⟨0, [], [], 0, false⟩
def wSess : List UInt8 := [115, 101, 115, 115, 105, 111, 110, 115]
def wAudit : List UInt8 := [97, 117, 100, 105, 116]
def wStats : List UInt8 := [115, 116, 97, 116, 115]
def wMe : List UInt8 := [109, 101]
def wTouch : List UInt8 := [116, 111, 117, 99, 104]
def wUsers : List UInt8 := [117, 115, 101, 114, 115]
def wFrom : List UInt8 := [102, 114, 111, 109]
def mDel : List UInt8 := [68, 69, 76, 69, 84, 69]
def mGet : List UInt8 := [71, 69, 84]
def mPost : List UInt8 := [80, 79, 83, 84]
/-- The routes of a path: method, kind, me. -/
abbrev Row := List UInt8 × Int × Bool
def rowsR : List (List UInt8) → List Row
  | [a] => if a = wSess then [(mDel, 6, false), (mPost, 1, false)] else if a = wAudit then [(mGet, 8, false)] else if a = wStats then [(mGet, 9, false)] else if a = wMe then [(mGet, 2, true)] else []
  | [a, b] => if a = wSess ∧ b ≠ [] then [(mDel, 4, false), (mGet, 2, false)] else []
  | [a, b, c] => if a = wSess ∧ b ≠ [] ∧ c = wTouch then [(mPost, 3, false)] else if a = wUsers ∧ b ≠ [] ∧ c = wSess then [(mDel, 5, false), (mGet, 7, false)] else []
  | _ => []
def fillR (l : List (List UInt8)) (k : Int) (me : Bool) : Rt := match l with
  | a :: b :: _ => if a = wUsers then ⟨k, [], (unesc b).getD [], 0, me⟩ else ⟨k, (unesc b).getD [], [], 0, me⟩
  | _ => ⟨k, [], [], 0, me⟩
/-- What a query makes of a route. -/
def readR (x : Rt) (q : List UInt8) (has : Bool) : Rt × Int := if has = true then (if x.kind = 8 then (match qryR q with
    | some [(k, v)] => if k = wFrom ∧ (digR ⟨v.toArray⟩ 999999999).2 = 0 then ({ x with frm := (digR ⟨v.toArray⟩ 999999999).1 }, 200) else (rt0, 400)
    | _ => (rt0, 400)) else (rt0, 400)) else (if x.kind = 8 then { x with frm := 1 } else x, 200)
def findR (m t : List UInt8) : Rt × Int := if splE t = 0 then (if rowsR (rawL t) = [] then (rt0, 404) else match (rowsR (rawL t)).find? (fun r => decide (r.1 = m)) with
    | some r => readR (fillR (rawL t) r.2.1 r.2.2) (qryL t) (hasQ t)
    | none => (rt0, 405)) else (rt0, 400)
def methR (t : List UInt8) : List (List UInt8) := if splE t = 0 then (rowsR (rawL t)).map (fun r => r.1) else []
/-! ### The program's table -/
structure Rule where
  meth : List UInt8
  path : List (List UInt8)
  kind : Int
  me : Bool
  part : Nat
def rulesT : List Rule := [⟨mPost, [wSess], 1, false, 0⟩, ⟨mGet, [wSess, []], 2, false, 1⟩, ⟨mPost, [wSess, [], wTouch], 3, false, 1⟩, ⟨mDel, [wSess, []], 4, false, 1⟩, ⟨mDel, [wUsers, [], wSess], 5, false, 2⟩, ⟨mDel, [wSess], 6, false, 0⟩, ⟨mGet, [wUsers, [], wSess], 7, false, 2⟩, ⟨mGet, [wAudit], 8, false, 0⟩, ⟨mGet, [wMe], 2, true, 0⟩, ⟨mGet, [wStats], 9, false, 0⟩]
def fitW (w r : List UInt8) : Bool := if w = [] then !r.isEmpty else decide (r = w)
def fitR : List (List UInt8) → List (List UInt8) → Bool
  | [], [] => true
  | w :: ws, r :: rs => fitW w r && fitR ws rs
  | _, _ => false
def rulesR (l : List (List UInt8)) : List Rule := rulesT.filter (fun r => fitR r.path l)
def rul (i : Nat) : Rule := rulesT.getD i ⟨[], [], 0, false, 0⟩
def rulesC : List (List UInt8) → List Rule
  | [a] => if a = wSess then [rul 0, rul 5] else if a = wAudit then [rul 7] else if a = wStats then [rul 9] else if a = wMe then [rul 8] else []
  | [a, b] => if a = wSess ∧ b ≠ [] then [rul 1, rul 3] else []
  | [a, b, c] => if a = wSess ∧ b ≠ [] ∧ c = wTouch then [rul 2] else if a = wUsers ∧ b ≠ [] ∧ c = wSess then [rul 4, rul 6] else []
  | _ => []
theorem fit_ne {w r : List UInt8} (h : w ≠ []) : fitW w r = decide (r = w) := by unfold fitW; rw [if_neg h]
theorem fit_nil (r : List UInt8) : fitW [] r = decide (r ≠ []) := by
  unfold fitW
  rw [if_pos rfl]
  cases r <;> simp
theorem rules_eq (l : List (List UInt8)) : rulesR l = rulesC l := by
  have f1 : ∀ r, fitW wSess r = decide (r = wSess) := fun r => fit_ne (by decide)
  have f2 : ∀ r, fitW wUsers r = decide (r = wUsers) := fun r => fit_ne (by decide)
  have f3 : ∀ r, fitW wTouch r = decide (r = wTouch) := fun r => fit_ne (by decide)
  have f4 : ∀ r, fitW wAudit r = decide (r = wAudit) := fun r => fit_ne (by decide)
  have f5 : ∀ r, fitW wMe r = decide (r = wMe) := fun r => fit_ne (by decide)
  have f6 : ∀ r, fitW wStats r = decide (r = wStats) := fun r => fit_ne (by decide)
  have d1 : wSess ≠ wAudit := by decide
  have d2 : wSess ≠ wStats := by decide
  have d3 : wSess ≠ wMe := by decide
  have d4 : wSess ≠ wUsers := by decide
  have d5 : wAudit ≠ wStats := by decide
  have d6 : wAudit ≠ wMe := by decide
  have d7 : wStats ≠ wMe := by decide
  have d8 : wTouch ≠ wSess := by decide
  match l with
  | [] => simp [rulesR, rulesT, fitR, rulesC]
  | [a] =>
    unfold rulesC
    dsimp only
    by_cases h1 : a = wSess
    · rw [if_pos h1]
      subst h1
      simp [rulesR, rulesT, fitR, f1, f2, f4, f5, f6, d1, d2, d3, rul]
    rw [if_neg h1]
    by_cases h2 : a = wAudit
    · rw [if_pos h2]
      subst h2
      simp [rulesR, rulesT, fitR, f1, f2, f4, f5, f6, d1.symm, d5, d6, rul]
    rw [if_neg h2]
    by_cases h3 : a = wStats
    · rw [if_pos h3]
      subst h3
      simp [rulesR, rulesT, fitR, f1, f2, f4, f5, f6, d2.symm, d5.symm, d7, rul]
    rw [if_neg h3]
    by_cases h4 : a = wMe
    · rw [if_pos h4]
      subst h4
      simp [rulesR, rulesT, fitR, f1, f2, f4, f5, f6, d3.symm, d6.symm, d7.symm, rul]
    rw [if_neg h4]
    simp [rulesR, rulesT, fitR, f1, f2, f4, f5, f6, h1, h2, h3, h4]
  | [a, b] =>
    unfold rulesC
    dsimp only
    by_cases h1 : a = wSess ∧ b ≠ []
    · rw [if_pos h1]
      obtain ⟨rfl, h2⟩ := h1
      simp [rulesR, rulesT, fitR, f1, f2, f4, f5, f6, fit_nil, h2, rul]
    · rw [if_neg h1]
      have h2 : (decide (a = wSess) && decide (b ≠ [])) = false := by
        by_cases ha : a = wSess
        · have hb : b = [] := Classical.byContradiction fun c => h1 ⟨ha, c⟩
          subst hb; simp
        · simp [ha]
      simp [rulesR, rulesT, fitR, f1, f2, f4, f5, f6, fit_nil] at h2 ⊢
      exact h2
  | [a, b, c] =>
    unfold rulesC
    dsimp only
    by_cases h1 : a = wSess
    · subst h1
      by_cases hb : b = []
      · subst hb
        simp [rulesR, rulesT, fitR, f1, f2, f3, f4, f5, f6, fit_nil]
      · by_cases hc : c = wTouch
        · subst hc
          simp [rulesR, rulesT, fitR, f1, f2, f3, f4, f5, f6, fit_nil, hb, d4, rul]
        · simp [rulesR, rulesT, fitR, f1, f2, f3, f4, f5, f6, fit_nil, hb, hc, d4]
    · by_cases h2 : a = wUsers
      · subst h2
        by_cases hb : b = []
        · subst hb
          simp [rulesR, rulesT, fitR, f1, f2, f3, f4, f5, f6, fit_nil]
        · by_cases hc : c = wSess
          · subst hc
            simp [rulesR, rulesT, fitR, f1, f2, f3, f4, f5, f6, fit_nil, hb, d4.symm, rul]
          · simp [rulesR, rulesT, fitR, f1, f2, f3, f4, f5, f6, fit_nil, hb, hc, d4.symm]
      · simp [rulesR, rulesT, fitR, f1, f2, f3, f4, f5, f6, fit_nil, h1, h2]
  | a :: b :: c :: d :: r => simp [rulesR, rulesT, fitR, rulesC]
/-- A rule's row. -/
def rowOf (r : Rule) : Row := (r.meth, r.kind, r.me)
theorem rules_rows (l : List (List UInt8)) : (rulesC l).map rowOf = rowsR l ∨ ∃ a b, (rulesC l).map rowOf = [a, b] ∧ rowsR l = [b, a] ∧ a.1 ≠ b.1 := by
  match l with
  | [] => exact Or.inl rfl
  | [a] =>
    unfold rulesC rowsR
    dsimp only
    by_cases h1 : a = wSess
    · rw [if_pos h1, if_pos h1]
      exact Or.inr ⟨_, _, rfl, rfl, by decide⟩
    rw [if_neg h1, if_neg h1]
    by_cases h2 : a = wAudit
    · rw [if_pos h2, if_pos h2]; exact Or.inl rfl
    rw [if_neg h2, if_neg h2]
    by_cases h3 : a = wStats
    · rw [if_pos h3, if_pos h3]; exact Or.inl rfl
    rw [if_neg h3, if_neg h3]
    by_cases h4 : a = wMe
    · rw [if_pos h4, if_pos h4]; exact Or.inl rfl
    rw [if_neg h4, if_neg h4]
    exact Or.inl rfl
  | [a, b] =>
    unfold rulesC rowsR
    dsimp only
    by_cases h1 : a = wSess ∧ b ≠ []
    · rw [if_pos h1, if_pos h1]; exact Or.inr ⟨_, _, rfl, rfl, by decide⟩
    · rw [if_neg h1, if_neg h1]; exact Or.inl rfl
  | [a, b, c] =>
    unfold rulesC rowsR
    dsimp only
    by_cases h1 : a = wSess ∧ b ≠ [] ∧ c = wTouch
    · rw [if_pos h1, if_pos h1]; exact Or.inl rfl
    rw [if_neg h1, if_neg h1]
    by_cases h2 : a = wUsers ∧ b ≠ [] ∧ c = wSess
    · rw [if_pos h2, if_pos h2]; exact Or.inl rfl
    · rw [if_neg h2, if_neg h2]; exact Or.inl rfl
  | a :: b :: c :: d :: r => exact Or.inl rfl
theorem rules_find (l : List (List UInt8)) (m : List UInt8) : ((rulesC l).map rowOf).find? (fun r => decide (r.1 = m)) = (rowsR l).find? (fun r => decide (r.1 = m)) := by
  rcases rules_rows l with h | ⟨a, b, h1, h2, h3⟩
  · rw [h]
  · rw [h1, h2]
    by_cases ha : a.1 = m
    · have hb : ¬ b.1 = m := fun e => h3 (ha.trans e.symm)
      simp [ha, hb]
    · by_cases hb : b.1 = m <;> simp [ha, hb]
theorem rules_none (l : List (List UInt8)) : rulesC l = [] ↔ rowsR l = [] := by
  rcases rules_rows l with h | ⟨a, b, h1, h2, _⟩
  · rw [← h, List.map_eq_nil_iff]
  · rw [h2]
    constructor
    · intro e; rw [e] at h1; cases h1
    · intro e; cases e
end Go.Proofs.YtbpfggpljfpfcaaDoor
