/-
  What comes out of a heap of heads, one cell behind the other: as lists alone.
-/
import Derived.Test.YtohamjoiohfoiaaBegin
namespace Go.Proofs.Ytohamjoiohfoiaa
open Go.RowKit
/-- So many cells are left. -/
def wt (hs : List Hd) : Nat := (hs.map (fun h => h.cs.length)).sum
theorem wt_cons (x : Hd) (t : List Hd) : wt (x :: t) = x.cs.length + wt t := by simp [wt]
theorem wt_set : ∀ {hs : List Hd} {i : Nat} {x : Hd} (y : Hd), hs[i]? = some x → wt (hs.set i y) + x.cs.length = wt hs + y.cs.length
  | [], i, x, y, h => by simp at h
  | a :: l, 0, x, y, h => by
    simp at h
    subst h
    simp only [List.set_cons_zero, wt_cons]
    omega
  | a :: l, i + 1, x, y, h => by
    have := wt_set (hs := l) (i := i) y (by simpa using h)
    simp only [List.set_cons_succ, wt_cons]
    omega
theorem wt_swap (hs : List Hd) (i j : Nat) : wt (swapAt hs i j) = wt hs := by
  unfold swapAt
  split
  · rename_i x y hx hy
    have h1 := wt_set y hx
    have hj : (hs.set i y)[j]? = some y := by
      by_cases e : i = j
      · subst e
        exact List.getElem?_set_self (List.getElem?_eq_some_iff.1 hx).1
      · rw [List.getElem?_set_ne e]; exact hy
    have h2 := wt_set x hj
    unfold swapL
    omega
  · rfl
theorem wt_down : ∀ (m : Nat) (hs : List Hd) (i n : Nat), n - i ≤ m → wt (downL hs i n).1 = wt hs
  | 0, hs, i, n, h => by rw [downL_end (by omega)]
  | m + 1, hs, i, n, h => by
    by_cases h1 : 2 * i + 1 < n
    · cases e : lessAt hs (kid hs i n) i with
      | true =>
        have := kid_gt hs i n
        rw [downL_go h1 e, wt_down m _ _ _ (by omega), wt_swap]
      | false => rw [downL_stay h1 e]
    · rw [downL_end h1]
theorem wt_dropLast (hs : List Hd) : wt hs.dropLast ≤ wt hs := by
  induction hs with
  | nil => simp [wt]
  | cons a l ih =>
    cases l with
    | nil => simp [wt]
    | cons b l =>
      rw [List.dropLast_cons_cons, wt_cons, wt_cons]
      omega
theorem wt_pop (hs : List Hd) : wt (popL hs) ≤ wt hs := by
  unfold popL
  refine Nat.le_trans (wt_dropLast _) ?_
  rw [wt_down _ _ _ _ (Nat.le_refl _), wt_swap]
  exact Nat.le_refl _
theorem takeL_cons (x : Hd) (t : List Hd) : takeL (x :: t) = if x.cs.length ≤ 1 then popL (stepH x :: t) else (downL (stepH x :: t) 0 (t.length + 1)).1 := rfl
theorem wt_take {x : Hd} {t : List Hd} (h : 0 < x.cs.length) : wt (takeL (x :: t)) < wt (x :: t) := by
  have h1 : wt (stepH x :: t) < wt (x :: t) := by
    rw [wt_cons, wt_cons, stepH_cs, List.length_tail]
    omega
  rw [takeL_cons]
  split
  · exact Nat.lt_of_le_of_lt (wt_pop _) h1
  · rw [wt_down _ _ _ _ (Nat.le_refl _)]
    exact h1
theorem downL_NE : ∀ (m : Nat) (hs : List Hd) (i n : Nat), n - i ≤ m → i < n ∨ n = 0 → NE hs n → NE (downL hs i n).1 n
  | 0, hs, i, n, h, _, hn => by rw [downL_end (by omega)]; exact hn
  | m + 1, hs, i, n, h, hi, hn => by
    by_cases h1 : 2 * i + 1 < n
    · cases e : lessAt hs (kid hs i n) i with
      | true =>
        have h2 := kid_gt hs i n
        have h3 := kid_lt (hs := hs) h1
        rw [downL_go h1 e]
        exact downL_NE m _ _ _ (by omega) (Or.inl h3) (hn.swap (by omega) h3)
      | false => rw [downL_stay h1 e]; exact hn
    · rw [downL_end h1]; exact hn
theorem take_ne {x : Hd} {t : List Hd} (h : ∀ a ∈ x :: t, 0 < a.cs.length) : ∀ a ∈ takeL (x :: t), 0 < a.cs.length := by
  rw [takeL_cons]
  split
  · have hlen : (stepH x :: t).length - 1 = t.length := by simp
    have hne : NE (swapAt (stepH x :: t) 0 t.length) t.length := NE.tail (fun a ha => h a (by simp [ha]))
    have hd := downL_NE _ _ 0 t.length (Nat.le_refl _) (by omega) hne
    intro a ha
    unfold popL at ha
    rw [hlen] at ha
    obtain ⟨k, hk⟩ := List.getElem?_of_mem ha
    rw [List.getElem?_dropLast] at hk
    split at hk
    · rename_i hlt
      rw [downL_len, swapAt_length] at hlt
      exact hd k a (by simp at hlt; omega) hk
    · cases hk
  · rename_i hx
    exact downL_all _ _ _ _ (Nat.le_refl _) (fun a ha => by
      rcases List.mem_cons.1 ha with rfl | ha
      · rw [stepH_cs, List.length_tail]; omega
      · exact h a (by simp [ha]))
theorem take_len {x : Hd} {t : List Hd} : (takeL (x :: t)).length ≤ t.length + 1 := by
  rw [takeL_cons]
  split
  · unfold popL
    rw [List.length_dropLast, downL_len, swapAt_length]
    simp
  · rw [downL_len]
    simp
/-- Alike ones are passed over. -/
def skipF : Nat → Cl → List Hd → List Hd
  | 0, _, hs => hs
  | f + 1, c, hs => match hs with
    | [] => []
    | x :: t => match x.cs with
      | [] => x :: t
      | d :: _ => if lessC c d = true then x :: t else skipF f c (takeL (x :: t))
/-- What comes out. -/
def outF : Nat → List Hd → List Cl
  | 0, _ => []
  | f + 1, hs => match hs with
    | [] => []
    | x :: t => match x.cs with
      | [] => []
      | c :: _ => c :: outF f (skipF (wt (takeL (x :: t))) c (takeL (x :: t)))
def outM (ls : List Sl) : List Cl := outF (wt (beginK ls ls.length)) (beginK ls ls.length)
theorem skipF_nil (f : Nat) (c : Cl) : skipF f c [] = [] := by cases f <;> rfl
theorem skipF_stay {f : Nat} {c d : Cl} {x : Hd} {t : List Hd} {r : List Cl} (hx : x.cs = d :: r) (h : lessC c d = true) : skipF f c (x :: t) = x :: t := by
  cases f with
  | zero => rfl
  | succ f => simp [skipF, hx, h]
theorem skipF_go {f : Nat} {c d : Cl} {x : Hd} {t : List Hd} {r : List Cl} (hx : x.cs = d :: r) (h : lessC c d = false) : skipF (f + 1) c (x :: t) = skipF f c (takeL (x :: t)) := by
  simp [skipF, hx, h]
theorem outF_nil (f : Nat) : outF f [] = [] := by cases f <;> rfl
theorem outF_cons {f : Nat} {c : Cl} {x : Hd} {t : List Hd} {r : List Cl} (hx : x.cs = c :: r) : outF (f + 1) (x :: t) = c :: outF f (skipF (wt (takeL (x :: t))) c (takeL (x :: t))) := by
  simp [outF, hx]
theorem skip_ok : ∀ (f : Nat) (c : Cl) (hs : List Hd), (∀ a ∈ hs, 0 < a.cs.length) → (∀ a ∈ skipF f c hs, 0 < a.cs.length) ∧ wt (skipF f c hs) ≤ wt hs ∧ (skipF f c hs).length ≤ hs.length
  | 0, c, hs, h => ⟨h, Nat.le_refl _, Nat.le_refl _⟩
  | f + 1, c, [], h => ⟨h, Nat.le_refl _, Nat.le_refl _⟩
  | f + 1, c, x :: t, h => by
    have hx := h x (by simp)
    cases e : x.cs with
    | nil => rw [e] at hx; simp at hx
    | cons d r =>
      cases hl : lessC c d with
      | true => rw [skipF_stay e hl]; exact ⟨h, Nat.le_refl _, Nat.le_refl _⟩
      | false =>
        rw [skipF_go e hl]
        obtain ⟨h1, h2, h3⟩ := skip_ok f c (takeL (x :: t)) (take_ne h)
        have h4 := wt_take (t := t) hx
        have h5 := take_len (x := x) (t := t)
        exact ⟨h1, by omega, by simp; omega⟩
end Go.Proofs.Ytohamjoiohfoiaa
