/-
  What comes out of at most three lists in order: in order, and of alike ones the first list's.
-/
import Derived.Test.YtohamjoiohfoiaaHpure
import Derived.Test.YtohamjoiohfoiaaUnseen
namespace Go.Proofs.Ytohamjoiohfoiaa
/-- The same key and the same moment. -/
def alike (a b : Cl) : Prop := a.key.toList = b.key.toList ∧ a.seq = b.seq
theorem alike.symm {a b : Cl} (h : alike a b) : alike b a := ⟨h.1.symm, h.2.symm⟩
theorem alike.trans {a b c : Cl} (h : alike a b) (k : alike b c) : alike a c := ⟨h.1.trans k.1, h.2.trans k.2⟩
theorem bytesLess_tri : ∀ (a b : List UInt8), Op.bytesLess a b = true ∨ Op.bytesLess b a = true ∨ a = b
  | [], [] => Or.inr (Or.inr rfl)
  | [], _ :: _ => Or.inl (by simp [Op.bytesLess])
  | _ :: _, [] => Or.inr (Or.inl (by simp [Op.bytesLess]))
  | x :: a, y :: b => by
    simp only [Op.bytesLess, Bool.or_eq_true, decide_eq_true_eq, Bool.and_eq_true, beq_iff_eq]
    rcases Nat.lt_trichotomy x.toNat y.toNat with h | h | h
    · exact Or.inl (Or.inl h)
    · have e : x = y := UInt8.toNat_inj.1 h
      subst e
      rcases bytesLess_tri a b with k | k | k
      · exact Or.inl (Or.inr ⟨rfl, k⟩)
      · exact Or.inr (Or.inl (Or.inr ⟨rfl, k⟩))
      · exact Or.inr (Or.inr (by rw [k]))
    · exact Or.inr (Or.inl (Or.inl h))
theorem lessC_tri (a b : Cl) : lessC a b = true ∨ lessC b a = true ∨ alike a b := by
  by_cases e : a.key.toList = b.key.toList
  · have e1 : (a.key.toList == b.key.toList) = true := by simpa using e
    have e2 : (b.key.toList == a.key.toList) = true := by simpa using e.symm
    unfold lessC
    rw [if_pos e1, if_pos e2]
    rcases Nat.lt_trichotomy a.seq b.seq with h | h | h
    · exact Or.inr (Or.inl (by simpa using h))
    · exact Or.inr (Or.inr ⟨e, h⟩)
    · exact Or.inl (by simpa using h)
  · have e1 : ¬ (a.key.toList == b.key.toList) = true := by simpa using e
    have e2 : ¬ (b.key.toList == a.key.toList) = true := by simpa using fun h => e h.symm
    unfold lessC
    rw [if_neg e1, if_neg e2]
    rcases bytesLess_tri a.key.toList b.key.toList with h | h | h
    · exact Or.inl h
    · exact Or.inr (Or.inl h)
    · exact absurd h e
theorem alike_not {a b : Cl} (h : alike a b) : lessC a b = false := by
  unfold lessC
  rw [if_pos (by simp [h.1])]
  simp [h.2]
theorem less_alike {a b c : Cl} (h : lessC a b = true) (k : alike b c) : lessC a c = true := by
  unfold lessC at *
  rw [← k.1, ← k.2]
  exact h
theorem alike_less {a b c : Cl} (k : alike a b) (h : lessC b c = true) : lessC a c = true := by
  unfold lessC at *
  rw [k.1, k.2]
  exact h
/-- Cell c of list i comes out no later than cell d of list j. -/
def leH (c : Cl) (i : Nat) (d : Cl) (j : Nat) : Prop := lessC c d = true ∨ (alike c d ∧ i ≤ j)
theorem leH_trans {a b c : Cl} {i j k : Nat} (h : leH a i b j) (g : leH b j c k) : leH a i c k := by
  rcases h with h | ⟨h, h'⟩
  · rcases g with g | ⟨g, _⟩
    · exact Or.inl (lessC_trans h g)
    · exact Or.inl (less_alike h g)
  · rcases g with g | ⟨g, g'⟩
    · exact Or.inl (alike_less h g)
    · exact Or.inr ⟨h.trans g, by omega⟩
theorem lessH_false {a b : Cl} {i j : Nat} (h : lessH a b i j = false) : leH b j a i := by
  unfold lessH at h
  simp only [Bool.or_eq_false_iff, Bool.and_eq_false_iff, Bool.not_eq_false', decide_eq_false_iff_not] at h
  rcases lessC_tri a b with k | k | k
  · rw [h.1] at k; cases k
  · exact Or.inl k
  · rcases h.2 with h2 | h2
    · rw [alike_not k.symm] at h2; cases h2
    · exact Or.inr ⟨k.symm, by omega⟩
theorem lessH_true {a b : Cl} {i j : Nat} (h : lessH a b i j = true) : leH a i b j := by
  unfold lessH at h
  simp only [Bool.or_eq_true, Bool.and_eq_true, Bool.not_eq_true', decide_eq_true_eq] at h
  rcases h with h | ⟨h, h'⟩
  · exact Or.inl h
  · rcases lessC_tri a b with k | k | k
    · exact Or.inl k
    · rw [h] at k; cases k
    · exact Or.inr ⟨k, by omega⟩
/-- Head x comes out no later than head y. -/
def leD (x y : Hd) : Prop := ∃ a b, x.cs[0]? = some a ∧ y.cs[0]? = some b ∧ leH a x.nth b y.nth
theorem hd0 {x : Hd} (h : 0 < x.cs.length) : ∃ a, x.cs[0]? = some a := ⟨x.cs[0], List.getElem?_eq_getElem h⟩
theorem leD_of_false {x y : Hd} (hx : 0 < x.cs.length) (hy : 0 < y.cs.length) (h : lessD x y = false) : leD y x := by
  obtain ⟨a, ha⟩ := hd0 hx
  obtain ⟨b, hb⟩ := hd0 hy
  unfold lessD at h
  rw [ha, hb] at h
  exact ⟨b, a, hb, ha, lessH_false h⟩
theorem leD_of_true {x y : Hd} (hx : 0 < x.cs.length) (hy : 0 < y.cs.length) (h : lessD x y = true) : leD x y := by
  obtain ⟨a, ha⟩ := hd0 hx
  obtain ⟨b, hb⟩ := hd0 hy
  unfold lessD at h
  rw [ha, hb] at h
  exact ⟨a, b, ha, hb, lessH_true h⟩
theorem leD_trans {x y z : Hd} (h : leD x y) (g : leD y z) : leD x z := by
  obtain ⟨a, b, ha, hb, h⟩ := h
  obtain ⟨b', c, hb', hc, g⟩ := g
  rw [hb] at hb'
  cases hb'
  exact ⟨a, c, ha, hc, leH_trans h g⟩
/-- The first head is a least one. -/
def Root : List Hd → Prop
  | [] => True
  | x :: t => ∀ y ∈ t, leD x y
/-- What is told of some heads as a set, with a least one first. -/
structure Took (hs : List Hd) (gs : List Hd) : Prop where
  perm : hs.Perm gs
  root : Root hs
theorem down1 (x : Hd) : (downL [x] 0 1).1 = [x] := by rw [downL_end (by omega)]
theorem took2 {x y : Hd} (hx : 0 < x.cs.length) (hy : 0 < y.cs.length) : Took (downL [x, y] 0 2).1 [x, y] := by
  have hk : kid [x, y] 0 2 = 1 := by simp [kid]
  cases h : lessD y x with
  | true =>
    rw [downL_go (by omega) (by rw [hk]; exact h), hk, downL_end (by omega)]
    refine ⟨List.Perm.swap x y [], fun z hz => ?_⟩
    obtain rfl : z = x := by simpa using hz
    exact leD_of_true hy hx h
  | false =>
    rw [downL_stay (by omega) (by rw [hk]; exact h)]
    refine ⟨List.Perm.refl _, fun z hz => ?_⟩
    obtain rfl : z = y := by simpa using hz
    exact leD_of_false hy hx h
theorem took3 {x y z : Hd} (hx : 0 < x.cs.length) (hy : 0 < y.cs.length) (hz : 0 < z.cs.length) : Took (downL [x, y, z] 0 3).1 [x, y, z] := by
  cases hzy : lessD z y with
  | true =>
    have hk : kid [x, y, z] 0 3 = 2 := by
      have : lessAt [x, y, z] 2 1 = true := hzy
      simp [kid, this]
    have l1 := leD_of_true hz hy hzy
    cases h : lessD z x with
    | true =>
      rw [downL_go (by omega) (by rw [hk]; exact h), hk, downL_end (by omega)]
      refine ⟨?_, ?_⟩
      · show [z, y, x].Perm [x, y, z]
        exact ((List.Perm.swap y z [x]).trans ((List.Perm.swap x z []).cons y)).trans (List.Perm.swap x y [z])
      · intro u hu
        have hu' : u = y ∨ u = x := by simpa [swapAt, swapL] using hu
        rcases hu' with rfl | rfl
        · exact l1
        · exact leD_of_true hz hx h
    | false =>
      rw [downL_stay (by omega) (by rw [hk]; exact h)]
      refine ⟨List.Perm.refl _, fun u hu => ?_⟩
      have l2 := leD_of_false hz hx h
      have hu' : u = y ∨ u = z := by simpa using hu
      rcases hu' with rfl | rfl
      · exact leD_trans l2 l1
      · exact l2
  | false =>
    have hk : kid [x, y, z] 0 3 = 1 := by
      have : lessAt [x, y, z] 2 1 = false := hzy
      simp [kid, this]
    have l1 := leD_of_false hz hy hzy
    cases h : lessD y x with
    | true =>
      rw [downL_go (by omega) (by rw [hk]; exact h), hk, downL_end (by omega)]
      refine ⟨?_, ?_⟩
      · show [y, x, z].Perm [x, y, z]
        exact List.Perm.swap x y [z]
      · intro u hu
        have hu' : u = x ∨ u = z := by simpa [swapAt, swapL] using hu
        rcases hu' with rfl | rfl
        · exact leD_of_true hy hx h
        · exact l1
    | false =>
      rw [downL_stay (by omega) (by rw [hk]; exact h)]
      refine ⟨List.Perm.refl _, fun u hu => ?_⟩
      have l2 := leD_of_false hy hx h
      have hu' : u = y ∨ u = z := by simpa using hu
      rcases hu' with rfl | rfl
      · exact l2
      · exact leD_trans l2 l1
theorem pop_two {x y : Hd} : popL [x, y] = [y] := by
  unfold popL
  show ((downL [y, x] 0 1).1).dropLast = [y]
  rw [downL_end (by omega)]
  rfl
theorem pop_one {x : Hd} : popL [x] = [] := by
  unfold popL
  show ((downL [x] 0 0).1).dropLast = []
  rw [downL_end (by omega)]
  rfl
theorem took_pop {x y z : Hd} (hy : 0 < y.cs.length) (hz : 0 < z.cs.length) : Took (popL [x, y, z]) [y, z] := by
  have hk : kid [z, y, x] 0 2 = 1 := by simp [kid]
  cases h : lessD y z with
  | true =>
    have e : popL [x, y, z] = [y, z] := by
      unfold popL
      show ((downL [z, y, x] 0 2).1).dropLast = [y, z]
      rw [downL_go (by omega) (by rw [hk]; exact h), hk, downL_end (by omega)]
      rfl
    rw [e]
    refine ⟨List.Perm.refl _, fun u hu => ?_⟩
    obtain rfl : u = z := by simpa using hu
    exact leD_of_true hy hz h
  | false =>
    have e : popL [x, y, z] = [z, y] := by
      unfold popL
      show ((downL [z, y, x] 0 2).1).dropLast = [z, y]
      rw [downL_stay (by omega) (by rw [hk]; exact h)]
      rfl
    rw [e]
    refine ⟨List.Perm.swap y z [], fun u hu => ?_⟩
    obtain rfl : u = y := by simpa using hu
    exact leD_of_false hy hz h
theorem took_take {x : Hd} {t : List Hd} (ht : t.length ≤ 2) (hne : ∀ y ∈ t, 0 < y.cs.length) : Took (takeL (x :: t)) (if x.cs.length ≤ 1 then t else stepH x :: t) := by
  rw [takeL_cons]
  split
  · match t, ht with
    | [], _ => rw [pop_one]; exact ⟨List.Perm.refl _, trivial⟩
    | [y], _ => rw [pop_two]; exact ⟨List.Perm.refl _, fun u hu => by simp at hu⟩
    | [y, z], _ => exact took_pop (hne y (by simp)) (hne z (by simp))
  · rename_i hx
    have hs : 0 < (stepH x).cs.length := by rw [stepH_cs, List.length_tail]; omega
    match t, ht with
    | [], _ => rw [show (downL [stepH x] 0 ([] : List Hd).length.succ).1 = [stepH x] from down1 _]; exact ⟨List.Perm.refl _, fun u hu => by simp at hu⟩
    | [y], _ => exact took2 hs (hne y (by simp))
    | [y, z], _ => exact took3 hs (hne y (by simp)) (hne z (by simp))
theorem took_push {hs : List Hd} {x : Hd} (h2 : hs.length ≤ 2) (hr : Root hs) (hne : ∀ y ∈ hs, 0 < y.cs.length) (hx : 0 < x.cs.length) : Took (pushL hs x) (hs ++ [x]) := by
  unfold pushL
  match hs, h2 with
  | [], _ => show Took (upL [x] 0) [x]; rw [upL_zero]; exact ⟨List.Perm.refl _, fun u hu => by simp at hu⟩
  | [y], _ =>
    have hy := hne y (by simp)
    cases h : lessD x y with
    | true =>
      rw [show ([y] : List Hd).length = 0 + 1 from rfl, upL_go (q := 0) rfl (x := y) (y := x) rfl rfl h, upL_zero]
      refine ⟨List.Perm.swap y x [], fun u hu => ?_⟩
      obtain rfl : u = y := by simpa [swapL] using hu
      exact leD_of_true hx hy h
    | false =>
      rw [show ([y] : List Hd).length = 0 + 1 from rfl, upL_stay (q := 0) rfl (x := y) (y := x) rfl rfl h]
      refine ⟨List.Perm.refl _, fun u hu => ?_⟩
      obtain rfl : u = x := by simpa using hu
      exact leD_of_false hx hy h
  | [y, z], _ =>
    have hy := hne y (by simp)
    have l1 : leD y z := hr z (by simp)
    cases h : lessD x y with
    | true =>
      rw [show ([y, z] : List Hd).length = 1 + 1 from rfl, upL_go (q := 0) rfl (x := y) (y := x) rfl rfl h, upL_zero]
      have l2 := leD_of_true hx hy h
      refine ⟨?_, fun u hu => ?_⟩
      · show [x, z, y].Perm [y, z, x]
        exact ((List.Perm.swap z x [y]).trans ((List.Perm.swap y x []).cons z)).trans (List.Perm.swap y z [x])
      · have hu' : u = z ∨ u = y := by simpa [swapL] using hu
        rcases hu' with rfl | rfl
        · exact leD_trans l2 l1
        · exact l2
    | false =>
      rw [show ([y, z] : List Hd).length = 1 + 1 from rfl, upL_stay (q := 0) rfl (x := y) (y := x) rfl rfl h]
      refine ⟨List.Perm.refl _, fun u hu => ?_⟩
      have l2 := leD_of_false hx hy h
      have hu' : u = z ∨ u = x := by simpa using hu
      rcases hu' with rfl | rfl
      · exact l1
      · exact l2
end Go.Proofs.Ytohamjoiohfoiaa
