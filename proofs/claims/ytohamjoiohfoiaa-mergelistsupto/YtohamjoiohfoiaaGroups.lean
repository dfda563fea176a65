/-
  The versions of each key, as parts of the list; keys as one contract.
-/
import Derived.Test.YtohamjoiohfoiaaKeys
namespace Go.Proofs.Ytohamjoiohfoiaa
open Go.RowKit
def cutL (l : List Cl) (y : Nat × Nat) : List Cl := (l.drop y.1).take y.2
theorem sortedC_adj {l : List Cl} (h : sortedC l = true) {i : Nat} {x y : Cl} (hx : l[i]? = some x) (hy : l[i + 1]? = some y) : lessC x y = true := by
  cases hl : lessC x y with
  | true => rfl
  | false =>
    have := sortedC_false (l := l) (i := i + 1) (by omega) (by simpa using hx) hy hl
    rw [h] at this
    cases this
theorem tw_at {p : Cl → Bool} : ∀ {l : List Cl} {j : Nat} {x : Cl}, j < (l.takeWhile p).length → l[j]? = some x → p x = true
  | [], j, x, h, _ => by simp at h
  | a :: l, j, x, h, hx => by
    by_cases ha : p a = true
    · rw [List.takeWhile_cons, if_pos ha, List.length_cons] at h
      cases j with
      | zero => simp at hx; rw [← hx]; exact ha
      | succ j => exact tw_at (l := l) (j := j) (by omega) (by simpa using hx)
    · rw [List.takeWhile_cons, if_neg ha] at h
      simp at h
theorem run_key {l : List Cl} {c x : Cl} {j : Nat} (h0 : l[0]? = some c) (hj : j < runN l) (hx : l[j]? = some x) : sameK x c = true := by
  cases l with
  | nil => simp at h0
  | cons a l =>
    simp at h0
    subst h0
    exact tw_at (p := fun x => sameK x a) hj hx
theorem sameK_eq {a b : Cl} (h : sameK a b = true) : a.key.toList = b.key.toList := by simpa [sameK] using h
theorem less_same {a b : Cl} (h : lessC a b = true) (hk : a.key.toList = b.key.toList) : b.seq < a.seq := by
  unfold lessC at h
  rw [if_pos (by simp [hk])] at h
  simpa using h
theorem cut_at {l : List Cl} {y : Nat × Nat} {j : Nat} {x : Cl} (h : (cutL l y)[j]? = some x) : j < y.2 ∧ l[y.1 + j]? = some x := by
  unfold cutL at h
  rw [List.getElem?_take] at h
  split at h
  · rw [List.getElem?_drop] at h
    exact ⟨by assumption, h⟩
  · cases h
theorem falls_of {l : List Cl} (hs : sortedC l = true) {k r : Nat} (hr : r ≤ runN (l.drop k)) : Falls (cutL l (k, r)) := by
  have key : ∀ {j x y}, (cutL l (k, r))[j]? = some x → (cutL l (k, r))[j + 1]? = some y → y.seq ≤ x.seq := fun {j x y} hx hy => by
    obtain ⟨h1, h2⟩ := cut_at hx
    obtain ⟨h3, h4⟩ := cut_at hy
    simp only at h1 h2 h3 h4
    have hl : k < l.length := by have := (List.getElem?_eq_some_iff.1 h2).1; omega
    obtain ⟨c, hc⟩ : ∃ c, (l.drop k)[0]? = some c := ⟨l[k], by rw [List.getElem?_drop]; exact List.getElem?_eq_getElem hl⟩
    have e1 := sameK_eq (run_key hc (j := j) (by omega) (by rw [List.getElem?_drop]; exact h2))
    have e2 := sameK_eq (run_key hc (j := j + 1) (by omega) (by rw [List.getElem?_drop]; exact h4))
    have := less_same (sortedC_adj hs h2 (by rw [Nat.add_assoc]; exact h4)) (e1.trans e2.symm)
    omega
  intro i j x y hij hx hy
  obtain ⟨d, rfl⟩ : ∃ d, j = i + d := ⟨j - i, by omega⟩
  clear hij
  induction d generalizing y with
  | zero =>
    rw [Nat.add_zero, hx] at hy
    cases hy
    exact Nat.le_refl _
  | succ d ih =>
    have hlt : i + d < (cutL l (k, r)).length := by have := (List.getElem?_eq_some_iff.1 hy).1; omega
    have hz : (cutL l (k, r))[i + d]? = some (cutL l (k, r))[i + d] := List.getElem?_eq_getElem hlt
    exact Nat.le_trans (key hz hy) (ih _ hz)
theorem grps_run (l : List Cl) : ∀ g k, ∀ y ∈ grps l g k, y.2 = runN (l.drop y.1)
  | 0, k, y, h => by simp [grps] at h
  | g + 1, k, y, h => by
    rw [grps] at h
    split at h
    · rcases List.mem_cons.1 h with rfl | h
      · rfl
      · exact grps_run l g _ y h
    · simp at h
theorem allG_mem {l : List Cl} {y : Nat × Nat} (h : y ∈ allG l) : sortedC l = true ∧ y.1 + y.2 ≤ l.length ∧ 1 ≤ y.2 ∧ Falls (cutL l y) ∧ (cutL l y).length = y.2 := by
  unfold allG at h
  split at h
  · rename_i hs
    have h1 := grps_le l _ _ y h
    have h2 := grps_run l _ _ y h
    refine ⟨hs, h1.1, h1.2, ?_, ?_⟩
    · have := falls_of hs (k := y.1) (r := y.2) (by omega)
      exact this
    · unfold cutL
      simp
      omega
  · simp at h
theorem CA.take {B : Nat} {w : World} {a : Option Addr} {l : List Cl} (h : CA B w a l) (n : Nat) : CA B w a (l.take n) := by
  intro j c hj
  rw [List.getElem?_take] at hj
  split at hj
  · exact h j c hj
  · cases hj
theorem CA.cut {B : Nat} {w : World} {b off : Nat} {l : List Cl} (h : CA B w (some ⟨b, off, none⟩) l) (y : Nat × Nat) : CA B w (some ⟨b, off + y.1 * 4, none⟩) (cutL l y) := (h.drop y.1).take y.2
theorem allG_nil {l : List Cl} (h : l = [] ∨ sortedC l = false) : allG l = [] := by
  unfold allG
  rcases h with rfl | h
  · rfl
  · rw [h]; rfl
/-- keys, for those who range over what it hands back: where the list lies, and how it is walked. -/
theorem keys_seq (a : Option Addr) (m cp : Nat) (l : List Cl) (w : World) (hca : CA w.heap.size w a l) (hl : l.length = m) (hm : m ≤ cp) (hmx : m < 1000000000000000) :
    ∃ (ob : Option Nat) (bl off : Nat), (∀ b, ob = some b → b < w.heap.size) ∧ (l ≠ [] → a = some ⟨bl, off, none⟩) ∧
      ∀ (z n c0 : Nat) (W : World), 2 ≤ n → z ≤ W.heap.size → Below w.heap.size w W → W.cell? ⟨c0, 0, none⟩ = some (.slice a m cp) → SeqK Fence.wide n Try.prog 39 #[] #[.pointer (some ⟨c0, 0, none⟩)] (encG bl off) (RkC z ob) (KcC ob) (fun pre y => ∃ rest, pre ++ y :: rest = allG l) (fun xs => xs = allG l) (fun pre => ∃ rest, pre ++ rest = allG l) W := by
  by_cases hn : l = [] ∨ sortedC l = false
  · have e := allG_nil hn
    rw [e]
    by_cases hl0 : l = []
    · exact ⟨none, 0, 0, fun b e => (by cases e), fun h => absurd hl0 h, fun z n c0 W h2 _ k hc => keys1_none z n h2 c0 0 0 m cp a l W hc ((CA.below hca (fun b hb => k.block b hb)).up k.size) hl hmx hn _ _⟩
    · obtain ⟨x, l', rfl⟩ : ∃ x l', l = x :: l' := by
        cases l with
        | nil => exact absurd rfl hl0
        | cons x l' => exact ⟨x, l', rfl⟩
      obtain ⟨b, off, ea, _⟩ := hca 0 x rfl
      exact ⟨none, b, off, fun b e => (by cases e), fun _ => ea, fun z n c0 W h2 _ k hc => keys1_none z n h2 c0 b off m cp a _ W hc ((CA.below hca (fun b hb => k.block b hb)).up k.size) hl hmx hn _ _⟩
  · have hl0 : l ≠ [] := fun e => hn (Or.inl e)
    have hs : sortedC l = true := by
      cases h : sortedC l with
      | true => rfl
      | false => exact absurd (Or.inr h) hn
    obtain ⟨x, l', rfl⟩ : ∃ x l', l = x :: l' := by
      cases l with
      | nil => exact absurd rfl hl0
      | cons x l' => exact ⟨x, l', rfl⟩
    obtain ⟨b, off, ea, hb, _⟩ := hca 0 x rfl
    subst ea
    have e : allG (x :: l') = grps (x :: l') ((x :: l').length + 1) 0 := by unfold allG; rw [if_pos hs]
    rw [e]
    exact ⟨some b, b, off, fun b' e => by cases e; exact hb, fun _ => rfl, fun z n c0 W h2 hz k hc => keys1_some z n h2 c0 b off m cp _ W hc ((CA.below hca (fun b hb => k.block b hb)).up k.size) hl hl0 hm hmx hs hz⟩
set_option maxHeartbeats 1000000 in
theorem keys_any (a : Option Addr) (m cp : Nat) (w : World) : Calls Try.prog 28 #[.slice a m cp] w fun r w' => r = .returned (.func (.func 39) #[] #[.pointer (some ⟨w.heap.size, 0, none⟩)]) ∧ w' = w.alloc (.cells #[.slice a m cp] 25) := by
  go_enter Try.func28, Try.ntmps28
  go_wp2_with fail
  go_ret
  exact ⟨rfl, rfl⟩
end Go.Proofs.Ytohamjoiohfoiaa
