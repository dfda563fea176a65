/-
  The pure side of cred's laws.
-/
import Derived.Test.YtedibkcempcpnaaDoorTWho
import Derived.Test.YtedibkcempcpnaaDoorTTok
namespace Go.Proofs.YtedibkcempcpnaaDoor.T
open Go.RowKit
def lvT : Tn := ⟨⟨#[97, 99, 109, 101]⟩, ⟨#[107]⟩, 3⟩
def BearB : ByteArray := ⟨#[66, 101, 97, 114, 101, 114, 32]⟩
theorem lvT_ok : okT lvT = true := by decide +kernel
theorem lvT_mint : mintR lvT = (credT lvT, 0) := mintR_ok lvT_ok
theorem credT_sz (t : Tn) : (credT t).size = t.name.size + 65 := by
  unfold credT
  rw [ByteArray.size_append, ByteArray.size_append, hexT_size]
  rfl
theorem lvT_size : (credT lvT).size = 69 := by rw [credT_sz]; rfl
theorem good_one {t : Tn} (h : okT t = true) : goodT [t] := ⟨by simp, by simp, by simp [h], by simp⟩
theorem good_two {a b : Tn} (ha : okT a = true) (hb : okT b = true) (hn : a.name ≠ b.name) : goodT [a, b] := ⟨by simp, by simp, by simp [ha, hb], by simp [hn]⟩
theorem ver_own {l : List Tn} (h : goodT l) {s : ByteArray} {i : Nat} {t : Tn} (hi : l[i]? = some t) (e : credT t = s) : verR l s = ((i : Int), 0) := by
  unfold verR
  rw [if_pos h, find_own h hi e]
theorem ver_no {l : List Tn} (h : goodT l) {s : ByteArray} (hn : ∀ (i : Nat) (t : Tn), l[i]? = some t → credT t ≠ s) : verR l s = (0, 210) := by
  unfold verR
  rw [if_pos h, find_none hn]
theorem cred_ne {a b : Tn} (ha : okT a = true) (hb : okT b = true) (hn : a.name ≠ b.name) : credT a ≠ credT b := fun e => by
  have h1 := cred_cut ha
  rw [e, cred_cut hb] at h1
  exact hn h1.symm
/-- What was turned is nobody's, or another one's. -/
theorem ver_turned {l : List Tn} (h : goodT l) {s : ByteArray} {n : Nat} {t : Tn} (hn : l[n]? = some t) (e : credT t ≠ s) : verR l s = (0, 210) ∨ ∃ j : Nat, j ≠ n ∧ j < l.length ∧ verR l s = ((j : Int), 0) := by
  unfold verR
  rw [if_pos h]
  cases hf : findT l s with
  | none => exact Or.inl rfl
  | some j =>
    refine Or.inr ⟨j, ?_, ?_, rfl⟩
    · rintro rfl
      obtain ⟨hj, h1, _⟩ := List.findIdx?_eq_some_iff_getElem.1 hf
      have h2 : l[j]? = some l[j] := List.getElem?_eq_getElem hj
      rw [hn, Option.some.injEq] at h2
      rw [← h2] at h1
      exact e (of_decide_eq_true h1)
    · obtain ⟨hj, _⟩ := List.findIdx?_eq_some_iff_getElem.1 hf
      exact hj
theorem ext_left (a b : ByteArray) : (a ++ b).extract 0 a.size = a := by
  apply ext_list
  have h : a.data.toList.length = a.size := by simp
  simp [← h, -Array.length_toList]
theorem ext_right (a b : ByteArray) : (a ++ b).extract a.size (a ++ b).size = b := by
  apply ext_list
  have h : a.data.toList.length = a.size := by simp
  have h2 : b.data.toList.length = b.size := by simp
  simp [← h, ← h2, -Array.length_toList]
theorem low_bear : lowB BearB = bearT := by decide +kernel
theorem bear_of (s : ByteArray) (h : 1 ≤ s.size) : bearR (BearB ++ s) = (s, 0) := by
  unfold bearR
  have h1 : (BearB ++ s).extract 0 7 = BearB := ext_left BearB s
  have h2 : (BearB ++ s).extract 7 (BearB ++ s).size = s := ext_right BearB s
  rw [h1, h2, if_pos ⟨by rw [ByteArray.size_append]; show 8 ≤ 7 + _; omega, low_bear⟩]
theorem lvT_who : whoR [lvT] [BearB ++ credT lvT] = (0, 0) := by
  unfold whoR
  rw [if_pos (good_one lvT_ok)]
  show (if (bearR (BearB ++ credT lvT)).2 = 0 then verR [lvT] (bearR (BearB ++ credT lvT)).1 else (0, (bearR (BearB ++ credT lvT)).2)) = (0, 0)
  rw [bear_of _ (by rw [lvT_size]; decide), if_pos rfl]
  exact ver_own (good_one lvT_ok) (i := 0) rfl rfl
theorem lvT_none : whoR [lvT] [] = (0, 210) := by
  unfold whoR
  rw [if_pos (good_one lvT_ok)]
end Go.Proofs.YtedibkcempcpnaaDoor.T
