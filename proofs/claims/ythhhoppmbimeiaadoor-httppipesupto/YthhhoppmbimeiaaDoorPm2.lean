/-
  As bytes come: what Parse tells of more bytes, and of fewer.
-/
import Derived.Test.YthhhoppmbimeiaaDoorLiv
namespace Go.Proofs.YthhhoppmbimeiaaDoor
open Go.RowKit
theorem byteAt_app {s t : ByteArray} {j : Nat} (h : j < s.size) : byteAt (s ++ t) j = byteAt s j := by
  unfold byteAt
  have e : (s ++ t).data.toList = s.data.toList ++ t.data.toList := by simp
  rw [e, List.getD_eq_getElem?_getD, List.getD_eq_getElem?_getD, List.getElem?_append_left (by simpa using h)]
theorem ext_list {a b : ByteArray} (h : a.data.toList = b.data.toList) : a = b := data_inj h
theorem sub_app {s t : ByteArray} {a b : Nat} (h : b ≤ s.size) : (s ++ t).extract a b = s.extract a b := by
  apply ext_list
  rw [sub_list, sub_list]
  have e : (s ++ t).data.toList = s.data.toList ++ t.data.toList := by simp
  have hl : s.data.toList.length = s.size := by rw [Array.length_toList]; rfl
  rw [e]
  by_cases ha : a ≤ s.size
  · rw [List.drop_append_of_le_length (by omega), List.take_append_of_le_length (by rw [List.length_drop]; omega)]
  · rw [show b - a = 0 by omega]; simp
theorem size_app (s t : ByteArray) : (s ++ t).size = s.size + t.size := by simp
theorem end4_app {s t : ByteArray} {j : Nat} (h : j + 4 ≤ s.size) : end4 (s ++ t) j ↔ end4 s j := by
  unfold end4
  rw [byteAt_app (by omega), byteAt_app (by omega), byteAt_app (by omega), byteAt_app (by omega), size_app]
  constructor
  · rintro ⟨_, h1⟩; exact ⟨by omega, h1⟩
  · rintro ⟨_, h1⟩; exact ⟨by omega, h1⟩
theorem ix4_app {s t : ByteArray} {k : Nat} (h : ix4 s = some k) : ix4 (s ++ t) = some k := by
  obtain ⟨h1, h2, h3⟩ := ix4_some h
  have hz := h1.1
  refine ix4_hit ((end4_app (by omega)).2 h1) h2 fun j hj he => h3 j hj ((end4_app (by omega)).1 he)
/-- What Parse tells, by cases. -/
inductive PCase (s : ByteArray) : Prop
  | wide (h : ix4 s = none) (hz : 4096 ≤ s.size) (e : parseR s = noPs 172)
  | few (h : ix4 s = none) (hz : s.size < 4096) (e : parseR s = noPs 4)
  | bad (k : Nat) (E : Int) (h : ix4 s = some k) (hE : E ≠ 4) (hE0 : E ≠ 0) (e : parseR s = noPs E) (hm : ∀ t : ByteArray, ix4 t = some k → t.extract 0 k = s.extract 0 k → parseR t = noPs E)
  | more (k x : Nat) (h : ix4 s = some k) (hz : s.size < k + 4 + x) (hx : x ≤ 8192) (e : parseR s = noPs 4)
  | good (k x : Nat) (m tg : ByteArray) (fs : List Fd) (b : Bool) (h : ix4 s = some k) (hz : k + 4 + x ≤ s.size) (hx : x ≤ 8192) (e : parseR s = ⟨m, tg, fs, s.extract (k + 4) (k + 4 + x), b, k + 4 + x, 0⟩)
      (hm : ∀ t : ByteArray, ix4 t = some k → t.extract 0 k = s.extract 0 k → parseR t = if t.size < k + 4 + x then noPs 4 else ⟨m, tg, fs, t.extract (k + 4) (k + 4 + x), b, k + 4 + x, 0⟩)
theorem pcase (s : ByteArray) : PCase s := by
  cases hk : ix4 s with
  | none =>
    have e : parseR s = noPs (if 4096 ≤ s.size then 172 else 4) := by rw [parseR, hk]
    by_cases hz : 4096 ≤ s.size
    · exact .wide hk hz (by rw [e, if_pos hz])
    · exact .few hk (by omega) (by rw [e, if_neg hz])
  | some k =>
    have e : ∀ t : ByteArray, ix4 t = some k → t.extract 0 k = s.extract 0 k → parseR t = atP t k (rdH (s.extract 0 k)) := fun t h1 h2 => by rw [parseR, h1]; show atP t k (rdH (t.extract 0 k)) = _; rw [h2]
    cases hn : rdH (s.extract 0 k) with
    | none => exact .bad k 170 hk (by decide) (by decide) (by rw [e s hk rfl, hn]; rfl) (fun t h1 h2 => by rw [e t h1 h2, hn]; rfl)
    | some y =>
      obtain ⟨m, tg, fs, ok⟩ := y
      cases ok with
      | false => exact .bad k 170 hk (by decide) (by decide) (by rw [e s hk rfl, hn]; rfl) (fun t h1 h2 => by rw [e t h1 h2, hn]; rfl)
      | true =>
        obtain ⟨r1, r2, r3⟩ := rightR_bound m tg fs
        have e2 : ∀ t : ByteArray, ix4 t = some k → t.extract 0 k = s.extract 0 k → parseR t = if (rightR m tg fs).2 ≠ 0 then noPs (rightR m tg fs).2 else if t.size < k + 4 + (rightR m tg fs).1.toNat then noPs 4 else ⟨m, tg, fs, t.extract (k + 4) (k + 4 + (rightR m tg fs).1.toNat), clsR fs, k + 4 + (rightR m tg fs).1.toNat, 0⟩ := fun t h1 h2 => by rw [e t h1 h2, hn]; rfl
        by_cases hE : (rightR m tg fs).2 = 0
        · have e3 : ∀ t : ByteArray, ix4 t = some k → t.extract 0 k = s.extract 0 k → parseR t = if t.size < k + 4 + (rightR m tg fs).1.toNat then noPs 4 else ⟨m, tg, fs, t.extract (k + 4) (k + 4 + (rightR m tg fs).1.toNat), clsR fs, k + 4 + (rightR m tg fs).1.toNat, 0⟩ := fun t h1 h2 => by rw [e2 t h1 h2, if_neg (by simp [hE])]
          by_cases hz : s.size < k + 4 + (rightR m tg fs).1.toNat
          · exact .more k _ hk hz (by omega) (by rw [e3 s hk rfl, if_pos hz])
          · exact .good k _ m tg fs (clsR fs) hk (by omega) (by omega) (by rw [e3 s hk rfl, if_neg hz]) e3
        · exact .bad k (rightR m tg fs).2 hk (by omega) hE (by rw [e2 s hk rfl, if_pos hE]) (fun t h1 h2 => by rw [e2 t h1 h2, if_pos hE])
theorem parse_none {s : ByteArray} (h : (parseR s).err ≠ 0) : parseR s = noPs (parseR s).err := by
  cases pcase s with
  | wide _ _ e => rw [e]; rfl
  | few _ _ e => rw [e]; rfl
  | bad k E _ _ _ e _ => rw [e]; rfl
  | more k x _ _ _ e => rw [e]; rfl
  | good k x m tg fs b _ _ _ e _ => rw [e] at h; exact absurd rfl h
theorem parse_more {s : ByteArray} (t : ByteArray) (h : (parseR s).err ≠ 4) : parseR (s ++ t) = parseR s := by
  cases pcase s with
  | wide hi hz e =>
    rw [e, parseR, ix4_none fun j hj he => ix4_none' hi j hj ((end4_app (by omega)).1 he)]
    show noPs (if 4096 ≤ (s ++ t).size then 172 else 4) = _
    rw [size_app, if_pos (by omega)]
  | few _ _ e => rw [e] at h; exact absurd rfl h
  | bad k E hi _ _ e hm =>
    obtain ⟨_, _, hks⟩ := ends_of hi
    rw [e]
    exact hm _ (ix4_app hi) (sub_app (by omega))
  | more k x _ _ _ e => rw [e] at h; exact absurd rfl h
  | good k x m tg fs b hi hz _ e hm =>
    obtain ⟨_, _, hks⟩ := ends_of hi
    rw [e, hm _ (ix4_app hi) (sub_app (by omega)), size_app, if_neg (by omega), sub_app (by omega)]
theorem parse_size {s : ByteArray} (h : (parseR s).err = 0) : 1 ≤ (parseR s).size ∧ (parseR s).size ≤ s.size ∧ (parseR s).size ≤ 12288 := by
  cases pcase s with
  | wide _ _ e => rw [e] at h; cases h
  | few _ _ e => rw [e] at h; cases h
  | bad k E _ _ hE e _ => rw [e] at h; exact absurd h hE
  | more k x _ _ _ e => rw [e] at h; cases h
  | good k x m tg fs b hi hz hx e _ =>
    have := (ix4_some hi).2.1
    rw [e]
    exact ⟨by show 1 ≤ k + 4 + x; omega, hz, by show k + 4 + x ≤ 12288; omega⟩
theorem parse_few {s : ByteArray} (h : (parseR s).err = 0) {k : Nat} (hk : k < (parseR s).size) : (parseR (s.extract 0 k)).err = 4 := by
  cases pcase s with
  | wide _ _ e => rw [e] at h; cases h
  | few _ _ e => rw [e] at h; cases h
  | bad k E _ _ hE e _ => rw [e] at h; exact absurd h hE
  | more k x _ _ _ e => rw [e] at h; cases h
  | good n x m tg fs b hi hz hx e hm =>
    rw [e] at hk
    replace hk : k < n + 4 + x := hk
    obtain ⟨h1, h2, h3⟩ := ix4_some hi
    have hes : (s.extract 0 k).size = k := by rw [sub_size (by omega)]; omega
    by_cases hkn : k < n + 4
    · have : ix4 (s.extract 0 k) = none := ix4_none fun j hj he => by
        rw [end4_sub (by omega), Nat.zero_add] at he
        exact h3 j (by omega) he.2
      rw [parseR, this]
      show (if 4096 ≤ (s.extract 0 k).size then (172 : Int) else 4) = 4
      rw [hes, if_neg (by omega)]
    · have hi2 : ix4 (s.extract 0 k) = some n := by
        refine ix4_hit ?_ h2 fun j hj he => ?_
        · rw [end4_sub (by omega), Nat.zero_add]; exact ⟨by omega, h1⟩
        · rw [end4_sub (by omega), Nat.zero_add] at he; exact h3 j hj he.2
      rw [hm _ hi2 (by rw [sub_sub _ _ _ _ _ (by omega)]; simp), hes, if_pos (by omega)]
      rfl
end Go.Proofs.YthhhoppmbimeiaaDoor
