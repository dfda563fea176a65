/-
  What Parse tells of any bytes: the pure side.
-/
import Derived.Test.YthhhoppmbimeiaaDoorRdH
namespace Go.Proofs.YthhhoppmbimeiaaDoor
open Go.RowKit
/-- Where a head's end first stands, if it stands within 4096 bytes. -/
def ix4 (s : ByteArray) : Option Nat := (List.range s.size).find? (fun j => decide (end4 s j ∧ j + 4 ≤ 4096))
theorem ix4_hit {s : ByteArray} {k : Nat} (h : end4 s k) (hk : k + 4 ≤ 4096) (h0 : ∀ j, j < k → ¬ end4 s j) : ix4 s = some k := by
  unfold ix4
  rw [List.find?_range_eq_some]
  exact ⟨decide_eq_true ⟨h, hk⟩, List.mem_range.2 (by have := h.1; omega), fun j hj => by simp [h0 j hj]⟩
theorem ix4_none {s : ByteArray} (h0 : ∀ j, j + 4 ≤ 4096 → ¬ end4 s j) : ix4 s = none := by
  unfold ix4
  rw [List.find?_eq_none]
  intro j _
  simp only [decide_eq_true_eq, not_and]
  exact fun h1 h2 => h0 j h2 h1
theorem ix4_some {s : ByteArray} {k : Nat} (h : ix4 s = some k) : end4 s k ∧ k + 4 ≤ 4096 ∧ ∀ j, j < k → ¬ end4 s j := by
  unfold ix4 at h
  rw [List.find?_range_eq_some] at h
  obtain ⟨h1, _, h3⟩ := h
  have h2 := of_decide_eq_true h1
  refine ⟨h2.1, h2.2, fun j hj he => ?_⟩
  have := h3 j hj
  simp only [Bool.not_eq_true', decide_eq_false_iff_not, not_and] at this
  exact this he (by omega)
theorem ix4_none' {s : ByteArray} (h : ix4 s = none) : ∀ j, j + 4 ≤ 4096 → ¬ end4 s j := by
  unfold ix4 at h
  rw [List.find?_eq_none] at h
  intro j hj he
  have := h j (List.mem_range.2 (by have := he.1; omega))
  simp only [decide_eq_true_eq, not_and] at this
  exact this he hj
theorem end4_sub {t : ByteArray} {p b j : Nat} (hb : b ≤ t.size) : end4 (t.extract p b) j ↔ p + j + 3 < b ∧ end4 t (p + j) := by
  unfold end4
  rw [sub_size hb]
  constructor
  · rintro ⟨h0, h1, h2, h3, h4⟩
    rw [sub_byte (by omega)] at h1 h2 h3 h4
    exact ⟨by omega, by omega, h1, h2, h3, h4⟩
  · rintro ⟨h0, h5, h1, h2, h3, h4⟩
    refine ⟨by omega, ?_, ?_, ?_, ?_⟩
    · rw [sub_byte (by omega)]; exact h1
    · rw [sub_byte (by omega)]; exact h2
    · rw [sub_byte (by omega)]; exact h3
    · rw [sub_byte (by omega)]; exact h4
/-- The program's search. -/
theorem ix4_index (s : ByteArray) : (Lib.indexB (s.extract 0 (min s.size 4096)) hEnd = -1 ∧ ix4 s = none) ∨ (∃ k : Nat, Lib.indexB (s.extract 0 (min s.size 4096)) hEnd = k ∧ ix4 s = some k) := by
  have hb : min s.size 4096 ≤ s.size := Nat.min_le_left _ _
  rcases ix_four (s.extract 0 (min s.size 4096)) with ⟨h1, h2⟩ | ⟨k, h1, h2, h3⟩
  · refine Or.inl ⟨h1, ix4_none fun j hj he => h2 j ?_⟩
    rw [end4_sub hb, Nat.zero_add]
    exact ⟨by have := he.1; omega, he⟩
  · rw [end4_sub hb, Nat.zero_add] at h2
    refine Or.inr ⟨k, h1, ix4_hit h2.2 (by omega) fun j hj he => h3 j hj ?_⟩
    rw [end4_sub hb, Nat.zero_add]
    exact ⟨by omega, he⟩
theorem ends_of {s : ByteArray} {k : Nat} (h : ix4 s = some k) : EndsE (s.extract 0 (k + 4)) ∧ (s.extract 0 (k + 4)).size = k + 4 ∧ k + 4 ≤ s.size := by
  obtain ⟨h1, h2, h3⟩ := ix4_some h
  have hz := h1.1
  have e : (s.extract 0 (k + 4)).size = k + 4 := by rw [sub_size (by omega)]; omega
  refine ⟨⟨by omega, ?_, ?_, ?_, ?_, ?_⟩, e, by omega⟩
  · rw [e, sub_byte (by omega), Nat.zero_add]; exact h1.2.1
  · rw [e, sub_byte (by omega), Nat.zero_add]; exact h1.2.2.1
  · rw [e, sub_byte (by omega), Nat.zero_add]; exact h1.2.2.2.1
  · rw [e, sub_byte (by omega), Nat.zero_add]; exact h1.2.2.2.2
  · intro j hj he
    rw [e] at hj
    rw [end4_sub (by omega), Nat.zero_add] at he
    exact h3 j (by omega) he.2
/-- What Parse tells. -/
structure Ps where
  met : ByteArray
  tar : ByteArray
  fs : List Fd
  body : ByteArray
  shut : Bool
  size : Nat
  err : Int
def noPs (e : Int) : Ps := ⟨⟨#[]⟩, ⟨#[]⟩, [], ⟨#[]⟩, false, 0, e⟩
/-- .. of bytes whose head ends at k. -/
def atP (s : ByteArray) (k : Nat) : Option (ByteArray × ByteArray × List Fd × Bool) → Ps
  | none => noPs 170
  | some (_, _, _, false) => noPs 170
  | some (m, t, fs, true) =>
    if (rightR m t fs).2 ≠ 0 then noPs (rightR m t fs).2
    else if s.size < k + 4 + (rightR m t fs).1.toNat then noPs 4
    else ⟨m, t, fs, s.extract (k + 4) (k + 4 + (rightR m t fs).1.toNat), clsR fs, k + 4 + (rightR m t fs).1.toNat, 0⟩
def parseR (s : ByteArray) : Ps := match ix4 s with
  | none => noPs (if 4096 ≤ s.size then 172 else 4)
  | some k => atP s k (rdH (s.extract 0 k))
theorem bodyR_bound (v : ByteArray) : 0 ≤ (bodyR v).1 ∧ (bodyR v).1 ≤ 8192 ∧ ((bodyR v).2 = 0 ∨ (bodyR v).2 = 170 ∨ (bodyR v).2 = 171) := by
  unfold bodyR
  split
  · rename_i h
    refine ⟨?_, ?_, Or.inl rfl⟩
    · show 0 ≤ (digR v 8192).1
      unfold digR at h ⊢
      split <;> (try split) <;> (try split) <;> simp_all <;> omega
    · show (digR v 8192).1 ≤ 8192
      unfold digR at h ⊢
      split <;> (try split) <;> (try split) <;> simp_all <;> omega
  · split
    · exact ⟨by decide, by decide, Or.inr (Or.inr rfl)⟩
    · exact ⟨by decide, by decide, Or.inr (Or.inl rfl)⟩
theorem rightR_bound (m t : ByteArray) (fs : List Fd) : 0 ≤ (rightR m t fs).1 ∧ (rightR m t fs).1 ≤ 8192 ∧ ((rightR m t fs).2 = 0 ∨ (rightR m t fs).2 = 170 ∨ (rightR m t fs).2 = 171) := by
  unfold rightR
  split
  · unfold lenR
    cases allF nmLen fs with
    | nil => exact ⟨by decide, by decide, Or.inl rfl⟩
    | cons v l => exact bodyR_bound v
  · exact ⟨by decide, by decide, Or.inr (Or.inl rfl)⟩
theorem rdH_ok {h : ByteArray} (hs : h.size ≤ 4096) {m t : ByteArray} {fs : List Fd} {ok : Bool} (e : rdH h = some (m, t, fs, ok)) : m.size ≤ 4096 ∧ t.size ≤ 4096 ∧ fs.length ≤ 4096 ∧ ∀ f ∈ fs, f.name.size ≤ 4096 ∧ f.val.size ≤ 4096 ∧ fldR f = true := by
  obtain ⟨l, ls, hl⟩ := lines_cons h
  have hps := parts_size (sep := crlf) (by decide) 4096 h hs
  rw [show partsOf crlf h = l :: ls from hl] at hps
  unfold rdH at e
  rw [hl] at e
  simp only at e
  split at e
  · cases e
  · rename_i m' t' hq
    cases e
    have hw := first_words hq
    have hps2 := parts_size (sep := blk) (by decide) 4096 l (hps.2 l (List.mem_cons_self ..))
    rw [show partsOf blk l = wordsOf l from rfl, hw] at hps2
    have ht := takeF_ok ls 4096 (fun x hx => hps.2 x (List.mem_cons_of_mem _ hx))
    refine ⟨hps2.2 _ (by simp), hps2.2 _ (by simp), ?_, ht.2⟩
    have := hps.1
    simp at this
    omega
end Go.Proofs.YthhhoppmbimeiaaDoor
