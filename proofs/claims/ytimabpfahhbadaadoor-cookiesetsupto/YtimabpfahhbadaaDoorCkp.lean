/-
  Cookies, the pure side: texts parted at a semicolon and a blank, and joined again; pairs; what is read and what is printed.
-/
import Derived.Test.YtimabpfahhbadaaDoorCor
import Derived.Lib.Join
namespace Go.Proofs.YtimabpfahhbadaaDoor
open Go.RowKit
def octB (x : Nat) : Bool := decide (33 ≤ x ∧ x ≤ 126 ∧ x ≠ 34 ∧ x ≠ 44 ∧ x ≠ 59 ∧ x ≠ 92)
def octR (s : ByteArray) : Bool := allN octB s s.size
def markedB (s : ByteArray) : Bool := decide (2 ≤ s.size ∧ byteAt s 0 = 34 ∧ byteAt s (s.size - 1) = 34)
def bareB (s : ByteArray) : ByteArray := if markedB s = true then s.extract 1 (s.size - 1) else s
def okP (f : Fd) : Bool := tokR f.name && octR (bareB f.val)
def rdP (s : ByteArray) : Fd := ⟨(cutP s 61).1, (cutP s 61).2.1⟩
def okS (s : ByteArray) : Bool := (cutP s 61).2.2 && okP (rdP s)
def smb : ByteArray := ⟨#[59, 32]⟩
def prt (f : Fd) : ByteArray := f.name ++ ⟨#[61]⟩ ++ f.val
def jn (ts : List ByteArray) : ByteArray := ⟨(Lib.join (ts.map (·.data.toList)) [59, 32]).toArray⟩
def partsN (s : ByteArray) : List ByteArray := Lib.splitB smb 0 (min 17 (s.size + 1) - 1) s
def parts (s : ByteArray) : List ByteArray := partsOf smb s
def parseR (v : ByteArray) : List Fd × Int := if (parts v).length ≤ 16 ∧ (parts v).all okS = true then ((parts v).map rdP, 0) else ([], 190)
def printR (l : List Fd) : ByteArray × Int := if 1 ≤ l.length ∧ l.length ≤ 16 ∧ l.all okP = true then (jn (l.map prt), 0) else (⟨#[]⟩, 190)
theorem bareB_size (s : ByteArray) : (bareB s).size ≤ s.size := by
  unfold bareB
  split
  · rw [ByteArray.size_extract]; omega
  · exact Nat.le_refl _
theorem prt_size (f : Fd) : (prt f).size = f.name.size + f.val.size + 1 := by
  unfold prt
  rw [ByteArray.size_append, ByteArray.size_append]
  show _ + 1 + _ = _
  omega
def sepAt (s : ByteArray) (k : Nat) : Prop := k + 1 < s.size ∧ byteAt s k = 59 ∧ byteAt s (k + 1) = 32
instance (s : ByteArray) (k : Nat) : Decidable (sepAt s k) := by unfold sepAt; infer_instance
theorem occS (s : ByteArray) (j : Nat) : Lib.occAt s.data.toList [59, 32] j = decide (sepAt s j) := by
  rw [occ_cons, occ_cons, occ_nil, Bool.and_true, Bool.eq_iff_iff, Bool.and_eq_true, decide_eq_true_eq, decide_eq_true_eq, decide_eq_true_eq, sepAt]
  show (j < s.size ∧ byteAt s j = 59) ∧ (j + 1 < s.size ∧ byteAt s (j + 1) = 32) ↔ _
  omega
theorem ix_sep (s : ByteArray) : (Lib.indexB s smb = -1 ∧ ∀ j, ¬ sepAt s j) ∨ (∃ k : Nat, Lib.indexB s smb = k ∧ sepAt s k ∧ ∀ j, j < k → ¬ sepAt s j) := by
  rcases Lib.index_spec s.data.toList [59, 32] with ⟨h1, h2⟩ | ⟨k, h1, _, h3, h4⟩
  · refine Or.inl ⟨h1, fun j hj => ?_⟩
    have := h2 j (by have := hj.1; simp; omega)
    rw [occS] at this
    exact absurd hj (of_decide_eq_false this)
  · rw [occS] at h3
    refine Or.inr ⟨k, h1, of_decide_eq_true h3, fun j hj => ?_⟩
    have := h4 j hj
    rw [occS] at this
    exact of_decide_eq_false this
theorem parts_none {s : ByteArray} (h : ∀ j, ¬ sepAt s j) : parts s = [s] := by
  rcases ix_sep s with ⟨h1, _⟩ | ⟨k, _, h1, _⟩
  · exact parts_miss h1
  · exact absurd h1 (h k)
theorem parts_some {s : ByteArray} {k : Nat} (h : sepAt s k) (h0 : ∀ j, j < k → ¬ sepAt s j) : parts s = s.extract 0 k :: parts (s.extract (k + 2) s.size) := by
  rcases ix_sep s with ⟨_, h1⟩ | ⟨i, h1, h2, h3⟩
  · exact absurd h (h1 k)
  · obtain rfl : i = k := by
      rcases Nat.lt_trichotomy i k with q | q | q
      · exact absurd h2 (h0 i q)
      · exact q
      · exact absurd h (h3 k q)
    exact parts_hit (sep := smb) (by decide) h1
theorem parts_ne (s : ByteArray) : ∃ y r, parts s = y :: r := by
  have h := parts_len (sep := smb) (by decide) s
  cases hq : parts s with
  | nil => have : (partsOf smb s).length = 0 := by rw [show partsOf smb s = parts s from rfl, hq]; rfl
           omega
  | cons y r => exact ⟨y, r, rfl⟩
theorem join2 (x y : List UInt8) (r : List (List UInt8)) (sp : List UInt8) : Lib.join (x :: y :: r) sp = x ++ (sp ++ Lib.join (y :: r) sp) := by simp [Lib.join, List.intercalate, List.intersperse]
theorem jn_one (t : ByteArray) : jn [t] = t := by
  unfold jn
  rw [List.map_cons, List.map_nil, Lib.join_one]
theorem jn_two (x y : ByteArray) (r : List ByteArray) : (jn (x :: y :: r)).data.toList = x.data.toList ++ ([59, 32] ++ (jn (y :: r)).data.toList) := by
  unfold jn
  rw [List.map_cons, List.map_cons, join2]
theorem sub_to (s : ByteArray) (a : Nat) : (s.extract a s.size).data.toList = s.data.toList.drop a := by
  rw [sub_list, List.take_of_length_le (by simp)]
theorem sep_list {s : ByteArray} {k : Nat} (h : sepAt s k) : s.data.toList = (s.extract 0 k).data.toList ++ ([59, 32] ++ (s.extract (k + 2) s.size).data.toList) := by
  obtain ⟨h1, h2, h3⟩ := h
  rw [sub_to, sub_list]
  have e1 := byteAt_drop (s := s) (k := k) (by omega)
  have e2 := byteAt_drop (s := s) (k := k + 1) h1
  rw [h2, e2, h3] at e1
  show _ = List.take (k - 0) (List.drop 0 s.data.toList) ++ ([59, 32] ++ _)
  rw [Nat.sub_zero, List.drop_zero]
  conv => lhs; rw [← List.take_append_drop k s.data.toList, e1]
  rfl
theorem jn_parts : ∀ n (s : ByteArray), s.size ≤ n → jn (parts s) = s
  | n, s, hn => by
    rcases ix_sep s with ⟨_, h⟩ | ⟨k, _, h, h0⟩
    · rw [parts_none h, jn_one]
    · rw [parts_some h h0]
      have hk := h.1
      match n, hn with
      | 0, hn => omega
      | n + 1, hn =>
        have ih := jn_parts n (s.extract (k + 2) s.size) (by rw [ByteArray.size_extract]; omega)
        obtain ⟨y, r, hy⟩ := parts_ne (s.extract (k + 2) s.size)
        rw [hy] at ih ⊢
        apply ext_list
        rw [jn_two, ih]
        exact (sep_list h).symm
def noSem (t : ByteArray) : Prop := ∀ c ∈ t.data.toList, c ≠ 59
theorem byte_app_left {s : ByteArray} {a b : List UInt8} (h : s.data.toList = a ++ b) {j : Nat} (hj : j < a.length) : byteAt s j = (a.getD j 0).toNat := by
  unfold byteAt
  rw [h, getD_left hj]
theorem byte_app_right {s : ByteArray} {a b : List UInt8} (h : s.data.toList = a ++ b) (j : Nat) : byteAt s (a.length + j) = (b.getD j 0).toNat := by
  unfold byteAt
  rw [h, getD_right (by omega)]
  congr 2
  omega
theorem noSem_byte {t : ByteArray} (h : noSem t) {j : Nat} (hj : j < t.data.toList.length) : (t.data.toList.getD j 0).toNat ≠ 59 := fun e => h _ (getD_mem hj) (UInt8.toNat_inj.1 e)
theorem parts_jn : ∀ (t : ByteArray) (ts : List ByteArray), noSem t → (∀ x ∈ ts, noSem x) → parts (jn (t :: ts)) = t :: ts
  | t, [], h, _ => by
    rw [jn_one]
    refine parts_none fun j hj => noSem_byte h (j := j) (by have := hj.1; simp; omega) hj.2.1
  | t, u :: ts, h, hs => by
    have e := jn_two t u ts
    have ih := parts_jn u ts (hs u (List.mem_cons_self ..)) (fun x hx => hs x (List.mem_cons_of_mem _ hx))
    obtain ⟨s, hs'⟩ : ∃ s, jn (t :: u :: ts) = s := ⟨_, rfl⟩
    obtain ⟨r, hr⟩ : ∃ r, jn (u :: ts) = r := ⟨_, rfl⟩
    rw [hs', hr] at e
    rw [hr] at ih
    rw [hs']
    have hl : s.size = t.data.toList.length + (2 + r.data.toList.length) := by
      have := congrArg List.length e
      rw [List.length_append, List.length_append, Array.length_toList] at this
      exact this
    have h0 : sepAt s t.data.toList.length := by
      refine ⟨by omega, ?_, ?_⟩
      · have := byte_app_right e 0
        exact this
      · exact byte_app_right e 1
    rw [parts_some h0 (fun j hj hq => noSem_byte h hj ((byte_app_left e hj).symm.trans hq.2.1))]
    have e1 : s.extract 0 t.data.toList.length = t := by
      apply ext_list
      rw [sub_list, e]
      simp
    have e2 : s.extract (t.data.toList.length + 2) s.size = r := by
      apply ext_list
      rw [sub_to, e, ← List.append_assoc]
      exact List.drop_left' (by simp)
    rw [e1, e2, ih]
end Go.Proofs.YtimabpfahhbadaaDoor
