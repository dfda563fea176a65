/-
  What all texts of this seat share: rows of texts, where a byte stands; the contract of the library's Cut.
-/
import Derived.Test.YtedibkcempcpnaaDoorTLowerC
import Derived.Test.YtedibkcempcpnaaDoorShelf
import Derived.Lib.SplitLaws
import Derived.WalkMore
namespace Go.Proofs.YtedibkcempcpnaaDoor.T
open Go.RowKit
theorem byteAt_get {s : ByteArray} {k : Nat} (h : k < s.size) : s.data.toList[k]? = some (UInt8.ofNat (byteAt s k)) := by
  unfold byteAt
  rw [List.getElem?_eq_getElem (by simpa using h), List.getD_eq_getElem?_getD, List.getElem?_eq_getElem (by simpa using h)]
  simp
/-- The first k bytes all keep p. -/
def allN (p : Nat → Bool) (s : ByteArray) : Nat → Bool
  | 0 => true
  | k + 1 => allN p s k && p (byteAt s k)
theorem allN_false {p : Nat → Bool} {s : ByteArray} {k m : Nat} (h : allN p s k = false) (hm : k ≤ m) : allN p s m = false := by
  induction m with
  | zero => obtain rfl : k = 0 := by omega
            exact h
  | succ m ih =>
    rcases Nat.lt_or_eq_of_le hm with h1 | rfl
    · rw [allN, ih (by omega), Bool.false_and]
    · exact h
theorem allN_all {p : Nat → Bool} {s : ByteArray} {k : Nat} : allN p s k = true ↔ ∀ j, j < k → p (byteAt s j) = true := by
  induction k with
  | zero => simp [allN]
  | succ k ih =>
    rw [allN, Bool.and_eq_true, ih]
    constructor
    · rintro ⟨h1, h2⟩ j hj
      rcases Nat.lt_succ_iff_lt_or_eq.1 hj with h | rfl
      · exact h1 j h
      · exact h2
    · exact fun h => ⟨fun j hj => h j (by omega), h k (by omega)⟩
theorem allN_mem {p : Nat → Bool} {s : ByteArray} : allN p s s.size = true ↔ ∀ x ∈ s.data.toList, p x.toNat = true := by
  have hl : s.data.toList.length = s.size := by simp
  rw [allN_all]
  constructor
  · intro h x hx
    obtain ⟨j, hj, rfl⟩ := List.getElem_of_mem hx
    have := h j (by omega)
    unfold byteAt at this
    rw [List.getD_eq_getElem?_getD, List.getElem?_eq_getElem hj] at this
    exact this
  · intro h j hj
    unfold byteAt
    rw [List.getD_eq_getElem?_getD, List.getElem?_eq_getElem (by omega)]
    exact h _ (List.getElem_mem _)
/-- Where a byte first stands. -/
def ixB (s : ByteArray) (c : Nat) : Option Nat := (List.range s.size).find? (fun j => decide (byteAt s j = c))
theorem ixB_hit {s : ByteArray} {c k : Nat} (hk : k < s.size) (h : byteAt s k = c) (h0 : ∀ j, j < k → byteAt s j ≠ c) : ixB s c = some k := by
  unfold ixB
  rw [List.find?_range_eq_some]
  exact ⟨decide_eq_true h, List.mem_range.2 hk, fun j hj => by simp [h0 j hj]⟩
theorem ixB_none {s : ByteArray} {c : Nat} (h0 : ∀ j, j < s.size → byteAt s j ≠ c) : ixB s c = none := by
  unfold ixB
  rw [List.find?_eq_none]
  intro j hj
  simp [h0 j (List.mem_range.1 hj)]
def cutR (s : ByteArray) (c : Nat) : ByteArray × ByteArray × Bool := match ixB s c with
  | some k => (s.extract 0 k, s.extract (k + 1) s.size, true)
  | none => (⟨#[]⟩, ⟨#[]⟩, false)
theorem info9 : (Tryd.prog.info? 9).map (fun i => (i.zero, i.size, i.bytes)) = some (some (.string ⟨#[]⟩), 1, 16) := by kernel_rfl
def strV (l : List ByteArray) : List Value := l.map Value.string
theorem strV_one (l : List ByteArray) : ∀ u ∈ strV l, u.oneCell' = true := by
  intro u hu
  simp only [strV, List.mem_map] at hu
  obtain ⟨c, _, rfl⟩ := hu
  rfl
theorem owns_on {w w' : World} {B e n : Nat} {v : Value} {xs : List Value} (h : w.ownsRow B e 1 v n xs) (b : Below w.heap.size w w') : w'.ownsRow B e 1 v n xs := by
  refine ⟨h.1, ?_⟩
  rcases h.2 with q | ⟨g, cp, cur, hv, hg, hh, rr⟩
  · exact Or.inl q
  · exact Or.inr ⟨g, cp, cur, hv, hg, (b.block g (Array.getElem?_eq_some_iff.1 hh).1).trans hh, rr⟩
theorem owns_str {w : World} {B n c : Nat} {a : Option Addr} {l : List ByteArray} (h : w.ownsRow B 9 1 (.slice a n c) n (strV l)) {j : Nat} {x : ByteArray} (hj : l[j]? = some x) : ∃ g, a = some ⟨g, 0, none⟩ ∧ B ≤ g ∧ g < w.heap.size ∧ w.cell? ⟨g, j, none⟩ = some (.string x) := by
  have hl := h.1
  have hjl : j < l.length := (List.getElem?_eq_some_iff.1 hj).1
  simp only [strV, List.length_map] at hl
  rcases h.2 with ⟨_, h0⟩ | ⟨g, cap, cur, e, hB, hh, hn, _, _, ht⟩
  · omega
  · rw [Value.slice.injEq] at e
    refine ⟨g, e.1, hB, (Array.getElem?_eq_some_iff.1 hh).1, ?_⟩
    refine cell_of_block hh ?_
    have h1 : (strV l)[j]? = some (.string x) := by simp [strV, hj]
    rw [← ht, List.getElem?_take] at h1
    split at h1
    · simpa using h1
    · cases h1
/-- From an address on there stand these texts. -/
def TextsAt (W : World) (a : Option Addr) (l : List ByteArray) : Prop := ∀ j z, l[j]? = some z → ∃ b off, a = some ⟨b, off, none⟩ ∧ b < W.heap.size ∧ W.cell? ⟨b, off + j, none⟩ = some (.string z)
theorem TextsAt.below {W W' : World} {a : Option Addr} {l : List ByteArray} (h : TextsAt W a l) (B : Below W.heap.size W W') : TextsAt W' a l := fun j z hj => by
  obtain ⟨b, off, e, hb, hc⟩ := h j z hj
  exact ⟨b, off, e, Nat.lt_of_lt_of_le hb B.size, (B.cell (p := ⟨b, off + j, none⟩) hb).trans hc⟩
theorem row_texts {W : World} {base n cap : Nat} {a : Option Addr} {l : List ByteArray} (h : W.ownsRow base 9 1 (.slice a n cap) n (strV l)) : TextsAt W a l := by
  intro j z hj
  obtain ⟨g, e, _, hg, hc⟩ := owns_str h hj
  exact ⟨g, 0, e, hg, by rw [Nat.zero_add]; exact hc⟩
theorem occ_nil (l : List UInt8) (j : Nat) : Lib.occAt l [] j = true := by simp [Lib.occAt]
theorem occ_cons (s : ByteArray) (c : UInt8) (cs : List UInt8) (j : Nat) :
    Lib.occAt s.data.toList (c :: cs) j = (decide (j < s.size ∧ byteAt s j = c.toNat) && Lib.occAt s.data.toList cs (j + 1)) := by
  unfold Lib.occAt
  by_cases h : j < s.size
  · rw [byteAt_drop h, List.isPrefixOf]
    congr 1
    rw [Bool.eq_iff_iff, beq_iff_eq, decide_eq_true_eq]
    have hb := byteAt_lt s j
    constructor
    · rintro rfl
      exact ⟨h, by rw [UInt8.toNat_ofNat_of_lt' hb]⟩
    · rintro ⟨_, e⟩
      rw [e, UInt8.ofNat_toNat]
  · rw [List.drop_eq_nil_of_le (by simp; omega), decide_eq_false (by omega), Bool.false_and]
    rfl
theorem occ1 (s : ByteArray) (c : UInt8) (j : Nat) : Lib.occAt s.data.toList [c] j = decide (j < s.size ∧ byteAt s j = c.toNat) := by
  rw [occ_cons, occ_nil, Bool.and_true]
theorem ix_one (s : ByteArray) (c : UInt8) : (Lib.indexB s ⟨#[c]⟩ = -1 ∧ ixB s c.toNat = none) ∨ (∃ k : Nat, Lib.indexB s ⟨#[c]⟩ = k ∧ ixB s c.toNat = some k ∧ k < s.size) := by
  rcases Lib.index_spec s.data.toList [c] with ⟨h1, h2⟩ | ⟨k, h1, _, h3, h4⟩
  · exact Or.inl ⟨h1, ixB_none fun j hj hb => by
      have := h2 j (by simp; omega)
      rw [occ1] at this
      exact (of_decide_eq_false this) ⟨hj, hb⟩⟩
  · rw [occ1] at h3
    have h5 := of_decide_eq_true h3
    refine Or.inr ⟨k, h1, ixB_hit h5.1 h5.2 fun j hj hb => ?_, h5.1⟩
    have := h4 j hj
    rw [occ1] at this
    exact (of_decide_eq_false this) ⟨by omega, hb⟩
theorem sub_whole (t : ByteArray) : t.extract 0 t.size = t := by simp
def cutP (s : ByteArray) (c : Nat) : ByteArray × ByteArray × Bool := match ixB s c with
  | some k => (s.extract 0 k, s.extract (k + 1) s.size, true)
  | none => (s, ⟨#[]⟩, false)
theorem cutP_true {s : ByteArray} {c : Nat} (h : (cutP s c).2.2 = true) : cutR s c = cutP s c := by
  unfold cutP at h
  unfold cutP cutR
  cases hq : ixB s c with
  | some k => rfl
  | none => rw [hq] at h; cases h
theorem cutP_false {s : ByteArray} {c : Nat} (h : (cutP s c).2.2 = false) : (cutR s c).2.2 = false := by
  unfold cutP at h
  unfold cutR
  cases hq : ixB s c with
  | some k => rw [hq] at h; cases h
  | none => rfl
theorem cutP_size (s : ByteArray) (c : Nat) : (cutP s c).1.size ≤ s.size ∧ (cutP s c).2.1.size ≤ s.size := by
  unfold cutP
  cases hq : ixB s c with
  | some k => exact ⟨by show (s.extract 0 k).size ≤ _; rw [ByteArray.size_extract]; omega, by show (s.extract (k + 1) s.size).size ≤ _; rw [ByteArray.size_extract]; omega⟩
  | none => exact ⟨Nat.le_refl _, Nat.zero_le _⟩
theorem cut_any (s : ByteArray) (c : UInt8) (hs : s.size < 4294967281) (m : Int) (w : World) (hm : w.cell? ⟨1, 0, none⟩ = some (.int .i64 m)) :
    Calls Tryd.prog 30 #[.string s, .string ⟨#[c]⟩] w fun e w' => e = .returned (.tuple #[.string (cutP s c.toNat).1, .string (cutP s c.toNat).2.1, .bool (cutP s c.toNat).2.2]) ∧ ∃ n, w' = w.drewN n := by
  refine (Tryd.strings_Cut s ⟨#[c]⟩ m w hs hm).mono ?_
  rintro e w' ⟨rfl, h⟩
  refine ⟨?_, h⟩
  rcases ix_one s c with ⟨h1, h2⟩ | ⟨k, h1, h2, h3⟩
  · obtain ⟨q1, q2, q3⟩ := Lib.cutB_miss s ⟨#[c]⟩ h1
    rw [q1, q2, q3, cutP, h2]
    rfl
  · obtain ⟨q1, q2, q3⟩ := Lib.cutB_hit s ⟨#[c]⟩ k h1
    rw [q1, q2, q3, cutP, h2]
    rfl
theorem row_form {W : World} {B n size : Nat} {e : TypeId} {v : Value} {xs : List Value} (h : W.ownsRow B e size v n xs) : ∃ a c, v = .slice a n c := by
  rcases h.2 with ⟨rfl, hn⟩ | ⟨g, cap, cur, rfl, _⟩
  · exact ⟨none, 0, by rw [hn]⟩
  · exact ⟨_, _, rfl⟩
theorem owns_on2 {w w' : World} {B e z n : Nat} {v : Value} {xs : List Value} (h : w.ownsRow B e z v n xs) (b : Below w.heap.size w w') : w'.ownsRow B e z v n xs := by
  refine ⟨h.1, ?_⟩
  rcases h.2 with q | ⟨g, cp, cur, hv, hg, hh, rr⟩
  · exact Or.inl q
  · exact Or.inr ⟨g, cp, cur, hv, hg, (b.block g (Array.getElem?_eq_some_iff.1 hh).1).trans hh, rr⟩
theorem mx_below {w W : World} {m : Int} (hm : w.cell? ⟨1, 0, none⟩ = some (.int .i64 m)) (b : Below w.heap.size w W) : W.cell? ⟨1, 0, none⟩ = some (.int .i64 m) := by
  have h0 : 1 < w.heap.size := by
    rcases Nat.lt_or_ge 1 w.heap.size with h | h
    · exact h
    · rw [World.cell?, Array.getElem?_eq_none h] at hm
      cases hm
  exact (World.cell?_of_block (b.block 1 h0)).trans hm
theorem ext_list {a b : ByteArray} (h : a.data.toList = b.data.toList) : a = b := by
  obtain ⟨⟨x⟩⟩ := a; obtain ⟨⟨y⟩⟩ := b
  simp only at h
  rw [h]
theorem toList_ne {a b : ByteArray} (h : a ≠ b) : (a.toList == b.toList) = false := by
  rw [beq_eq_false_iff_ne, ByteArray.toList_eq, ByteArray.toList_eq]
  exact fun e => h (ext_list e)
theorem toList_eq' {a b : ByteArray} (h : a = b) : (a.toList == b.toList) = true := by subst h; simp
end Go.Proofs.YtedibkcempcpnaaDoor.T
