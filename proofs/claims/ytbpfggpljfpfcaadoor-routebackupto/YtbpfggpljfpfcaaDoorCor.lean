/-
  What all texts of this seat share: rows of texts and of pairs, where a byte stands, parts of texts; the contracts of the library's Cut and Split.
-/
import Derived.Test.YtbpfggpljfpfcaaDoorRtp
import Derived.Test.YtbpfggpljfpfcaaDoorShelf
import Derived.Lib.SplitLaws
import Derived.Deep.Cut
import Derived.WalkMore
namespace Go.Proofs.YtbpfggpljfpfcaaDoor
open Go.RowKit
/-- The first k bytes all keep p. -/
def allN (p : Nat → Bool) (s : ByteArray) : Nat → Bool
  | 0 => true
  | k + 1 => allN p s k && p (byteAt s k)
theorem allN_false {p : Nat → Bool} {s : ByteArray} {k m : Nat} (h : allN p s k = false) (hm : k ≤ m) : allN p s m = false := by
  induction m with
  | zero => obtain rfl : k = 0 := by omega
            exact h
  | succ m ih =>
    rcases Nat.lt_or_eq_of_le hm with h1 | rfl
    · rw [allN, ih (by omega), Bool.false_and]
    · exact h
theorem allN_all {p : Nat → Bool} {s : ByteArray} {k : Nat} : allN p s k = true ↔ ∀ j, j < k → p (byteAt s j) = true := by
  induction k with
  | zero => simp [allN]
  | succ k ih =>
    rw [allN, Bool.and_eq_true, ih]
    constructor
    · rintro ⟨h1, h2⟩ j hj
      rcases Nat.lt_succ_iff_lt_or_eq.1 hj with h | rfl
      · exact h1 j h
      · exact h2
    · exact fun h => ⟨fun j hj => h j (by omega), h k (by omega)⟩
theorem allN_mem {p : Nat → Bool} {s : ByteArray} : allN p s s.size = true ↔ ∀ x ∈ s.data.toList, p x.toNat = true := by
  have hl : s.data.toList.length = s.size := by simp
  rw [allN_all]
  constructor
  · intro h x hx
    obtain ⟨j, hj, rfl⟩ := List.getElem_of_mem hx
    have := h j (by omega)
    unfold byteAt at this
    rw [List.getD_eq_getElem?_getD, List.getElem?_eq_getElem hj] at this
    exact this
  · intro h j hj
    unfold byteAt
    rw [List.getD_eq_getElem?_getD, List.getElem?_eq_getElem (by omega)]
    exact h _ (List.getElem_mem _)
/-- Where a byte first stands. -/
def ixB (s : ByteArray) (c : Nat) : Option Nat := (List.range s.size).find? (fun j => decide (byteAt s j = c))
theorem ixB_hit {s : ByteArray} {c k : Nat} (hk : k < s.size) (h : byteAt s k = c) (h0 : ∀ j, j < k → byteAt s j ≠ c) : ixB s c = some k := by
  unfold ixB
  rw [List.find?_range_eq_some]
  exact ⟨decide_eq_true h, List.mem_range.2 hk, fun j hj => by simp [h0 j hj]⟩
theorem ixB_none {s : ByteArray} {c : Nat} (h0 : ∀ j, j < s.size → byteAt s j ≠ c) : ixB s c = none := by
  unfold ixB
  rw [List.find?_eq_none]
  intro j hj
  simp [h0 j (List.mem_range.1 hj)]
def cutR (s : ByteArray) (c : Nat) : ByteArray × ByteArray × Bool := match ixB s c with
  | some k => (s.extract 0 k, s.extract (k + 1) s.size, true)
  | none => (⟨#[]⟩, ⟨#[]⟩, false)
/-- A field. -/
structure Fd where
  name : ByteArray
  val : ByteArray
def fdV (c : Fd) : Value := .agg #[.string c.name, .string c.val]
def fdL (c : Fd) : List Value := [.string c.name, .string c.val]
def flF (l : List Fd) : List Value := l.flatMap fdL
/-- Fields from a slice's address on, in blocks below B. -/
def FA (B : Nat) (w : World) (a : Option Addr) (l : List Fd) : Prop :=
  ∀ j c, l[j]? = some c → ∃ b off, a = some ⟨b, off, none⟩ ∧ b < B ∧ w.cell? ⟨b, off + j * 2, none⟩ = some (.string c.name) ∧ w.cell? ⟨b, off + j * 2 + 1, none⟩ = some (.string c.val)
theorem FA.below {B : Nat} {w w' : World} {a : Option Addr} {l : List Fd} (h : FA B w a l) (k : ∀ b, b < B → w'.heap[b]? = w.heap[b]?) : FA B w' a l := by
  intro j c hj
  obtain ⟨b, off, ha, hb, h0, h1⟩ := h j c hj
  refine ⟨b, off, ha, hb, ?_, ?_⟩ <;> (simp only [World.cell?] at h0 h1 ⊢; rw [k b hb]; assumption)
theorem FA.up {B B' : Nat} {w : World} {a : Option Addr} {l : List Fd} (h : FA B w a l) (hB : B ≤ B') : FA B' w a l := by
  intro j c hj
  obtain ⟨b, off, ha, hb, h0⟩ := h j c hj
  exact ⟨b, off, ha, by omega, h0⟩
theorem FA.nil (B : Nat) (w : World) (a : Option Addr) : FA B w a [] := fun j v h => by simp at h
def fdOk (c : Fd) : Prop := c.name.size ≤ 140737488355328 ∧ c.val.size ≤ 140737488355328
theorem info9 : (Tryd.prog.info? 9).map (fun i => (i.zero, i.size, i.bytes)) = some (some (.string ⟨#[]⟩), 1, 16) := by kernel_rfl
def strV (l : List ByteArray) : List Value := l.map Value.string
theorem strV_one (l : List ByteArray) : ∀ u ∈ strV l, u.oneCell' = true := by
  intro u hu
  simp only [strV, List.mem_map] at hu
  obtain ⟨c, _, rfl⟩ := hu
  rfl
theorem owns_on {w w' : World} {B e n : Nat} {v : Value} {xs : List Value} (h : w.ownsRow B e 1 v n xs) (b : Below w.heap.size w w') : w'.ownsRow B e 1 v n xs := by
  refine ⟨h.1, ?_⟩
  rcases h.2 with q | ⟨g, cp, cur, hv, hg, hh, rr⟩
  · exact Or.inl q
  · exact Or.inr ⟨g, cp, cur, hv, hg, (b.block g (Array.getElem?_eq_some_iff.1 hh).1).trans hh, rr⟩
theorem owns_str {w : World} {B n c : Nat} {a : Option Addr} {l : List ByteArray} (h : w.ownsRow B 9 1 (.slice a n c) n (strV l)) {j : Nat} {x : ByteArray} (hj : l[j]? = some x) : ∃ g, a = some ⟨g, 0, none⟩ ∧ B ≤ g ∧ g < w.heap.size ∧ w.cell? ⟨g, j, none⟩ = some (.string x) := by
  have hl := h.1
  have hjl : j < l.length := (List.getElem?_eq_some_iff.1 hj).1
  simp only [strV, List.length_map] at hl
  rcases h.2 with ⟨_, h0⟩ | ⟨g, cap, cur, e, hB, hh, hn, _, _, ht⟩
  · omega
  · rw [Value.slice.injEq] at e
    refine ⟨g, e.1, hB, (Array.getElem?_eq_some_iff.1 hh).1, ?_⟩
    refine cell_of_block hh ?_
    have h1 : (strV l)[j]? = some (.string x) := by simp [strV, hj]
    rw [← ht, List.getElem?_take] at h1
    split at h1
    · simpa using h1
    · cases h1
/-- From an address on there stand these texts. -/
def TextsAt (W : World) (a : Option Addr) (l : List ByteArray) : Prop := ∀ j z, l[j]? = some z → ∃ b off, a = some ⟨b, off, none⟩ ∧ b < W.heap.size ∧ W.cell? ⟨b, off + j, none⟩ = some (.string z)
theorem TextsAt.below {W W' : World} {a : Option Addr} {l : List ByteArray} (h : TextsAt W a l) (B : Below W.heap.size W W') : TextsAt W' a l := fun j z hj => by
  obtain ⟨b, off, e, hb, hc⟩ := h j z hj
  exact ⟨b, off, e, Nat.lt_of_lt_of_le hb B.size, (B.cell (p := ⟨b, off + j, none⟩) hb).trans hc⟩
theorem row_texts {W : World} {base n cap : Nat} {a : Option Addr} {l : List ByteArray} (h : W.ownsRow base 9 1 (.slice a n cap) n (strV l)) : TextsAt W a l := by
  intro j z hj
  obtain ⟨g, e, _, hg, hc⟩ := owns_str h hj
  exact ⟨g, 0, e, hg, by rw [Nat.zero_add]; exact hc⟩
theorem occ_nil (l : List UInt8) (j : Nat) : Lib.occAt l [] j = true := by simp [Lib.occAt]
theorem occ_cons (s : ByteArray) (c : UInt8) (cs : List UInt8) (j : Nat) :
    Lib.occAt s.data.toList (c :: cs) j = (decide (j < s.size ∧ byteAt s j = c.toNat) && Lib.occAt s.data.toList cs (j + 1)) := by
  unfold Lib.occAt
  by_cases h : j < s.size
  · rw [byteAt_drop h, List.isPrefixOf]
    congr 1
    rw [Bool.eq_iff_iff, beq_iff_eq, decide_eq_true_eq]
    have hb := byteAt_lt s j
    constructor
    · rintro rfl
      exact ⟨h, by rw [UInt8.toNat_ofNat_of_lt' hb]⟩
    · rintro ⟨_, e⟩
      rw [e, UInt8.ofNat_toNat]
  · rw [List.drop_eq_nil_of_le (by simp; omega), decide_eq_false (by omega), Bool.false_and]
    rfl
theorem occ1 (s : ByteArray) (c : UInt8) (j : Nat) : Lib.occAt s.data.toList [c] j = decide (j < s.size ∧ byteAt s j = c.toNat) := by
  rw [occ_cons, occ_nil, Bool.and_true]
theorem ix_one (s : ByteArray) (c : UInt8) : (Lib.indexB s ⟨#[c]⟩ = -1 ∧ ixB s c.toNat = none) ∨ (∃ k : Nat, Lib.indexB s ⟨#[c]⟩ = k ∧ ixB s c.toNat = some k ∧ k < s.size) := by
  rcases Lib.index_spec s.data.toList [c] with ⟨h1, h2⟩ | ⟨k, h1, _, h3, h4⟩
  · exact Or.inl ⟨h1, ixB_none fun j hj hb => by
      have := h2 j (by simp; omega)
      rw [occ1] at this
      exact (of_decide_eq_false this) ⟨hj, hb⟩⟩
  · rw [occ1] at h3
    have h5 := of_decide_eq_true h3
    refine Or.inr ⟨k, h1, ixB_hit h5.1 h5.2 fun j hj hb => ?_, h5.1⟩
    have := h4 j hj
    rw [occ1] at this
    exact (of_decide_eq_false this) ⟨by omega, hb⟩
/-- A text cut at each instance of another. -/
def partsOf (sep s : ByteArray) : List ByteArray := Lib.splitB sep 0 (Lib.countB s sep) s
theorem parts_len {sep : ByteArray} (h1 : 1 ≤ sep.size) (s : ByteArray) : (partsOf sep s).length = Lib.countB s sep + 1 := Lib.splitB_all sep h1 0 _ s rfl
theorem parts_miss {sep s : ByteArray} (h : Lib.indexB s sep = -1) : partsOf sep s = [s] := Lib.splitB_miss sep 0 _ s h
theorem parts_hit {sep s : ByteArray} {k : Nat} (h1 : 1 ≤ sep.size) (h : Lib.indexB s sep = k) : partsOf sep s = s.extract 0 k :: partsOf sep (s.extract (k + sep.size) s.size) := by
  unfold partsOf
  rw [Lib.countB_hit s sep k h1 h, Nat.add_comm, Lib.splitB_hit sep 0 _ s k h]
  rfl
theorem sub_whole (t : ByteArray) : t.extract 0 t.size = t := by simp
theorem info53 : (Tryd.prog.info? 38).map (fun i => (i.zero, i.size, i.bytes)) = some (some (.agg #[.string ByteArray.empty, .string ByteArray.empty]), 2, 32) := by kernel_rfl
theorem split_any (sep s : ByteArray) (h1 : 1 ≤ sep.size) (hs : s.size < 4294967281) (m : Int) (w : World) (hm : w.cell? ⟨0, 0, none⟩ = some (.int .i64 m)) :
    Calls Tryd.prog 33 #[.string s, .string sep] w fun e w' => e = .returned (.slice (some ⟨w.heap.size, 0, none⟩) (partsOf sep s).length (partsOf sep s).length) ∧ w' = w.alloc (.cells (strV (partsOf sep s)).toArray 9) := by
  rw [parts_len h1]
  exact Tryd.strings_Split s sep m w hs hm h1
def cutP (s : ByteArray) (c : Nat) : ByteArray × ByteArray × Bool := match ixB s c with
  | some k => (s.extract 0 k, s.extract (k + 1) s.size, true)
  | none => (s, ⟨#[]⟩, false)
theorem cutP_true {s : ByteArray} {c : Nat} (h : (cutP s c).2.2 = true) : cutR s c = cutP s c := by
  unfold cutP at h
  unfold cutP cutR
  cases hq : ixB s c with
  | some k => rfl
  | none => rw [hq] at h; cases h
theorem cutP_false {s : ByteArray} {c : Nat} (h : (cutP s c).2.2 = false) : (cutR s c).2.2 = false := by
  unfold cutP at h
  unfold cutR
  cases hq : ixB s c with
  | some k => rw [hq] at h; cases h
  | none => rfl
theorem cutP_size (s : ByteArray) (c : Nat) : (cutP s c).1.size ≤ s.size ∧ (cutP s c).2.1.size ≤ s.size := by
  unfold cutP
  cases hq : ixB s c with
  | some k => exact ⟨by show (s.extract 0 k).size ≤ _; rw [ByteArray.size_extract]; omega, by show (s.extract (k + 1) s.size).size ≤ _; rw [ByteArray.size_extract]; omega⟩
  | none => exact ⟨Nat.le_refl _, Nat.zero_le _⟩
theorem cut_any (s : ByteArray) (c : UInt8) (hs : s.size < 4294967281) (m : Int) (w : World) (hm : w.cell? ⟨0, 0, none⟩ = some (.int .i64 m)) :
    Calls Tryd.prog 30 #[.string s, .string ⟨#[c]⟩] w fun e w' => e = .returned (.tuple #[.string (cutP s c.toNat).1, .string (cutP s c.toNat).2.1, .bool (cutP s c.toNat).2.2]) ∧ ∃ n, w' = w.drewN n := by
  refine (Tryd.strings_Cut s ⟨#[c]⟩ m w hs hm).mono ?_
  rintro e w' ⟨rfl, h⟩
  refine ⟨?_, h⟩
  rcases ix_one s c with ⟨h1, h2⟩ | ⟨k, h1, h2, h3⟩
  · obtain ⟨q1, q2, q3⟩ := Lib.cutB_miss s ⟨#[c]⟩ h1
    rw [q1, q2, q3, cutP, h2]
    rfl
  · obtain ⟨q1, q2, q3⟩ := Lib.cutB_hit s ⟨#[c]⟩ k h1
    rw [q1, q2, q3, cutP, h2]
    rfl
theorem row_form {W : World} {B n size : Nat} {e : TypeId} {v : Value} {xs : List Value} (h : W.ownsRow B e size v n xs) : ∃ a c, v = .slice a n c := by
  rcases h.2 with ⟨rfl, hn⟩ | ⟨g, cap, cur, rfl, _⟩
  · exact ⟨none, 0, by rw [hn]⟩
  · exact ⟨_, _, rfl⟩
theorem flF_app (a b : List Fd) : flF (a ++ b) = flF a ++ flF b := by simp [flF]
theorem flF_cons (a : Fd) (b : List Fd) : flF (a :: b) = fdL a ++ flF b := by simp [flF]
theorem flF_len (l : List Fd) : (flF l).length = l.length * 2 := by
  induction l with
  | nil => rfl
  | cons a l ih => rw [flF_cons, List.length_append, ih, List.length_cons]; simp [fdL]; omega
theorem fdL_one (c : Fd) : ∀ u ∈ fdL c, u.oneCell' = true := by
  intro u hu
  simp only [fdL, List.mem_cons, List.not_mem_nil, or_false] at hu
  rcases hu with rfl | rfl <;> rfl
theorem flF_one (l : List Fd) : ∀ u ∈ flF l, u.oneCell' = true := by
  intro u hu
  obtain ⟨c, _, hc⟩ := List.mem_flatMap.1 hu
  exact fdL_one c u hc
theorem flF_get : ∀ {l : List Fd} {j : Nat} {c : Fd}, l[j]? = some c → ∀ i, i < 2 → (flF l)[j * 2 + i]? = (fdL c)[i]?
  | [], j, c, h, _, _ => by simp at h
  | d :: l, 0, c, h, i, hi => by
    simp only [List.getElem?_cons_zero, Option.some.injEq] at h
    subst h
    rw [flF_cons, Nat.zero_mul, Nat.zero_add, List.getElem?_append_left (by simp [fdL]; omega)]
  | d :: l, j + 1, c, h, i, hi => by
    rw [List.getElem?_cons_succ] at h
    rw [flF_cons, List.getElem?_append_right (by simp [fdL]; omega), ← flF_get h i hi]
    congr 1
    simp [fdL]
    omega
theorem fa_row {W : World} {B : Nat} {a : Option Addr} {c : Nat} {l : List Fd} (h : W.ownsRow B 38 2 (.slice a l.length c) l.length (flF l)) : FA W.heap.size W a l := by
  rcases h.2 with ⟨hv, h0⟩ | ⟨g, cap, cur, hv, hB, hh, hn, _⟩
  · have : l = [] := List.eq_nil_of_length_eq_zero h0
    subst this
    exact FA.nil _ _ _
  · rw [Value.slice.injEq] at hv
    obtain ⟨rfl, _, rfl⟩ := hv
    refine fun j d hj => ⟨g, 0, rfl, (Array.getElem?_eq_some_iff.1 hh).1, ?_⟩
    have hjl : j < l.length := (List.getElem?_eq_some_iff.1 hj).1
    refine ⟨?_, ?_⟩
    · have := h.cellAt (j * 2 + 0) (by omega)
      rw [flF_get hj 0 (by omega)] at this
      simpa [fdL] using this
    · have := h.cellAt (j * 2 + 1) (by omega)
      rw [flF_get hj 1 (by omega)] at this
      simpa [fdL] using this
theorem owns_on2 {w w' : World} {B e z n : Nat} {v : Value} {xs : List Value} (h : w.ownsRow B e z v n xs) (b : Below w.heap.size w w') : w'.ownsRow B e z v n xs := by
  refine ⟨h.1, ?_⟩
  rcases h.2 with q | ⟨g, cp, cur, hv, hg, hh, rr⟩
  · exact Or.inl q
  · exact Or.inr ⟨g, cp, cur, hv, hg, (b.block g (Array.getElem?_eq_some_iff.1 hh).1).trans hh, rr⟩
theorem mx_below {w W : World} {m : Int} (hm : w.cell? ⟨0, 0, none⟩ = some (.int .i64 m)) (b : Below w.heap.size w W) : W.cell? ⟨0, 0, none⟩ = some (.int .i64 m) := by
  have h0 : 0 < w.heap.size := by
    rcases Nat.eq_zero_or_pos w.heap.size with h | h
    · rw [World.cell?, Array.getElem?_eq_none (by omega)] at hm
      cases hm
    · exact h
  exact (World.cell?_of_block (b.block 0 h0)).trans hm
theorem ext_list {a b : ByteArray} (h : a.data.toList = b.data.toList) : a = b := by
  obtain ⟨⟨x⟩⟩ := a; obtain ⟨⟨y⟩⟩ := b
  simp only at h
  rw [h]
theorem sub_list (s : ByteArray) (a b : Nat) : (s.extract a b).data.toList = (s.data.toList.drop a).take (b - a) := by
  rw [ByteArray.data_extract]
  simp
def byts (s : ByteArray) : List UInt8 := s.data.toList
def bOf (l : List UInt8) : ByteArray := ⟨l.toArray⟩
theorem bOf_size (l : List UInt8) : (bOf l).size = l.length := by simp [bOf, ByteArray.size]
theorem bOf_byte (l : List UInt8) (j : Nat) : byteAt (bOf l) j = (l.getD j 0).toNat := by simp [byteAt, bOf]
theorem bOf_sub (l : List UInt8) (a b : Nat) : (bOf l).extract a b = bOf ((l.drop a).take (b - a)) := by
  apply ext_list
  rw [sub_list]
  simp [bOf]
theorem bOf_self (s : ByteArray) : bOf s.data.toList = s := rfl
theorem getD_left {l t : List UInt8} {j : Nat} (h : j < l.length) : (l ++ t).getD j 0 = l.getD j 0 := by
  rw [List.getD_eq_getElem?_getD, List.getD_eq_getElem?_getD, List.getElem?_append_left h]
theorem getD_right {l t : List UInt8} {j : Nat} (h : l.length ≤ j) : (l ++ t).getD j 0 = t.getD (j - l.length) 0 := by
  rw [List.getD_eq_getElem?_getD, List.getD_eq_getElem?_getD, List.getElem?_append_right h]
theorem getD_mem {l : List UInt8} {j : Nat} (h : j < l.length) : l.getD j 0 ∈ l := by
  rw [List.getD_eq_getElem?_getD, List.getElem?_eq_getElem h]
  exact List.getElem_mem h
theorem size_list' (s : ByteArray) : s.data.toList.length = s.size := by rw [Array.length_toList]; rfl
theorem allN_bytes {p : Nat → Bool} {s : ByteArray} (h : allN p s s.size = true) : ∀ c ∈ s.data.toList, p c.toNat = true := allN_mem.1 h
theorem ixB_at {a t : List UInt8} {c : UInt8} (h : ∀ x ∈ a, x.toNat ≠ c.toNat) : ixB (bOf (a ++ c :: t)) c.toNat = some a.length := by
  refine ixB_hit (by rw [bOf_size]; simp) ?_ (fun j hj => ?_)
  · rw [bOf_byte, getD_right (Nat.le_refl _), Nat.sub_self]; rfl
  · rw [bOf_byte, getD_left hj]
    exact h _ (getD_mem hj)
theorem sub_left (a t : List UInt8) : (bOf (a ++ t)).extract 0 a.length = bOf a := by
  rw [bOf_sub]; simp
theorem sub_right (a t : List UInt8) (c : UInt8) : (bOf (a ++ c :: t)).extract (a.length + 1) (bOf (a ++ c :: t)).size = bOf t := by
  rw [bOf_sub, bOf_size, show a ++ c :: t = (a ++ [c]) ++ t by simp, show a.length + 1 = (a ++ [c]).length by simp, List.drop_left, List.take_of_length_le (by simp; omega)]
end Go.Proofs.YtbpfggpljfpfcaaDoor
