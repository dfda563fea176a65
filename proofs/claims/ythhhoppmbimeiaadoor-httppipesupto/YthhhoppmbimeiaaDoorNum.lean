/-
  Numbers: the contracts of isNumber, bodySize.
-/
import Derived.Test.YthhhoppmbimeiaaDoorWords2
import Derived.Test.YthhhoppmbimeiaaDoorDigits
namespace Go.Proofs
open Go.Shelf
theorem Tryd.trimDigits (s : ByteArray) (w : World) (hs : s.size ≤ 9223372036854775807) :
    Calls Tryd.prog 73 #[.string s, .string ⟨#[48, 49, 50, 51, 52, 53, 54, 55, 56, 57]⟩] w fun e w' => e = .returned (.string ⟨(Lib.trimS s.data.toList [48, 49, 50, 51, 52, 53, 54, 55, 56, 57]).toArray⟩) ∧ RowKit.Below w.heap.size w w' :=
  Any.strings_Trim_laid Tryd.lays160 (by kernel_rfl) s ⟨#[48, 49, 50, 51, 52, 53, 54, 55, 56, 57]⟩ w hs (by decide) (ascii_of_all (by decide))
end Go.Proofs
namespace Go.Proofs.YthhhoppmbimeiaaDoor
open Go.RowKit
theorem dw_nil {α : Type} {p : α → Bool} : ∀ {l : List α}, (∀ x ∈ l.dropWhile p, p x = true) → ∀ x ∈ l, p x = true
  | [], _ => fun x hx => by simp at hx
  | a :: l, h => by
    by_cases ha : p a = true
    · rw [List.dropWhile_cons_of_pos ha] at h
      intro x hx
      rcases List.mem_cons.1 hx with rfl | hx
      · exact ha
      · exact dw_nil h x hx
    · rw [List.dropWhile_cons_of_neg ha] at h
      exact absurd (h a (List.mem_cons_self ..)) ha
theorem dw_all {α : Type} {p : α → Bool} : ∀ {l : List α}, (∀ x ∈ l, p x = true) → l.dropWhile p = []
  | [], _ => rfl
  | a :: l, h => by
    rw [List.dropWhile_cons_of_pos (h a (List.mem_cons_self ..))]
    exact dw_all fun x hx => h x (List.mem_cons_of_mem _ hx)
theorem dw_ex {α : Type} {p : α → Bool} {l : List α} (h : l.dropWhile p = []) : ∀ x ∈ l, p x = true := dw_nil (by rw [h]; simp)
/-- Nothing is left if and only if every byte may go. -/
theorem trimS_nil {l cs : List UInt8} : Lib.trimS l cs = [] ↔ ∀ x ∈ l, cs.contains x = true := by
  unfold Lib.trimS Lib.trimLeftS Lib.trimRightS
  constructor
  · intro h x hx
    have h1 := dw_ex h
    exact dw_nil (p := (cs.contains ·)) (l := l.reverse) (fun y hy => h1 y (List.mem_reverse.2 hy)) x (List.mem_reverse.2 hx)
  · intro h
    rw [dw_all (l := l.reverse) fun x hx => h x (List.mem_reverse.1 hx)]
    rfl
theorem has_digit (c : UInt8) : [48, 49, 50, 51, 52, 53, 54, 55, 56, 57].contains c = isDig c.toNat := by
  have : ∀ c : Fin 256, ([48, 49, 50, 51, 52, 53, 54, 55, 56, 57] : List UInt8).contains (UInt8.ofNat c.val) = isDig (UInt8.ofNat c.val).toNat := by decide +kernel
  have h := this ⟨c.toNat, c.toNat_lt⟩
  simpa using h
theorem allN_all {p : Nat → Bool} {s : ByteArray} {k : Nat} : allN p s k = true ↔ ∀ j, j < k → p (byteAt s j) = true := by
  induction k with
  | zero => simp [allN]
  | succ k ih =>
    rw [allN, Bool.and_eq_true, ih]
    constructor
    · rintro ⟨h1, h2⟩ j hj
      rcases Nat.lt_succ_iff_lt_or_eq.1 hj with h | rfl
      · exact h1 j h
      · exact h2
    · exact fun h => ⟨fun j hj => h j (by omega), h k (by omega)⟩
theorem allN_mem {p : Nat → Bool} {s : ByteArray} : allN p s s.size = true ↔ ∀ x ∈ s.data.toList, p x.toNat = true := by
  have hl : s.data.toList.length = s.size := by simp
  rw [allN_all]
  constructor
  · intro h x hx
    obtain ⟨j, hj, rfl⟩ := List.getElem_of_mem hx
    have := h j (by omega)
    unfold byteAt at this
    rw [List.getD_eq_getElem?_getD, List.getElem?_eq_getElem hj] at this
    exact this
  · intro h j hj
    unfold byteAt
    rw [List.getD_eq_getElem?_getD, List.getElem?_eq_getElem (by omega)]
    exact h _ (List.getElem_mem _)
theorem digits_nil (s : ByteArray) : ((⟨(Lib.trimS s.data.toList [48, 49, 50, 51, 52, 53, 54, 55, 56, 57]).toArray⟩ : ByteArray).toList.isEmpty) = allN isDig s s.size := by
  rw [ByteArray.toList_eq]
  show (Lib.trimS s.data.toList [48, 49, 50, 51, 52, 53, 54, 55, 56, 57]).isEmpty = _
  rw [Bool.eq_iff_iff, List.isEmpty_iff, trimS_nil, allN_mem]
  constructor
  · exact fun h x hx => by rw [← has_digit]; exact h x hx
  · exact fun h x hx => by rw [has_digit]; exact h x hx
/-- A text is a number's digits, however many. -/
def numR (s : ByteArray) : Bool := allN isDig s s.size && decide (0 < s.size ∧ byteAt s 0 ≠ 48)
set_option maxRecDepth 20000 in
set_option maxHeartbeats 2000000 in
theorem isNumber_any (s : ByteArray) (hs : s.size ≤ 140737488355328) (w : World) : Calls Tryd.prog 64 #[.string s] w fun e w' => e = .returned (.bool (numR s)) ∧ Below w.heap.size w w' := by
  by_cases h0 : 0 < s.size
  · have he := empty_no h0
    have r1 := fun W => run_byte s (i := 0) (z := 0) rfl h0 W
    by_cases h48 : byteAt s 0 = 48
    · rw [show numR s = false by unfold numR; rw [decide_eq_false (by omega), Bool.and_false]]
      rw [h48] at r1
      go_enter Tryd.func64, Tryd.ntmps64
      go_wp2_with fail
      go_ret
      exact ⟨rfl, Below.refl _ _⟩
    · have H : Hid (∀ W : World, _) := fun W => Tryd.trimDigits s W (by omega)
      have HD := digits_nil s
      obtain ⟨t, ht⟩ : ∃ t, (⟨(Lib.trimS s.data.toList [48, 49, 50, 51, 52, 53, 54, 55, 56, 57]).toArray⟩ : ByteArray) = t := ⟨_, rfl⟩
      rw [ht] at H HD
      rw [show numR s = t.toList.isEmpty by unfold numR; rw [decide_eq_true ⟨h0, h48⟩, Bool.and_true, HD]]
      obtain ⟨x, hx⟩ : ∃ x, byteAt s 0 = x := ⟨_, rfl⟩
      rw [hx] at r1 h48
      have q0 : ((x : Int) != 48) = true := by simp; omega
      clear ht HD h48 hx
      go_enter Tryd.func64, Tryd.ntmps64
      go_wp2_with (go_at_call 73; refine (H.out _).mono ?_; rintro e w1 ⟨rfl, b1⟩)
      go_ret
      exact ⟨by first | rfl | trivial, b1⟩
  · have he := empty_yes h0
    rw [show numR s = false by unfold numR; rw [decide_eq_false (by omega), Bool.and_false]]
    go_enter Tryd.func64, Tryd.ntmps64
    go_wp2_with fail
    go_ret
    exact ⟨rfl, Below.refl _ _⟩
/-- How many bytes a content-length says, and the error. -/
def bodyR (s : ByteArray) : Int × Int := if (digR s 8192).2 = 0 then ((digR s 8192).1, 0) else if (digR s 8192).2 = 3 ∨ numR s = true then (0, 171) else (0, 170)
theorem digR_cut (s : ByteArray) (most : Int) : (digR s most).2 = 0 ∨ (digR s most).2 = 3 ∨ (digR s most).2 = 150 := by
  unfold digR
  split
  · exact Or.inr (Or.inr rfl)
  · split
    · exact Or.inr (Or.inr rfl)
    · split
      · exact Or.inr (Or.inl rfl)
      · exact Or.inl rfl
set_option maxRecDepth 20000 in
set_option maxHeartbeats 2000000 in
theorem bodySize_any (s : ByteArray) (hs : s.size ≤ 140737488355328) (w : World) : Calls Tryd.prog 44 #[.string s] w fun e w' => e = .returned (.tuple #[.int .i64 (bodyR s).1, .int .i64 (bodyR s).2]) ∧ Below w.heap.size w w' := by
  have H1 : Hid (∀ W : World, _) := fun W => digits_any s 8192 hs W
  have H2 : Hid (∀ W : World, _) := fun W => isNumber_any s hs W
  rcases digR_cut s 8192 with h | h | h
  · rw [show bodyR s = ((digR s 8192).1, 0) by unfold bodyR; rw [if_pos h]]
    rw [h] at H1
    obtain ⟨d, hd⟩ : ∃ d, (digR s 8192).1 = d := ⟨_, rfl⟩
    rw [hd] at H1 ⊢
    clear hd h
    go_enter Tryd.func44, Tryd.ntmps44
    go_wp2_with (go_at_call 63; refine (H1.out _).mono ?_; rintro e w' ⟨rfl, rfl⟩)
    go_ret2
    exact ⟨rfl, Below.refl _ _⟩
  · rw [show bodyR s = (0, 171) by unfold bodyR; rw [if_neg (by omega), if_pos (Or.inl h)]]
    rw [h] at H1
    obtain ⟨d, hd⟩ : ∃ d, (digR s 8192).1 = d := ⟨_, rfl⟩
    rw [hd] at H1
    clear hd h
    go_enter Tryd.func44, Tryd.ntmps44
    go_wp2_with (go_at_call 63; refine (H1.out _).mono ?_; rintro e w' ⟨rfl, rfl⟩)
    go_ret2
    exact ⟨rfl, Below.refl _ _⟩
  · obtain ⟨b, hb⟩ : ∃ b, numR s = b := ⟨_, rfl⟩
    rw [hb] at H2
    cases b
    · rw [show bodyR s = (0, 170) by unfold bodyR; rw [if_neg (by omega), if_neg (by rw [h, hb]; simp)]]
      rw [h] at H1
      obtain ⟨d, hd⟩ : ∃ d, (digR s 8192).1 = d := ⟨_, rfl⟩
      rw [hd] at H1
      clear hd h hb
      go_enter Tryd.func44, Tryd.ntmps44
      go_wp2_with (first
        | (go_at_call 63; refine (H1.out _).mono ?_; rintro e w' ⟨rfl, rfl⟩)
        | (go_at_call 64; refine (H2.out _).mono ?_; rintro e w1 ⟨rfl, b1⟩))
      go_ret2
      exact ⟨rfl, by assumption⟩
    · rw [show bodyR s = (0, 171) by unfold bodyR; rw [if_neg (by omega), if_pos (Or.inr hb)]]
      rw [h] at H1
      obtain ⟨d, hd⟩ : ∃ d, (digR s 8192).1 = d := ⟨_, rfl⟩
      rw [hd] at H1
      clear hd h hb
      go_enter Tryd.func44, Tryd.ntmps44
      go_wp2_with (first
        | (go_at_call 63; refine (H1.out _).mono ?_; rintro e w' ⟨rfl, rfl⟩)
        | (go_at_call 64; refine (H2.out _).mono ?_; rintro e w1 ⟨rfl, b1⟩))
      go_ret2
      exact ⟨rfl, by assumption⟩
end Go.Proofs.YthhhoppmbimeiaaDoor
