/-
  Set-Cookie: cookies as values, and the texts that they are told by.
-/
import Derived.Test.YtimabpfahhbadaaDoorFnd
namespace Go.Proofs.YtimabpfahhbadaaDoor
open Go.RowKit
structure Ck where
  name : ByteArray
  value : ByteArray
  path : ByteArray
  age : Int
  has : Bool
  http : Bool
  sec : Bool
  same : ByteArray
def ckL (c : Ck) : List Value := [.string c.name, .string c.value, .string c.path, .int .i64 c.age, .bool c.has, .bool c.http, .bool c.sec, .string c.same]
def ckV (c : Ck) : Value := .agg #[.string c.name, .string c.value, .string c.path, .int .i64 c.age, .bool c.has, .bool c.http, .bool c.sec, .string c.same]
def wPath : ByteArray := ⟨#[80, 97, 116, 104, 61]⟩
def wAge : ByteArray := ⟨#[77, 97, 120, 45, 65, 103, 101, 61]⟩
def wHttp : ByteArray := ⟨#[72, 116, 116, 112, 79, 110, 108, 121]⟩
def wSec : ByteArray := ⟨#[83, 101, 99, 117, 114, 101]⟩
def wSame : ByteArray := ⟨#[83, 97, 109, 101, 83, 105, 116, 101, 61]⟩
def sStrict : ByteArray := ⟨#[83, 116, 114, 105, 99, 116]⟩
def sLax : ByteArray := ⟨#[76, 97, 120]⟩
def sNone : ByteArray := ⟨#[78, 111, 110, 101]⟩
def pthB (x : Nat) : Bool := decide (33 ≤ x ∧ x ≤ 126 ∧ x ≠ 59)
def pathR (s : ByteArray) : Bool := allN pthB s s.size && (decide (s.size = 0) || decide (byteAt s 0 = 47))
def ageR (c : Ck) : Bool := decide (0 ≤ c.age ∧ c.age ≤ 2147483647 ∧ (c.age = 0 ∨ c.has = true))
def sameR (s : ByteArray) : Bool := decide (s = ⟨#[]⟩ ∨ s = sStrict ∨ s = sLax ∨ s = sNone)
def mayR (c : Ck) : Bool := tokR c.name && octR c.value && pathR c.path && ageR c && sameR c.same
def itB (n : Int) : ByteArray := ⟨(Lib.itoa n).toArray⟩
/-- What stands behind the pair, part by part. -/
def tx0 (c : Ck) : List ByteArray := if c.path.size = 0 then [] else [wPath ++ c.path]
def tx1 (c : Ck) : List ByteArray := if c.has = true then [wAge ++ itB c.age] else []
def tx2 (c : Ck) : List ByteArray := if c.http = true then [wHttp] else []
def tx3 (c : Ck) : List ByteArray := if c.sec = true then [wSec] else []
def tx4 (c : Ck) : List ByteArray := if c.same.size = 0 then [] else [wSame ++ c.same]
def txs (c : Ck) : Nat → List ByteArray
  | 0 => tx0 c
  | 1 => tx1 c
  | 2 => tx2 c
  | 3 => tx3 c
  | _ => tx4 c
def txK (c : Ck) : Nat → List ByteArray
  | 0 => [prt ⟨c.name, c.value⟩]
  | k + 1 => txK c k ++ txs c k
def setR (c : Ck) : ByteArray × Int := if mayR c = true then (jn (txK c 5), 0) else (⟨#[]⟩, 190)
theorem setR_bad {c : Ck} (h : mayR c = false) : setR c = (⟨#[]⟩, 190) := by rw [setR, if_neg (by rw [h]; decide)]
theorem setR_good {c : Ck} (h : mayR c = true) : setR c = (jn (txK c 5), 0) := by rw [setR, if_pos h]
theorem size_nil {s : ByteArray} (h : s.size = 0) : s = ⟨#[]⟩ := by
  apply ext_list
  have : s.data.toList.length = 0 := by simpa using h
  rw [List.eq_nil_of_length_eq_zero this]
theorem isEmpty_size (s : ByteArray) : s.toList.isEmpty = decide (s.size = 0) := by
  by_cases h : 0 < s.size
  · rw [empty_no h, decide_eq_false (by omega)]
  · rw [empty_yes h, decide_eq_true (by omega)]
theorem toList_lit {s : ByteArray} {l : List UInt8} (h : s = ⟨l.toArray⟩) : (s.toList == l) = true := by
  subst h
  rw [ByteArray.toList_eq]
  simp
theorem toList_not {s : ByteArray} {l : List UInt8} (h : s ≠ ⟨l.toArray⟩) : (s.toList == l) = false := by
  rw [beq_eq_false_iff_ne, ByteArray.toList_eq]
  intro e
  exact h (ext_list (by rw [e]))
theorem pth_eq {x : Nat} : pthB x = (seenB x && decide (x ≠ 59)) := by
  unfold pthB seenB
  rw [Bool.eq_iff_iff, Bool.and_eq_true, decide_eq_true_eq, decide_eq_true_eq, decide_eq_true_eq]
  omega
set_option maxRecDepth 20000 in
set_option maxHeartbeats 2000000 in
theorem isPath_any (s : ByteArray) (hs : s.size ≤ 140737488355328) (w : World) : Calls Tryd.prog 54 #[.string s] w fun e w' => e = .returned (.bool (pathR s)) ∧ w' = w := by
  obtain ⟨T, hT⟩ : ∃ T, pathR s = T := ⟨_, rfl⟩
  have HT : Hid _ := hT
  rw [hT]
  clear hT
  go_enter Tryd.func54, Tryd.ntmps54
  go_wp2_with fail
  go_loopw [6] (fun i wr => ∃ k : Nat, k ≤ s.size ∧ i = .int .i64 k ∧ Hid (allN pthB s k = true) ∧ wr = w) (fun i _ => s.size - (intOf i).toNat)
  case atStart => exact ⟨0, by omega, rfl, rfl, rfl⟩
  case round =>
    obtain ⟨k, hk, rfl, HN, rfl⟩ := hrel
    by_cases hlt : k < s.size
    · have r0 := fun W => run_byte s (i := k) (z := (k : Int)) rfl hlt W
      have hnx : allN pthB s (k + 1) = pthB (byteAt s k) := by rw [allN, HN.out, Bool.true_and]
      rw [pth_eq] at hnx
      obtain ⟨x, hx⟩ : ∃ x, byteAt s k = x := ⟨_, rfl⟩
      rw [hx] at r0 hnx
      have H1 : Hid (∀ W : World, _) := fun W => isSeen_any x W
      have HNX : Hid _ := hnx
      clear hx hnx
      cases h1 : seenB x with
      | false =>
        rw [h1] at H1
        have HVV : Hid (allN pthB s (k + 1) = false) := by rw [Hid, HNX.out, h1]; rfl
        clear h1 HNX
        go_wp2_with (first
          | (go_at_call 45; refine (H1.out _).mono ?_; rintro e w' ⟨rfl, rfl⟩))
        go_ret
        exact ⟨by rw [← HT.out, pathR, allN_false HVV.out (by omega)]; rfl, rfl⟩
      | true =>
        rw [h1] at H1
        by_cases h59 : x = 59
        · subst h59
          have HVV : Hid (allN pthB s (k + 1) = false) := by rw [Hid, HNX.out]; decide
          clear h1 HNX
          go_wp2_with (first
            | (go_at_call 45; refine (H1.out _).mono ?_; rintro e w' ⟨rfl, rfl⟩))
          go_ret
          exact ⟨by rw [← HT.out, pathR, allN_false HVV.out (by omega)]; rfl, rfl⟩
        · have HVV : Hid (allN pthB s (k + 1) = true) := by rw [Hid, HNX.out, h1, decide_eq_true h59]; rfl
          have q0 : ((x : Int) == 59) = false := by simp; omega
          have q1 : ¬ (x : Int) = 59 := by omega
          clear h1 HNX h59
          go_wp2_with (first
            | (go_at_call 45; refine (H1.out _).mono ?_; rintro e w' ⟨rfl, rfl⟩))
          go_roundw
          case rel => exact ⟨k + 1, by omega, by go_num, HVV.out, by first | rfl | trivial⟩
          case measure => simp [intOf]; omega
    · obtain rfl : k = s.size := by omega
      have he := isEmpty_size s
      by_cases h0 : s.size = 0
      · rw [decide_eq_true h0] at he
        have HE : Hid (T = true) := by rw [Hid, ← HT.out, pathR, HN.out, decide_eq_true h0]; rfl
        clear h0
        go_wp2_with fail
        go_ret
        exact ⟨by rw [HE.out]; rfl, rfl⟩
      · rw [decide_eq_false h0] at he
        have r1 := fun W => run_byte s (i := 0) (z := 0) rfl (by omega) W
        obtain ⟨x, hx⟩ : ∃ x, byteAt s 0 = x := ⟨_, rfl⟩
        rw [hx] at r1
        by_cases h47 : x = 47
        · have HE : Hid (T = true) := by rw [Hid, ← HT.out, pathR, HN.out, hx, decide_eq_true h47, decide_eq_false h0]; rfl
          subst h47
          clear hx h0
          go_wp2_with fail
          go_ret
          exact ⟨by rw [HE.out]; first | rfl | trivial, rfl⟩
        · have HE : Hid (T = false) := by rw [Hid, ← HT.out, pathR, HN.out, hx, decide_eq_false h47, decide_eq_false h0]; rfl
          have q2 : ¬ (x : Int) = 47 := by omega
          have q3 : ((x : Int) == 47) = false := by simp; omega
          clear hx h47 h0
          go_wp2_with fail
          go_ret
          exact ⟨by rw [HE.out]; first | rfl | (simp [q2]), rfl⟩
end Go.Proofs.YtimabpfahhbadaaDoor
