/-
  The contracts of Equal, of Chain and of the twin's Chain.
-/
import Derived.Test.YtedibkcempcpnaaDoorRefSum
namespace Go.Proofs.YtedibkcempcpnaaDoor
open Go.RowKit
theorem bytes_ext' {a b : ByteArray} (h : a.data.toList = b.data.toList) : a = b := by
  apply ByteArray.ext
  exact Array.toList_inj.1 h
theorem bytes_same {a b : ByteArray} (hs : a.size = b.size) : (∀ i, i < a.size → byteAt a i = byteAt b i) ↔ a = b := by
  constructor
  · intro h
    apply bytes_ext'
    apply List.ext_getElem?
    intro i
    have ea : a.data.toList.length = a.size := by simp
    have eb : b.data.toList.length = b.size := by simp
    by_cases hi : i < a.size
    · have e := h i hi
      unfold byteAt at e
      rw [List.getD_eq_getElem?_getD, List.getD_eq_getElem?_getD, List.getElem?_eq_getElem (by omega), List.getElem?_eq_getElem (by omega)] at e
      rw [List.getElem?_eq_getElem (by omega), List.getElem?_eq_getElem (by omega)]
      exact congrArg some (UInt8.toNat_inj.1 e)
    · rw [List.getElem?_eq_none (by omega), List.getElem?_eq_none (by omega)]
  · intro h i _
    rw [h]
theorem or_xor_zero {d x y : Nat} : d ||| (x ^^^ y) = 0 ↔ d = 0 ∧ x = y := by
  rw [Nat.or_eq_zero_iff]
  constructor
  · rintro ⟨h1, h2⟩
    have e := congrArg (x ^^^ ·) h2
    simp only [← Nat.xor_assoc, Nat.xor_self, Nat.zero_xor, Nat.xor_zero] at e
    exact ⟨h1, e.symm⟩
  · rintro ⟨rfl, rfl⟩
    exact ⟨rfl, Nat.xor_self _⟩
set_option maxRecDepth 20000 in
set_option maxHeartbeats 2000000 in
theorem equal_any (a b : ByteArray) (w : World) (ha : a.size ≤ 140737488355328) (_hb : b.size ≤ 140737488355328) :
    Calls Tryd.prog 31 #[.string a, .string b] w fun e w' => e = .returned (.bool (decide (a = b))) ∧ Below w.heap.size w w' := by
  by_cases hs : a.size = b.size
  · have HS : Hid (b.size = a.size) := hs.symm
    go_enter Tryd.func31, Tryd.ntmps31
    go_wp2_with fail
    go_loopw [5, 14] (fun v i wr => ∃ k d : Nat, k ≤ a.size ∧ v = .int .u8 d ∧ d < 256 ∧ i = .int .i64 k ∧ Hid (d = 0 ↔ ∀ j, j < k → byteAt a j = byteAt b j) ∧ Below w.heap.size w wr) (fun _ i _ => a.size - (intOf i).toNat)
    case atStart => exact ⟨0, 0, Nat.zero_le _, rfl, by decide, rfl, by simp [Hid], Below.refl _ _⟩
    case round =>
      obtain ⟨k, d, hk, rfl, hd, rfl, HD, hbel⟩ := hrel
      by_cases hlt : k < a.size
      · have r0 := fun W => run_byte a (i := k) (z := (k : Int)) rfl hlt W
        have r1 := fun W => run_byte b (i := k) (z := (k : Int)) rfl (by have := HS.out; omega) W
        have HX : Hid (byteAt a k ^^^ byteAt b k < 256) := Nat.xor_lt_two_pow (n := 8) (byteAt_lt a k) (byteAt_lt b k)
        go_wp2_with fail
        go_region
        go_wp2_with fail
        rw [u8_xor_nat _ _ (byteAt_lt a k) (byteAt_lt b k), u8_or_nat _ _ hd HX.out]
        refine ⟨⟨k + 1, d ||| (byteAt a k ^^^ byteAt b k), by omega, rfl, Nat.or_lt_two_pow (n := 8) hd HX.out, by go_num, ?_, ⟨hbel.os, hbel.tape, hbel.output, hbel.size, hbel.block⟩⟩, by simp [intOf]; omega⟩
        rw [Hid, or_xor_zero, HD.out]
        constructor
        · rintro ⟨h1, h2⟩ j hj
          rcases Nat.lt_succ_iff_lt_or_eq.1 hj with hj | rfl
          · exact h1 j hj
          · exact h2
        · intro h
          exact ⟨fun j hj => h j (by omega), h k (by omega)⟩
      · obtain rfl : k = a.size := by omega
        have HE : Hid (decide (a = b) = decide ((d : Int) = 0)) := by
          rw [Hid, decide_eq_decide, ← bytes_same hs, ← HD.out]
          omega
        go_wp2_with fail
        go_ret
        exact ⟨by rw [HE.out]; first | rfl | (congr 1), hbel⟩
  · have hn : ¬ a = b := fun e => hs (by rw [e])
    have hs' : ¬ ((a.size : Int) = (b.size : Int)) := by omega
    rw [show decide (a = b) = false from decide_eq_false hn]
    go_enter Tryd.func31, Tryd.ntmps31
    go_wp2_with fail
    go_ret
    exact ⟨rfl, Below.refl _ _⟩
/-- What a chain is the sum of. -/
def chainB (head entry : ByteArray) : List UInt8 := sha (head ++ ⟨(be8 entry.size).toArray⟩ ++ entry)
end Go.Proofs.YtedibkcempcpnaaDoor
