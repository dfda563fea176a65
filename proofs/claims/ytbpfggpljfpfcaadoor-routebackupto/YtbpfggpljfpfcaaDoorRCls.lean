/-
  The contracts of the twin's letter and among.
-/
import Derived.Test.YtbpfggpljfpfcaaDoorCls
import Derived.Test.YtbpfggpljfpfcaaDoorRDig
namespace Go.Proofs.YtbpfggpljfpfcaaDoor
open Go.RowKit
set_option maxRecDepth 20000 in
set_option maxHeartbeats 1000000 in
theorem rletter_any (x : Nat) (w : World) : Calls Tryd.prog 59 #[.int .u8 (x : Int)] w fun e w' => e = .returned (.bool (isLet x)) ∧ w' = w := by
  rcases (by omega : (97 ≤ x ∧ x ≤ 122) ∨ (65 ≤ x ∧ x ≤ 90) ∨ (x < 65) ∨ (90 < x ∧ x < 97) ∨ (122 < x)) with g | g | g | g | g
  · rw [show isLet x = true by simp [isLet]; omega]
    have k0 : (97 : Int) ≤ (x : Int) := by omega
    have k1 : (x : Int) ≤ 122 := by omega
    clear g
    go_enter Tryd.func59, Tryd.ntmps59
    go_wp2
    go_ret
    exact ⟨rfl, rfl⟩
  · rw [show isLet x = true by simp [isLet]; omega]
    have k0 : ¬ (97 : Int) ≤ (x : Int) := by omega
    have k1 : (65 : Int) ≤ (x : Int) := by omega
    have k2 : (x : Int) ≤ 90 := by omega
    clear g
    go_enter Tryd.func59, Tryd.ntmps59
    go_wp2
    go_ret
    exact ⟨rfl, rfl⟩
  · rw [show isLet x = false by simp [isLet]; omega]
    have k0 : ¬ (97 : Int) ≤ (x : Int) := by omega
    have k1 : ¬ (65 : Int) ≤ (x : Int) := by omega
    clear g
    go_enter Tryd.func59, Tryd.ntmps59
    go_wp2
    go_ret
    exact ⟨rfl, rfl⟩
  · rw [show isLet x = false by simp [isLet]; omega]
    have k0 : ¬ (97 : Int) ≤ (x : Int) := by omega
    have k1 : (65 : Int) ≤ (x : Int) := by omega
    have k2 : ¬ (x : Int) ≤ 90 := by omega
    clear g
    go_enter Tryd.func59, Tryd.ntmps59
    go_wp2
    go_ret
    exact ⟨rfl, rfl⟩
  · rw [show isLet x = false by simp [isLet]; omega]
    have k0 : (97 : Int) ≤ (x : Int) := by omega
    have k1 : ¬ (x : Int) ≤ 122 := by omega
    have k2 : (65 : Int) ≤ (x : Int) := by omega
    have k3 : ¬ (x : Int) ≤ 90 := by omega
    clear g
    go_enter Tryd.func59, Tryd.ntmps59
    go_wp2
    go_ret
    exact ⟨rfl, rfl⟩
theorem ib_at : ∀ (l : List UInt8) (c : UInt8) (k : Nat), (∀ j, j < k → l[j]? ≠ some c) → l[k]? = some c → Lib.indexByte l c = (k : Int)
  | [], _, _, _, h => by simp at h
  | b :: l, c, 0, _, h => by
    simp only [List.getElem?_cons_zero, Option.some.injEq] at h
    subst h
    simp [Lib.indexByte]
  | b :: l, c, k + 1, h1, h2 => by
    have hb : ¬ b = c := fun e => h1 0 (by omega) (by simp [e])
    have ih := ib_at l c k (fun j hj => by have := h1 (j + 1) (by omega); simpa using this) (by simpa using h2)
    simp only [Lib.indexByte, beq_iff_eq, hb, if_false, ih]
    rw [if_neg (by omega)]
    omega
theorem ib_none : ∀ (l : List UInt8) (c : UInt8), (∀ j : Nat, l[j]? ≠ some c) → Lib.indexByte l c = -1
  | [], _, _ => rfl
  | b :: l, c, h => by
    have hb : ¬ b = c := fun e => h 0 (by simp [e])
    have ih := ib_none l c (fun j => by have := h (j + 1); simpa using this)
    simp only [Lib.indexByte, beq_iff_eq, hb, if_false, ih]
    rfl
theorem byteAt_get {s : ByteArray} {k : Nat} (h : k < s.size) : s.data.toList[k]? = some (UInt8.ofNat (byteAt s k)) := by
  have hl : s.data.toList.length = s.size := by simp
  rw [List.getElem?_eq_getElem (by omega), byteAt, List.getD_eq_getElem?_getD, List.getElem?_eq_getElem (by omega)]
  simp
theorem ofNat_inj8 {x y : Nat} (hx : x < 256) (hy : y < 256) : UInt8.ofNat x = UInt8.ofNat y ↔ x = y := by
  constructor
  · intro e
    have := congrArg UInt8.toNat e
    simp only [UInt8.toNat_ofNat'] at this
    rw [Nat.mod_eq_of_lt hx, Nat.mod_eq_of_lt hy] at this
    exact this
  · intro e; rw [e]
set_option maxRecDepth 20000 in
set_option maxHeartbeats 1000000 in
theorem among_any (s : ByteArray) (x : Nat) (hx : x < 256) (hs : s.size ≤ 140737488355328) (w : World) :
    Calls Tryd.prog 60 #[.string s, .int .u8 (x : Int)] w fun e w' => e = .returned (.bool (mark s x)) ∧ w' = w := by
  go_enter Tryd.func60, Tryd.ntmps60
  go_wp2_with fail
  go_loopw [5] (fun i wr => ∃ k : Nat, k ≤ s.size ∧ i = .int .i64 k ∧ Hid (∀ j, j < k → byteAt s j ≠ x) ∧ wr = w) (fun i _ => s.size - (intOf i).toNat)
  case atStart => exact ⟨0, by omega, rfl, fun j hj => by omega, rfl⟩
  case round =>
    obtain ⟨k, hk, rfl, HJ, rfl⟩ := hrel
    by_cases hlt : k < s.size
    · have r0 := fun W => run_byte s (i := k) (z := (k : Int)) rfl hlt W
      obtain ⟨y, hy⟩ : ∃ y, byteAt s k = y := ⟨_, rfl⟩
      have HY : Hid _ := hy
      rw [hy] at r0
      have hyl : y < 256 := by rw [← hy]; exact byteAt_lt s k
      clear hy
      by_cases he : y = x
      · subst he
        have HE : Hid (Lib.indexByte s.data.toList (UInt8.ofNat y) = (k : Int)) := ib_at _ _ k (fun j hj e => by
          rw [byteAt_get (by omega), Option.some.injEq, ofNat_inj8 (byteAt_lt s j) hyl] at e
          exact HJ.out j hj e) (by rw [byteAt_get hlt, HY.out])
        have HM : Hid (mark s y = true) := by rw [Hid, mark, HE.out]; simp
        go_wp2_with fail
        go_ret
        exact ⟨by rw [HM.out]; rfl, rfl⟩
      · have hne : ((y : Int) == (x : Int)) = false := by simp; omega
        go_wp2_with fail
        exact ⟨⟨k + 1, by omega, by go_num, fun j hj => by
          rcases Nat.lt_succ_iff_lt_or_eq.1 hj with h | rfl
          · exact HJ.out j h
          · rw [HY.out]; exact he, by first | rfl | trivial⟩, by simp [intOf]; omega⟩
    · obtain rfl : k = s.size := by omega
      have HE : Hid (Lib.indexByte s.data.toList (UInt8.ofNat x) = -1) := ib_none _ _ (fun j e => by
        by_cases hj : j < s.size
        · rw [byteAt_get hj, Option.some.injEq, ofNat_inj8 (byteAt_lt s j) hx] at e
          exact HJ.out j hj e
        · rw [List.getElem?_eq_none (by have : s.data.toList.length = s.size := by simp
                                        omega)] at e
          cases e)
      have HM : Hid (mark s x = false) := by rw [Hid, mark, HE.out]; simp
      go_wp2_with fail
      go_ret
      exact ⟨by rw [HM.out]; rfl, rfl⟩
end Go.Proofs.YtbpfggpljfpfcaaDoor
