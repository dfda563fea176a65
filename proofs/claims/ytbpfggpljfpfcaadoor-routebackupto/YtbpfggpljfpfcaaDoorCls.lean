/-
  Classes of bytes: the contracts of isGreat, isLetter; the library's own contract of strings.IndexByte, laid at this program.
-/
import Derived.Test.YtbpfggpljfpfcaaDoorSmall
import Derived.Test.YtbpfggpljfpfcaaDoorShelf
import Derived.Shelf.Small.Strs
namespace Go.Proofs.YtbpfggpljfpfcaaDoor
open Go.RowKit
def isGr (x : Nat) : Bool := decide (65 ≤ x ∧ x ≤ 90)
def isLet (x : Nat) : Bool := decide ((97 ≤ x ∧ x ≤ 122) ∨ (65 ≤ x ∧ x ≤ 90))
/-- A text has a byte. -/
def mark (s : ByteArray) (x : Nat) : Bool := decide (0 ≤ Lib.indexByte s.data.toList (UInt8.ofNat x))
set_option maxRecDepth 20000 in
set_option maxHeartbeats 1000000 in
theorem isGreat_any (x : Nat) (w : World) : Calls Tryd.prog 103 #[.int .u8 (x : Int)] w fun e w' => e = .returned (.bool (isGr x)) ∧ w' = w := by
  rcases (by omega : (x < 65) ∨ (65 ≤ x ∧ x ≤ 90) ∨ (90 < x)) with g | g | g
  · rw [show isGr x = false by simp [isGr]; omega]
    have k0 : ¬ (65 : Int) ≤ (x : Int) := by omega
    clear g
    go_enter Tryd.func103, Tryd.ntmps103
    go_wp2
    go_ret
    exact ⟨rfl, rfl⟩
  · rw [show isGr x = true by simp [isGr]; omega]
    have k0 : (65 : Int) ≤ (x : Int) := by omega
    have k1 : (x : Int) ≤ 90 := by omega
    clear g
    go_enter Tryd.func103, Tryd.ntmps103
    go_wp2
    go_ret
    exact ⟨rfl, rfl⟩
  · rw [show isGr x = false by simp [isGr]; omega]
    have k0 : (65 : Int) ≤ (x : Int) := by omega
    have k1 : ¬ (x : Int) ≤ 90 := by omega
    clear g
    go_enter Tryd.func103, Tryd.ntmps103
    go_wp2
    go_ret
    exact ⟨rfl, rfl⟩
set_option maxRecDepth 20000 in
set_option maxHeartbeats 1000000 in
theorem isLetter_any (x : Nat) (w : World) : Calls Tryd.prog 95 #[.int .u8 (x : Int)] w fun e w' => e = .returned (.bool (isLet x)) ∧ w' = w := by
  rcases (by omega : (97 ≤ x ∧ x ≤ 122) ∨ (65 ≤ x ∧ x ≤ 90) ∨ (x < 65 ∨ (90 < x ∧ x < 97)) ∨ (122 < x)) with g | g | g | g
  · rw [show isLet x = true by simp [isLet]; omega]
    have k0 : (97 : Int) ≤ (x : Int) := by omega
    have k1 : (x : Int) ≤ 122 := by omega
    have HC : Hid (∀ W : World, _) := fun W => isGreat_any x W
    rw [show isGr x = false by simp [isGr]; omega] at HC
    clear g
    go_enter Tryd.func95, Tryd.ntmps95
    go_wp2_with (go_at_call 103; refine (HC.out _).mono ?_; rintro e w' ⟨rfl, rfl⟩)
    go_ret
    exact ⟨rfl, rfl⟩
  · rw [show isLet x = true by simp [isLet]; omega]
    have k0 : ¬ (97 : Int) ≤ (x : Int) := by omega
    have HC : Hid (∀ W : World, _) := fun W => isGreat_any x W
    rw [show isGr x = true by simp [isGr]; omega] at HC
    clear g
    go_enter Tryd.func95, Tryd.ntmps95
    go_wp2_with (go_at_call 103; refine (HC.out _).mono ?_; rintro e w' ⟨rfl, rfl⟩)
    go_ret
    exact ⟨rfl, rfl⟩
  · rw [show isLet x = false by simp [isLet]; omega]
    have k0 : ¬ (97 : Int) ≤ (x : Int) := by omega
    have HC : Hid (∀ W : World, _) := fun W => isGreat_any x W
    rw [show isGr x = false by simp [isGr]; omega] at HC
    clear g
    go_enter Tryd.func95, Tryd.ntmps95
    go_wp2_with (go_at_call 103; refine (HC.out _).mono ?_; rintro e w' ⟨rfl, rfl⟩)
    go_ret
    exact ⟨rfl, rfl⟩
  · rw [show isLet x = false by simp [isLet]; omega]
    have k0 : (97 : Int) ≤ (x : Int) := by omega
    have k1 : ¬ (x : Int) ≤ 122 := by omega
    have HC : Hid (∀ W : World, _) := fun W => isGreat_any x W
    rw [show isGr x = false by simp [isGr]; omega] at HC
    clear g
    go_enter Tryd.func95, Tryd.ntmps95
    go_wp2_with (go_at_call 103; refine (HC.out _).mono ?_; rintro e w' ⟨rfl, rfl⟩)
    go_ret
    exact ⟨rfl, rfl⟩
end Go.Proofs.YtbpfggpljfpfcaaDoor
namespace Go.Proofs
open Go.Shelf
theorem Tryd.indexByte (s : ByteArray) (c : Int) (w : World) :
    Calls Tryd.prog 96 #[.string s, .int .u8 c] w fun e w' => e = .returned (.int .i64 (Lib.indexByte s.data.toList c.toNat.toUInt8)) ∧ w' = w := Any.strings_IndexByte Tryd.lays137 s c w
end Go.Proofs
namespace Go.Proofs.YtbpfggpljfpfcaaDoor
open Go.RowKit
theorem ib_ge (l : List UInt8) (c : UInt8) : -1 ≤ Lib.indexByte l c := by
  induction l with
  | nil => exact Int.le_refl _
  | cons b l ih =>
    unfold Lib.indexByte
    repeat' split
    all_goals omega
theorem index_any (s : ByteArray) (x : Nat) (w : World) : Calls Tryd.prog 96 #[.string s, .int .u8 (x : Int)] w fun e w' => e = .returned (.int .i64 (Lib.indexByte s.data.toList (UInt8.ofNat x))) ∧ w' = w := Tryd.indexByte s (x : Int) w
end Go.Proofs.YtbpfggpljfpfcaaDoor
