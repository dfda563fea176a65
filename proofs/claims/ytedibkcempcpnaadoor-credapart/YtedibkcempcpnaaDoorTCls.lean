/-
  Classes of bytes: the contracts of isGreat, isLetter; the library's own contract of strings.IndexByte, laid at this program.
-/
import Derived.Test.YtedibkcempcpnaaDoorTSmall
import Derived.Test.YtedibkcempcpnaaDoorShelf
import Derived.Shelf.Small.Strs
namespace Go.Proofs.YtedibkcempcpnaaDoor.T
open Go.RowKit
def isGr (x : Nat) : Bool := decide (65 ≤ x ∧ x ≤ 90)
def isLet (x : Nat) : Bool := decide ((97 ≤ x ∧ x ≤ 122) ∨ (65 ≤ x ∧ x ≤ 90))
/-- A text has a byte. -/
def mark (s : ByteArray) (x : Nat) : Bool := decide (0 ≤ Lib.indexByte s.data.toList (UInt8.ofNat x))
set_option maxRecDepth 20000 in
set_option maxHeartbeats 1000000 in
theorem isGreat_any (x : Nat) (w : World) : Calls Tryd.prog 53 #[.int .u8 (x : Int)] w fun e w' => e = .returned (.bool (isGr x)) ∧ w' = w := by
  rcases (by omega : (x < 65) ∨ (65 ≤ x ∧ x ≤ 90) ∨ (90 < x)) with g | g | g
  · rw [show isGr x = false by simp [isGr]; omega]
    have k0 : ¬ (65 : Int) ≤ (x : Int) := by omega
    clear g
    go_enter Tryd.func53, Tryd.ntmps53
    go_wp2
    go_ret
    exact ⟨rfl, rfl⟩
  · rw [show isGr x = true by simp [isGr]; omega]
    have k0 : (65 : Int) ≤ (x : Int) := by omega
    have k1 : (x : Int) ≤ 90 := by omega
    clear g
    go_enter Tryd.func53, Tryd.ntmps53
    go_wp2
    go_ret
    exact ⟨rfl, rfl⟩
  · rw [show isGr x = false by simp [isGr]; omega]
    have k0 : (65 : Int) ≤ (x : Int) := by omega
    have k1 : ¬ (x : Int) ≤ 90 := by omega
    clear g
    go_enter Tryd.func53, Tryd.ntmps53
    go_wp2
    go_ret
    exact ⟨rfl, rfl⟩
end Go.Proofs.YtedibkcempcpnaaDoor.T
namespace Go.Proofs
open Go.Shelf
theorem Tryd.indexByte (s : ByteArray) (c : Int) (w : World) :
    Calls Tryd.prog 55 #[.string s, .int .u8 c] w fun e w' => e = .returned (.int .i64 (Lib.indexByte s.data.toList c.toNat.toUInt8)) ∧ w' = w := Any.strings_IndexByte Tryd.lays137 s c w
end Go.Proofs
namespace Go.Proofs.YtedibkcempcpnaaDoor.T
open Go.RowKit
theorem ib_ge (l : List UInt8) (c : UInt8) : -1 ≤ Lib.indexByte l c := by
  induction l with
  | nil => exact Int.le_refl _
  | cons b l ih =>
    unfold Lib.indexByte
    repeat' split
    all_goals omega
theorem index_any (s : ByteArray) (x : Nat) (w : World) : Calls Tryd.prog 55 #[.string s, .int .u8 (x : Int)] w fun e w' => e = .returned (.int .i64 (Lib.indexByte s.data.toList (UInt8.ofNat x))) ∧ w' = w := Tryd.indexByte s (x : Int) w
end Go.Proofs.YtedibkcempcpnaaDoor.T
