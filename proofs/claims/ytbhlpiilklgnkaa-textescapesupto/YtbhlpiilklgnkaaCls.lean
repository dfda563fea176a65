/-
  Classes of bytes: the contracts of isGreat, isLetter; the library's own contract of strings.IndexByte, laid at this program.
-/
import Derived.Test.YtbhlpiilklgnkaaSmall
import Derived.Shelf.Small.Strs
namespace Go.Proofs.Ytbhlpiilklgnkaa
open Go.RowKit
def isGr (x : Nat) : Bool := decide (65 ≤ x ∧ x ≤ 90)
def isLet (x : Nat) : Bool := decide ((97 ≤ x ∧ x ≤ 122) ∨ (65 ≤ x ∧ x ≤ 90))
/-- A text has a byte. -/
def mark (s : ByteArray) (x : Nat) : Bool := decide (0 ≤ Lib.indexByte s.data.toList (UInt8.ofNat x))
set_option maxRecDepth 20000 in
set_option maxHeartbeats 1000000 in
theorem isGreat_any (x : Nat) (w : World) : Calls Try.prog 42 #[.int .u8 (x : Int)] w fun e w' => e = .returned (.bool (isGr x)) ∧ w' = w := by
  rcases (by omega : (x < 65) ∨ (65 ≤ x ∧ x ≤ 90) ∨ (90 < x)) with g | g | g
  · rw [show isGr x = false by simp [isGr]; omega]
    have k0 : ¬ (65 : Int) ≤ (x : Int) := by omega
    clear g
    go_enter Try.func42, Try.ntmps42
    go_wp2
    go_ret
    exact ⟨rfl, rfl⟩
  · rw [show isGr x = true by simp [isGr]; omega]
    have k0 : (65 : Int) ≤ (x : Int) := by omega
    have k1 : (x : Int) ≤ 90 := by omega
    clear g
    go_enter Try.func42, Try.ntmps42
    go_wp2
    go_ret
    exact ⟨rfl, rfl⟩
  · rw [show isGr x = false by simp [isGr]; omega]
    have k0 : (65 : Int) ≤ (x : Int) := by omega
    have k1 : ¬ (x : Int) ≤ 90 := by omega
    clear g
    go_enter Try.func42, Try.ntmps42
    go_wp2
    go_ret
    exact ⟨rfl, rfl⟩
set_option maxRecDepth 20000 in
set_option maxHeartbeats 1000000 in
theorem isLetter_any (x : Nat) (w : World) : Calls Try.prog 39 #[.int .u8 (x : Int)] w fun e w' => e = .returned (.bool (isLet x)) ∧ w' = w := by
  rcases (by omega : (97 ≤ x ∧ x ≤ 122) ∨ (65 ≤ x ∧ x ≤ 90) ∨ (x < 65 ∨ (90 < x ∧ x < 97)) ∨ (122 < x)) with g | g | g | g
  · rw [show isLet x = true by simp [isLet]; omega]
    have k0 : (97 : Int) ≤ (x : Int) := by omega
    have k1 : (x : Int) ≤ 122 := by omega
    have HC : Hid (∀ W : World, _) := fun W => isGreat_any x W
    rw [show isGr x = false by simp [isGr]; omega] at HC
    clear g
    go_enter Try.func39, Try.ntmps39
    go_wp2_with (go_at_call 42; refine (HC.out _).mono ?_; rintro e w' ⟨rfl, rfl⟩)
    go_ret
    exact ⟨rfl, rfl⟩
  · rw [show isLet x = true by simp [isLet]; omega]
    have k0 : ¬ (97 : Int) ≤ (x : Int) := by omega
    have HC : Hid (∀ W : World, _) := fun W => isGreat_any x W
    rw [show isGr x = true by simp [isGr]; omega] at HC
    clear g
    go_enter Try.func39, Try.ntmps39
    go_wp2_with (go_at_call 42; refine (HC.out _).mono ?_; rintro e w' ⟨rfl, rfl⟩)
    go_ret
    exact ⟨rfl, rfl⟩
  · rw [show isLet x = false by simp [isLet]; omega]
    have k0 : ¬ (97 : Int) ≤ (x : Int) := by omega
    have HC : Hid (∀ W : World, _) := fun W => isGreat_any x W
    rw [show isGr x = false by simp [isGr]; omega] at HC
    clear g
    go_enter Try.func39, Try.ntmps39
    go_wp2_with (go_at_call 42; refine (HC.out _).mono ?_; rintro e w' ⟨rfl, rfl⟩)
    go_ret
    exact ⟨rfl, rfl⟩
  · rw [show isLet x = false by simp [isLet]; omega]
    have k0 : (97 : Int) ≤ (x : Int) := by omega
    have k1 : ¬ (x : Int) ≤ 122 := by omega
    have HC : Hid (∀ W : World, _) := fun W => isGreat_any x W
    rw [show isGr x = false by simp [isGr]; omega] at HC
    clear g
    go_enter Try.func39, Try.ntmps39
    go_wp2_with (go_at_call 42; refine (HC.out _).mono ?_; rintro e w' ⟨rfl, rfl⟩)
    go_ret
    exact ⟨rfl, rfl⟩
end Go.Proofs.Ytbhlpiilklgnkaa
namespace Go.Proofs
open Go.Shelf
def Try.lays137_ren : Go.Shelf.Ren := ⟨fun | 137 => 40 | 217 => 43 | 266 => 44 | n => n, fun | n => n, fun | n => n⟩
theorem Try.lays137 : Go.Proofs.Lays.n137 Try.prog Try.lays137_ren := {
  mixed := by kernel_rfl
  f137 := Try.func40.trans (congrArg some (by kernel_rfl))
  f217 := Try.func43.trans (congrArg some (by kernel_rfl))
  f266 := Try.func44.trans (congrArg some (by kernel_rfl))
  t3 := Try.underlying3
  a3 := Try.isAgg3
  z3 := Try.sizeOf3
  v3 := Try.zeroValue3
  t5 := Try.underlying5
  a5 := Try.isAgg5
  z5 := Try.sizeOf5
  v5 := Try.zeroValue5
  t9 := Try.underlying9
  a9 := Try.isAgg9
  z9 := Try.sizeOf9
  v9 := Try.zeroValue9 }
theorem Try.indexByte (s : ByteArray) (c : Int) (w : World) :
    Calls Try.prog 40 #[.string s, .int .u8 c] w fun e w' => e = .returned (.int .i64 (Lib.indexByte s.data.toList c.toNat.toUInt8)) ∧ w' = w := Any.strings_IndexByte Try.lays137 s c w
end Go.Proofs
namespace Go.Proofs.Ytbhlpiilklgnkaa
open Go.RowKit
theorem ib_ge (l : List UInt8) (c : UInt8) : -1 ≤ Lib.indexByte l c := by
  induction l with
  | nil => exact Int.le_refl _
  | cons b l ih =>
    unfold Lib.indexByte
    repeat' split
    all_goals omega
theorem index_any (s : ByteArray) (x : Nat) (w : World) : Calls Try.prog 40 #[.string s, .int .u8 (x : Int)] w fun e w' => e = .returned (.int .i64 (Lib.indexByte s.data.toList (UInt8.ofNat x))) ∧ w' = w := Try.indexByte s (x : Int) w
end Go.Proofs.Ytbhlpiilklgnkaa
