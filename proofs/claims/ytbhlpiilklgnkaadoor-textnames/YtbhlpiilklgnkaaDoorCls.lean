/-
  Classes of bytes: the contracts of isGreat, isLetter; the library's own contract of strings.IndexByte, laid at this program.
-/
import Derived.Test.YtbhlpiilklgnkaaDoorSmall
import Derived.Shelf.Small.Strs
namespace Go.Proofs.YtbhlpiilklgnkaaDoor
open Go.RowKit
def isGr (x : Nat) : Bool := decide (65 ≤ x ∧ x ≤ 90)
def isLet (x : Nat) : Bool := decide ((97 ≤ x ∧ x ≤ 122) ∨ (65 ≤ x ∧ x ≤ 90))
/-- A text has a byte. -/
def mark (s : ByteArray) (x : Nat) : Bool := decide (0 ≤ Lib.indexByte s.data.toList (UInt8.ofNat x))
set_option maxRecDepth 20000 in
set_option maxHeartbeats 1000000 in
theorem isGreat_any (x : Nat) (w : World) : Calls Tryd.prog 27 #[.int .u8 (x : Int)] w fun e w' => e = .returned (.bool (isGr x)) ∧ w' = w := by
  rcases (by omega : (x < 65) ∨ (65 ≤ x ∧ x ≤ 90) ∨ (90 < x)) with g | g | g
  · rw [show isGr x = false by simp [isGr]; omega]
    have k0 : ¬ (65 : Int) ≤ (x : Int) := by omega
    clear g
    go_enter Tryd.func27, Tryd.ntmps27
    go_wp2
    go_ret
    exact ⟨rfl, rfl⟩
  · rw [show isGr x = true by simp [isGr]; omega]
    have k0 : (65 : Int) ≤ (x : Int) := by omega
    have k1 : (x : Int) ≤ 90 := by omega
    clear g
    go_enter Tryd.func27, Tryd.ntmps27
    go_wp2
    go_ret
    exact ⟨rfl, rfl⟩
  · rw [show isGr x = false by simp [isGr]; omega]
    have k0 : (65 : Int) ≤ (x : Int) := by omega
    have k1 : ¬ (x : Int) ≤ 90 := by omega
    clear g
    go_enter Tryd.func27, Tryd.ntmps27
    go_wp2
    go_ret
    exact ⟨rfl, rfl⟩
set_option maxRecDepth 20000 in
set_option maxHeartbeats 1000000 in
theorem isLetter_any (x : Nat) (w : World) : Calls Tryd.prog 21 #[.int .u8 (x : Int)] w fun e w' => e = .returned (.bool (isLet x)) ∧ w' = w := by
  rcases (by omega : (97 ≤ x ∧ x ≤ 122) ∨ (65 ≤ x ∧ x ≤ 90) ∨ (x < 65 ∨ (90 < x ∧ x < 97)) ∨ (122 < x)) with g | g | g | g
  · rw [show isLet x = true by simp [isLet]; omega]
    have k0 : (97 : Int) ≤ (x : Int) := by omega
    have k1 : (x : Int) ≤ 122 := by omega
    have HC : Hid (∀ W : World, _) := fun W => isGreat_any x W
    rw [show isGr x = false by simp [isGr]; omega] at HC
    clear g
    go_enter Tryd.func21, Tryd.ntmps21
    go_wp2_with (go_at_call 27; refine (HC.out _).mono ?_; rintro e w' ⟨rfl, rfl⟩)
    go_ret
    exact ⟨rfl, rfl⟩
  · rw [show isLet x = true by simp [isLet]; omega]
    have k0 : ¬ (97 : Int) ≤ (x : Int) := by omega
    have HC : Hid (∀ W : World, _) := fun W => isGreat_any x W
    rw [show isGr x = true by simp [isGr]; omega] at HC
    clear g
    go_enter Tryd.func21, Tryd.ntmps21
    go_wp2_with (go_at_call 27; refine (HC.out _).mono ?_; rintro e w' ⟨rfl, rfl⟩)
    go_ret
    exact ⟨rfl, rfl⟩
  · rw [show isLet x = false by simp [isLet]; omega]
    have k0 : ¬ (97 : Int) ≤ (x : Int) := by omega
    have HC : Hid (∀ W : World, _) := fun W => isGreat_any x W
    rw [show isGr x = false by simp [isGr]; omega] at HC
    clear g
    go_enter Tryd.func21, Tryd.ntmps21
    go_wp2_with (go_at_call 27; refine (HC.out _).mono ?_; rintro e w' ⟨rfl, rfl⟩)
    go_ret
    exact ⟨rfl, rfl⟩
  · rw [show isLet x = false by simp [isLet]; omega]
    have k0 : (97 : Int) ≤ (x : Int) := by omega
    have k1 : ¬ (x : Int) ≤ 122 := by omega
    have HC : Hid (∀ W : World, _) := fun W => isGreat_any x W
    rw [show isGr x = false by simp [isGr]; omega] at HC
    clear g
    go_enter Tryd.func21, Tryd.ntmps21
    go_wp2_with (go_at_call 27; refine (HC.out _).mono ?_; rintro e w' ⟨rfl, rfl⟩)
    go_ret
    exact ⟨rfl, rfl⟩
end Go.Proofs.YtbhlpiilklgnkaaDoor
namespace Go.Proofs
open Go.Shelf
def Tryd.lays137_ren : Go.Shelf.Ren := ⟨fun | 137 => 23 | 217 => 33 | 266 => 44 | n => n, fun | n => n, fun | n => n⟩
theorem Tryd.lays137 : Go.Proofs.Lays.n137 Tryd.prog Tryd.lays137_ren := {
  mixed := by kernel_rfl
  f137 := Tryd.func23.trans (congrArg some (by kernel_rfl))
  f217 := Tryd.func33.trans (congrArg some (by kernel_rfl))
  f266 := Tryd.func44.trans (congrArg some (by kernel_rfl))
  t3 := Tryd.underlying3
  a3 := Tryd.isAgg3
  z3 := Tryd.sizeOf3
  v3 := Tryd.zeroValue3
  t5 := Tryd.underlying5
  a5 := Tryd.isAgg5
  z5 := Tryd.sizeOf5
  v5 := Tryd.zeroValue5
  t9 := Tryd.underlying9
  a9 := Tryd.isAgg9
  z9 := Tryd.sizeOf9
  v9 := Tryd.zeroValue9 }
theorem Tryd.indexByte (s : ByteArray) (c : Int) (w : World) :
    Calls Tryd.prog 23 #[.string s, .int .u8 c] w fun e w' => e = .returned (.int .i64 (Lib.indexByte s.data.toList c.toNat.toUInt8)) ∧ w' = w := Any.strings_IndexByte Tryd.lays137 s c w
end Go.Proofs
namespace Go.Proofs.YtbhlpiilklgnkaaDoor
open Go.RowKit
theorem ib_ge (l : List UInt8) (c : UInt8) : -1 ≤ Lib.indexByte l c := by
  induction l with
  | nil => exact Int.le_refl _
  | cons b l ih =>
    unfold Lib.indexByte
    repeat' split
    all_goals omega
theorem index_any (s : ByteArray) (x : Nat) (w : World) : Calls Tryd.prog 23 #[.string s, .int .u8 (x : Int)] w fun e w' => e = .returned (.int .i64 (Lib.indexByte s.data.toList (UInt8.ofNat x))) ∧ w' = w := Tryd.indexByte s (x : Int) w
end Go.Proofs.YtbhlpiilklgnkaaDoor
