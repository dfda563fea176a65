/-
  The contracts of a reader's inner calls: width, take, get, groups: whatever the text.
-/
import Derived.Test.YtkebddjndljodaaDoorBase
namespace Go.Proofs.YtkebddjndljodaaDoor
open Go.RowKit

/-- What 'take n' gives of a reader: the bytes, what is left, the fault. -/
def rTake (rest : ByteArray) (e : Int) (n : Nat) : ByteArray × ByteArray × Int :=
  if e = 0 then (if rest.size < n then (ByteArray.empty, ByteArray.empty, 20) else (rest.extract 0 n, rest.extract n rest.size, 0)) else (ByteArray.empty, rest, e)
theorem rTake_stuck {rest : ByteArray} {e : Int} (n : Nat) (h : ¬ e = 0) : rTake rest e n = (ByteArray.empty, rest, e) := by simp [rTake, h]
theorem rTake_short {rest : ByteArray} {n : Nat} (h : rest.size < n) : rTake rest 0 n = (ByteArray.empty, ByteArray.empty, 20) := by simp [rTake, h]
theorem rTake_ok {rest : ByteArray} {n : Nat} (h : n ≤ rest.size) : rTake rest 0 n = (rest.extract 0 n, rest.extract n rest.size, 0) := by simp [rTake, Nat.not_lt.2 h]

/-- The number that bytes are, the highest first. -/
def beNat (l : List UInt8) : Nat := l.foldl (fun n c => n * 256 + c.toNat) 0
theorem beNat_snoc (l : List UInt8) (c : UInt8) : beNat (l ++ [c]) = beNat l * 256 + c.toNat := by simp [beNat]
theorem beNat_lt (l : List UInt8) : beNat l < 256 ^ l.length := by
  suffices h : ∀ (r : List UInt8) (n m : Nat), n < 256 ^ m → r.foldl (fun n c => n * 256 + c.toNat) n < 256 ^ (m + r.length) by
    have := h l 0 0 (by decide)
    simpa [beNat] using this
  intro r
  induction r with
  | nil => intro n m h; simpa using h
  | cons c r ih =>
    intro n m h
    have hc := c.toNat_lt
    have := ih (n * 256 + c.toNat) (m + 1) (by rw [Nat.pow_succ]; omega)
    simpa [Nat.add_assoc, Nat.add_comm 1] using this

theorem bl255 : Lib.bitLen 255 = 8 := by decide +kernel
theorem bl65535 : Lib.bitLen 65535 = 16 := by decide +kernel
theorem bl4294967295 : Lib.bitLen 4294967295 = 32 := by decide +kernel
theorem bl18446744073709551615 : Lib.bitLen 18446744073709551615 = 64 := by decide +kernel
theorem width8 (w : World) : Calls Tryd.prog 46 #[] w fun e w' => e = .returned (.int .i64 1) ∧ w' = w := by
  have e0 : IntKind.u64.wrap (bits BinOp.xor IntKind.u8 IntKind.u8.max 0) = 255 := by decide +kernel
  go_enter Tryd.func46, Tryd.ntmps46
  go_wp2_with fail
  refine (Tryd.bits_Len64 255 _ (by decide) (by decide)).mono ?_
  rintro e w' ⟨rfl, rfl⟩
  rw [show ((Lib.bitLen (Int.toNat 255) : Nat) : Int) = 8 from by decide +kernel]
  go_wp2
  go_ret
  exact ⟨rfl, rfl⟩
theorem width64 (w : World) : Calls Tryd.prog 47 #[] w fun e w' => e = .returned (.int .i64 8) ∧ w' = w := by
  have e0 : bits BinOp.xor IntKind.u64 IntKind.u64.max 0 = 18446744073709551615 := by decide +kernel
  go_enter Tryd.func47, Tryd.ntmps47
  go_wp2_with fail
  refine (Tryd.bits_Len64 18446744073709551615 _ (by decide) (by decide)).mono ?_
  rintro e w' ⟨rfl, rfl⟩
  rw [show ((Lib.bitLen (Int.toNat 18446744073709551615) : Nat) : Int) = 64 from by decide +kernel]
  go_wp2
  go_ret
  exact ⟨rfl, rfl⟩

theorem take_any (b n : Nat) (s : ByteArray) (e : Int) (w : World) (h : RIs w b s e) (hs : s.size ≤ maxLen) (_hlt : n < 18446744073709551616) :
    Calls Tryd.prog 32 #[.pointer (some ⟨b, 0, none⟩), .int .u64 n] w fun r w' => r = .returned (.string (rTake s e n).1) ∧ RIs w' b (rTake s e n).2.1 (rTake s e n).2.2 ∧ Keeps (fun k => k = b) w w' := by
  unfold maxLen at hs
  have h0 := h.c0; have h1 := h.c1; have f0 := h.f0; have f1 := h.f1
  by_cases he : e = 0
  · subst he
    by_cases hn : n ≤ s.size
    · rw [rTake_ok hn]
      go_enter Tryd.func32, Tryd.ntmps32
      go_wp2_with fail
      refine (stuck_any b s 0 _ h).mono ?_
      rintro e' w' ⟨rfl, rfl⟩
      go_wp2_with fail
      go_ret
      exact ⟨rfl, h.set0 _, (Keeps.refl (fun k => k = b) _).setCell (Or.inl rfl) _⟩
    · have hn' : s.size < n := by omega
      rw [rTake_short hn']
      clear hn
      go_enter Tryd.func32, Tryd.ntmps32
      go_wp2_with fail
      refine (stuck_any b s 0 _ h).mono ?_
      rintro e' w' ⟨rfl, rfl⟩
      go_wp2_with fail
      refine (fail_any b s 0 20 _ h).mono ?_
      rintro e' w1 ⟨rfl, h', hk⟩
      go_wp2_with fail
      go_ret
      exact ⟨rfl, h', hk⟩
  · rw [rTake_stuck n he]
    have hb : (e != 0) = true := by simpa using he
    have HE : Hid (¬ e = 0) := he
    clear he
    go_enter Tryd.func32, Tryd.ntmps32
    go_wp2_with fail
    refine (stuck_any b s e _ h).mono ?_
    rintro e' w' ⟨rfl, rfl⟩
    go_wp2_with fail
    go_ret
    exact ⟨rfl, h, Keeps.refl _ _⟩
theorem take_nil (n : Nat) (w : World) :
    Calls Tryd.prog 32 #[.pointer none, .int .u64 n] w fun r w' => r = .returned (.string ByteArray.empty) ∧ w' = w := by
  go_enter Tryd.func32, Tryd.ntmps32
  go_wp2_with fail
  refine (stuck_nil _).mono ?_
  rintro e' w' ⟨rfl, rfl⟩
  go_wp2_with fail
  go_ret
  exact ⟨rfl, rfl⟩
theorem rTake_size (s : ByteArray) (e : Int) (n : Nat) : (rTake s e n).1.size ≤ n := by
  unfold rTake
  split
  · split
    · exact Nat.zero_le _
    · simp; omega
  · exact Nat.zero_le _
end Go.Proofs.YtkebddjndljodaaDoor
