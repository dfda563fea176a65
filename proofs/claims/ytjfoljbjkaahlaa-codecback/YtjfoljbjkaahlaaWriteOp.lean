/-
  The contract of write: whatever is asked for, its bytes stand behind those that are written, if there is room.
-/
import Derived.Test.YtjfoljbjkaahlaaBackMath
namespace Go.Proofs.Ytjfoljbjkaahlaa
open Go.RowKit
section
variable {base b : Nat} {bs : List UInt8} {v : Value} {w : World}
/-- What a write leaves. -/
def Wrote (w w' : World) (base b : Nat) (bs : List UInt8) : Prop := (∃ v', WIs w' base b 1073741824 bs false v') ∧ Keeps (WS base b) w w'
theorem wrote_of {w w' : World} {o : Obj} {bs' : List UInt8} (h : ∃ v', WIs w' base b 1073741824 bs' false v') (k : Keeps (WS base b) (w.alloc o) w') : Wrote w w' base b bs' := ⟨h, ((Keeps.refl _ w).alloc o).trans k⟩
theorem write_0 (n : Nat) (s : ByteArray) (h : WIs w base b 1073741824 bs false v) (hbase : base ≤ w.heap.size) (hl : bs.length + 10 + s.size ≤ 1073741824) :
    Calls Try.prog 7 #[.pointer (some ⟨b, 0, none⟩), .agg #[.int .i64 0, .int .u64 n, .string s]] w fun r w' => r = .returned (.tuple #[]) ∧ Wrote w w' base b (bs ++ be1 n) := by
  have HL : Hid _ := hl
  clear hl
  go_enter Try.func7, Try.ntmps7
  go_wp2_with fail
  first | rw [show IntKind.u8.wrap (n : Int) = ((n % 256 : Nat) : Int) from by rw [IntKind.wrap_u8]; omega] | rw [show (n : Int) % 256 = ((n % 256 : Nat) : Int) from by omega]
  refine (wu8_ok (n % 256) (h.alloc _) (by simp; omega) (by omega) (by decide) (by decide) (by have := HL.out; omega) (by have := HL.out; omega)).mono ?_
  rintro r w1 ⟨rfl, h1, k1⟩
  rw [be1_mod] at h1
  go_wp2_with fail
  go_end0
  exact ⟨rfl, wrote_of h1 k1⟩
theorem write_1 (n : Nat) (s : ByteArray) (h : WIs w base b 1073741824 bs false v) (hbase : base ≤ w.heap.size) (hl : bs.length + 10 + s.size ≤ 1073741824) :
    Calls Try.prog 7 #[.pointer (some ⟨b, 0, none⟩), .agg #[.int .i64 1, .int .u64 n, .string s]] w fun r w' => r = .returned (.tuple #[]) ∧ Wrote w w' base b (bs ++ be2 n) := by
  have HL : Hid _ := hl
  clear hl
  go_enter Try.func7, Try.ntmps7
  go_wp2_with fail
  first | rw [show IntKind.u16.wrap (n : Int) = ((n % 65536 : Nat) : Int) from by rw [IntKind.wrap_u16]; omega] | rw [show (n : Int) % 65536 = ((n % 65536 : Nat) : Int) from by omega]
  refine (wu16_ok (n % 65536) (h.alloc _) (by simp; omega) (by omega) (by decide) (by decide) (by have := HL.out; omega) (by have := HL.out; omega)).mono ?_
  rintro r w1 ⟨rfl, h1, k1⟩
  rw [be2_mod] at h1
  go_wp2_with fail
  go_end0
  exact ⟨rfl, wrote_of h1 k1⟩
theorem write_2 (n : Nat) (s : ByteArray) (h : WIs w base b 1073741824 bs false v) (hbase : base ≤ w.heap.size) (hl : bs.length + 10 + s.size ≤ 1073741824) :
    Calls Try.prog 7 #[.pointer (some ⟨b, 0, none⟩), .agg #[.int .i64 2, .int .u64 n, .string s]] w fun r w' => r = .returned (.tuple #[]) ∧ Wrote w w' base b (bs ++ be4 n) := by
  have HL : Hid _ := hl
  clear hl
  go_enter Try.func7, Try.ntmps7
  go_wp2_with fail
  first | rw [show IntKind.u32.wrap (n : Int) = ((n % 4294967296 : Nat) : Int) from by rw [IntKind.wrap_u32]; omega] | rw [show (n : Int) % 4294967296 = ((n % 4294967296 : Nat) : Int) from by omega]
  refine (wu32_ok (n % 4294967296) (h.alloc _) (by simp; omega) (by omega) (by decide) (by decide) (by have := HL.out; omega) (by have := HL.out; omega)).mono ?_
  rintro r w1 ⟨rfl, h1, k1⟩
  rw [be4_mod] at h1
  go_wp2_with fail
  go_end0
  exact ⟨rfl, wrote_of h1 k1⟩
theorem write_3 (n : Nat) (s : ByteArray) (h : WIs w base b 1073741824 bs false v) (hbase : base ≤ w.heap.size) (hn : n < 18446744073709551616) (hl : bs.length + 10 + s.size ≤ 1073741824) :
    Calls Try.prog 7 #[.pointer (some ⟨b, 0, none⟩), .agg #[.int .i64 3, .int .u64 n, .string s]] w fun r w' => r = .returned (.tuple #[]) ∧ Wrote w w' base b (bs ++ be8 n) := by
  have HL : Hid _ := hl
  clear hl
  go_enter Try.func7, Try.ntmps7
  go_wp2_with fail
  refine (wu64_ok n (h.alloc _) (by simp; omega) hn (by decide) (by decide) (by have := HL.out; omega) (by have := HL.out; omega)).mono ?_
  rintro r w1 ⟨rfl, h1, k1⟩
  go_wp2_with fail
  go_end0
  exact ⟨rfl, wrote_of h1 k1⟩
theorem write_4 (n : Nat) (s : ByteArray) (h : WIs w base b 1073741824 bs false v) (hbase : base ≤ w.heap.size) (hn : n < 18446744073709551616) (hl : bs.length + 10 + s.size ≤ 1073741824) :
    Calls Try.prog 7 #[.pointer (some ⟨b, 0, none⟩), .agg #[.int .i64 4, .int .u64 n, .string s]] w fun r w' => r = .returned (.tuple #[]) ∧ Wrote w w' base b (bs ++ varint n) := by
  have HL : Hid _ := hl
  have HV : Hid _ := varint_le n hn
  clear hl
  go_enter Try.func7, Try.ntmps7
  go_wp2_with fail
  refine (wvarint_ok n (h.alloc _) (by simp; omega) hn (by decide) (by decide) (by have := HL.out; omega) (by have := HL.out; have := HV.out; omega)).mono ?_
  rintro r w1 ⟨rfl, h1, k1⟩
  go_wp2_with fail
  go_end0
  exact ⟨rfl, wrote_of h1 k1⟩
theorem write_5 (n : Nat) (s : ByteArray) (h : WIs w base b 1073741824 bs false v) (hbase : base ≤ w.heap.size) (hl : bs.length + 10 + s.size ≤ 1073741824) :
    Calls Try.prog 7 #[.pointer (some ⟨b, 0, none⟩), .agg #[.int .i64 5, .int .u64 n, .string s]] w fun r w' => r = .returned (.tuple #[]) ∧ Wrote w w' base b (bs ++ textBytes s) := by
  have HV : Hid _ := varint_le s.size (by omega)
  have HL : Hid _ := hl
  clear hl
  go_enter Try.func7, Try.ntmps7
  go_wp2_with fail
  refine (wtext_ok s (h.alloc _) (by simp; omega) (by decide) (by decide) (by have := HL.out; omega) (by have := HL.out; have := HV.out; omega)).mono ?_
  rintro r w1 ⟨rfl, h1, k1⟩
  go_wp2_with fail
  go_end0
  exact ⟨rfl, wrote_of h1 k1⟩
theorem write_6 (n : Nat) (s : ByteArray) (h : WIs w base b 1073741824 bs false v) (hbase : base ≤ w.heap.size) (hl : bs.length + 10 + s.size ≤ 1073741824) :
    Calls Try.prog 7 #[.pointer (some ⟨b, 0, none⟩), .agg #[.int .i64 6, .int .u64 n, .string s]] w fun r w' => r = .returned (.tuple #[]) ∧ Wrote w w' base b (bs ++ s.data.toList) := by
  have HL : Hid _ := hl
  clear hl
  go_enter Try.func7, Try.ntmps7
  go_wp2_with fail
  refine (wraw_ok s (h.alloc _) (by simp; omega) (by decide) (by decide) (by have := HL.out; omega) (by have := HL.out; omega)).mono ?_
  rintro r w1 ⟨rfl, h1, k1⟩
  go_wp2_with fail
  go_end0
  exact ⟨rfl, wrote_of h1 k1⟩
theorem write_look (kd : Int) (n : Nat) (s : ByteArray) (h : WIs w base b 1073741824 bs false v)
    (h0 : (kd == 0) = false) (h1 : (kd == 1) = false) (h2 : (kd == 2) = false) (h3 : (kd == 3) = false) (h4 : (kd == 4) = false) (h5 : (kd == 5) = false) (h6 : (kd == 6) = false) :
    Calls Try.prog 7 #[.pointer (some ⟨b, 0, none⟩), .agg #[.int .i64 kd, .int .u64 n, .string s]] w fun r w' => r = .returned (.tuple #[]) ∧ Wrote w w' base b bs := by
  go_enter Try.func7, Try.ntmps7
  go_wp2_with fail
  go_end0
  exact ⟨rfl, ⟨v, h.alloc _⟩, (Keeps.refl _ w).alloc _⟩
theorem write_any (kd : Int) (n : Nat) (s : ByteArray) (h : WIs w base b 1073741824 bs false v) (hbase : base ≤ w.heap.size) (hn : n < 18446744073709551616) (hl : bs.length + 10 + s.size ≤ 1073741824) :
    Calls Try.prog 7 #[.pointer (some ⟨b, 0, none⟩), .agg #[.int .i64 kd, .int .u64 n, .string s]] w fun r w' => r = .returned (.tuple #[]) ∧ Wrote w w' base b (bs ++ opBytes kd n s) := by
  by_cases h0 : kd = 0
  · subst h0; exact write_0 n s h hbase hl
  by_cases h1 : kd = 1
  · subst h1; exact write_1 n s h hbase hl
  by_cases h2 : kd = 2
  · subst h2; exact write_2 n s h hbase hl
  by_cases h3 : kd = 3
  · subst h3; exact write_3 n s h hbase hn hl
  by_cases h4 : kd = 4
  · subst h4; exact write_4 n s h hbase hn hl
  by_cases h5 : kd = 5
  · subst h5; exact write_5 n s h hbase hl
  by_cases h6 : kd = 6
  · subst h6; exact write_6 n s h hbase hl
  rw [show opBytes kd n s = [] by simp [opBytes, h0, h1, h2, h3, h4, h5, h6], List.append_nil]
  exact write_look kd n s h (by simpa using h0) (by simpa using h1) (by simpa using h2) (by simpa using h3) (by simpa using h4) (by simpa using h5) (by simpa using h6)
end
end Go.Proofs.Ytjfoljbjkaahlaa
