/-
  The contract of write, whatever the bound and whether or not there is room: what the writer has behind it.
-/
import Derived.Test.YtjfoljbjkaahlaaBackMath
namespace Go.Proofs.Ytjfoljbjkaahlaa
open Go.RowKit
/-- What a writer of bound M has behind a write of some bytes: whether it is over, and its bytes. -/
def wnext (M : Int) (st : Bool × List UInt8) (l : List UInt8) : Bool × List UInt8 := if st.1 then st else if M - st.2.length < l.length then (true, []) else (false, st.2 ++ l)
theorem wnext_over {M : Int} {bs l : List UInt8} : wnext M (true, bs) l = (true, bs) := rfl
theorem wnext_no {M : Int} {bs l : List UInt8} (h : M - bs.length < l.length) : wnext M (false, bs) l = (true, []) := by simp [wnext, h]
theorem wnext_ok {M : Int} {bs l : List UInt8} (h : (l.length : Int) ≤ M - bs.length) : wnext M (false, bs) l = (false, bs ++ l) := by
  have : ¬ (M - bs.length < l.length) := by omega
  simp [wnext, this]
section
variable {base b : Nat} {M : Int} {over : Bool} {bs : List UInt8} {v : Value} {w : World}
/-- What a write leaves. -/
def Left (w w' : World) (base b : Nat) (M : Int) (st : Bool × List UInt8) : Prop := (∃ v', WIs w' base b M st.2 st.1 v') ∧ WKeeps base b w w'
theorem left_of {w w' : World} {o : Obj} {st : Bool × List UInt8} (h : Left (w.alloc o) w' base b M st) : Left w w' base b M st := ⟨h.1, ((WKeeps.refl _ _ w).alloc o).trans h.2⟩
theorem wu8_gen (n : Nat) (h : WIs w base b M bs over v) (hbase : base ≤ w.heap.size) (hM : 0 ≤ M) (hM' : M ≤ 9223372036854775807) (hn : n < 256) (hl : bs.length + 10 ≤ 140737488355328) :
    Calls Try.prog 24 #[.pointer (some ⟨b, 0, none⟩), .int .u8 n] w fun r w' => r = .returned (.tuple #[]) ∧ Left w w' base b M (wnext M (over, bs) (be1 n)) := by
  cases over with
  | true =>
    refine (wu8_over (n : Int) h).mono ?_
    rintro r w1 ⟨rfl, rfl⟩
    exact ⟨rfl, ⟨v, h⟩, Keeps.refl _ _⟩
  | false =>
    have hlen : (((be1 n).length : Nat) : Int) = 1 := by simp [be1]
    by_cases hr : 1 ≤ M - bs.length
    · refine (wu8_ok n h hbase hn hM hM' hl hr).mono ?_
      rintro r w1 ⟨rfl, h1, k1⟩
      rw [wnext_ok (by omega)]
      exact ⟨rfl, h1, k1⟩
    · refine (wu8_no (n : Int) h hM hM' (by omega)).mono ?_
      rintro r w1 ⟨rfl, h1, k1⟩
      rw [wnext_no (by omega)]
      exact ⟨rfl, ⟨_, h1⟩, k1⟩
theorem wu16_gen (n : Nat) (h : WIs w base b M bs over v) (hbase : base ≤ w.heap.size) (hM : 0 ≤ M) (hM' : M ≤ 9223372036854775807) (hn : n < 65536) (hl : bs.length + 10 ≤ 140737488355328) :
    Calls Try.prog 25 #[.pointer (some ⟨b, 0, none⟩), .int .u16 n] w fun r w' => r = .returned (.tuple #[]) ∧ Left w w' base b M (wnext M (over, bs) (be2 n)) := by
  cases over with
  | true =>
    refine (wu16_over (n : Int) h).mono ?_
    rintro r w1 ⟨rfl, rfl⟩
    exact ⟨rfl, ⟨v, h⟩, Keeps.refl _ _⟩
  | false =>
    have hlen : (((be2 n).length : Nat) : Int) = 2 := by simp [be2]
    by_cases hr : 2 ≤ M - bs.length
    · refine (wu16_ok n h hbase hn hM hM' hl hr).mono ?_
      rintro r w1 ⟨rfl, h1, k1⟩
      rw [wnext_ok (by omega)]
      exact ⟨rfl, h1, k1⟩
    · refine (wu16_no (n : Int) h hM hM' (by omega)).mono ?_
      rintro r w1 ⟨rfl, h1, k1⟩
      rw [wnext_no (by omega)]
      exact ⟨rfl, ⟨_, h1⟩, k1⟩
theorem wu32_gen (n : Nat) (h : WIs w base b M bs over v) (hbase : base ≤ w.heap.size) (hM : 0 ≤ M) (hM' : M ≤ 9223372036854775807) (hn : n < 4294967296) (hl : bs.length + 10 ≤ 140737488355328) :
    Calls Try.prog 26 #[.pointer (some ⟨b, 0, none⟩), .int .u32 n] w fun r w' => r = .returned (.tuple #[]) ∧ Left w w' base b M (wnext M (over, bs) (be4 n)) := by
  cases over with
  | true =>
    refine (wu32_over (n : Int) h).mono ?_
    rintro r w1 ⟨rfl, rfl⟩
    exact ⟨rfl, ⟨v, h⟩, Keeps.refl _ _⟩
  | false =>
    have hlen : (((be4 n).length : Nat) : Int) = 4 := by simp [be4]
    by_cases hr : 4 ≤ M - bs.length
    · refine (wu32_ok n h hbase hn hM hM' hl hr).mono ?_
      rintro r w1 ⟨rfl, h1, k1⟩
      rw [wnext_ok (by omega)]
      exact ⟨rfl, h1, k1⟩
    · refine (wu32_no (n : Int) h hM hM' (by omega)).mono ?_
      rintro r w1 ⟨rfl, h1, k1⟩
      rw [wnext_no (by omega)]
      exact ⟨rfl, ⟨_, h1⟩, k1⟩
theorem wu64_gen (n : Nat) (h : WIs w base b M bs over v) (hbase : base ≤ w.heap.size) (hM : 0 ≤ M) (hM' : M ≤ 9223372036854775807) (hn : n < 18446744073709551616) (hl : bs.length + 10 ≤ 140737488355328) :
    Calls Try.prog 27 #[.pointer (some ⟨b, 0, none⟩), .int .u64 n] w fun r w' => r = .returned (.tuple #[]) ∧ Left w w' base b M (wnext M (over, bs) (be8 n)) := by
  cases over with
  | true =>
    refine (wu64_over (n : Int) h).mono ?_
    rintro r w1 ⟨rfl, rfl⟩
    exact ⟨rfl, ⟨v, h⟩, Keeps.refl _ _⟩
  | false =>
    have hlen : (((be8 n).length : Nat) : Int) = 8 := by simp [be8]
    by_cases hr : 8 ≤ M - bs.length
    · refine (wu64_ok n h hbase hn hM hM' hl hr).mono ?_
      rintro r w1 ⟨rfl, h1, k1⟩
      rw [wnext_ok (by omega)]
      exact ⟨rfl, h1, k1⟩
    · refine (wu64_no (n : Int) h hM hM' (by omega)).mono ?_
      rintro r w1 ⟨rfl, h1, k1⟩
      rw [wnext_no (by omega)]
      exact ⟨rfl, ⟨_, h1⟩, k1⟩
theorem wvarint_gen (n : Nat) (h : WIs w base b M bs over v) (hbase : base ≤ w.heap.size) (hM : 0 ≤ M) (hM' : M ≤ 9223372036854775807) (hn : n < 18446744073709551616) (hl : bs.length + 10 ≤ 140737488355328) :
    Calls Try.prog 22 #[.pointer (some ⟨b, 0, none⟩), .int .u64 n] w fun r w' => r = .returned (.tuple #[]) ∧ Left w w' base b M (wnext M (over, bs) (varint n)) := by
  cases over with
  | true =>
    refine (wvarint_over n h hn).mono ?_
    rintro r w1 ⟨rfl, rfl⟩
    exact ⟨rfl, ⟨v, h⟩, Keeps.refl _ _⟩
  | false =>
    have hlen : (((varint n).length : Nat) : Int) = ((varint n).length : Int) := rfl
    by_cases hr : ((varint n).length : Int) ≤ M - bs.length
    · refine (wvarint_ok n h hbase hn hM hM' hl hr).mono ?_
      rintro r w1 ⟨rfl, h1, k1⟩
      rw [wnext_ok (by omega)]
      exact ⟨rfl, h1, k1⟩
    · refine (wvarint_no n h hn hM hM' (by omega)).mono ?_
      rintro r w1 ⟨rfl, h1, k1⟩
      rw [wnext_no (by omega)]
      exact ⟨rfl, ⟨_, h1⟩, k1⟩
theorem wraw_gen (s : ByteArray) (h : WIs w base b M bs over v) (hbase : base ≤ w.heap.size) (hM : 0 ≤ M) (hM' : M ≤ 9223372036854775807) (hl : bs.length + s.size ≤ 140737488355328) :
    Calls Try.prog 28 #[.pointer (some ⟨b, 0, none⟩), .string s] w fun r w' => r = .returned (.tuple #[]) ∧ Left w w' base b M (wnext M (over, bs) (s.data.toList)) := by
  cases over with
  | true =>
    refine (wraw_over s h).mono ?_
    rintro r w1 ⟨rfl, rfl⟩
    exact ⟨rfl, ⟨v, h⟩, Keeps.refl _ _⟩
  | false =>
    have hlen : (((s.data.toList).length : Nat) : Int) = (s.size : Int) := by rw [size_list]
    by_cases hr : (s.size : Int) ≤ M - bs.length
    · refine (wraw_ok s h hbase hM hM' hl hr).mono ?_
      rintro r w1 ⟨rfl, h1, k1⟩
      rw [wnext_ok (by omega)]
      exact ⟨rfl, h1, k1⟩
    · refine (wraw_no s h hM hM' (by omega)).mono ?_
      rintro r w1 ⟨rfl, h1, k1⟩
      rw [wnext_no (by omega)]
      exact ⟨rfl, ⟨_, h1⟩, k1⟩
theorem wtext_gen (s : ByteArray) (h : WIs w base b M bs over v) (hbase : base ≤ w.heap.size) (hM : 0 ≤ M) (hM' : M ≤ 9223372036854775807) (hl : bs.length + 10 + s.size ≤ 140737488355328) :
    Calls Try.prog 23 #[.pointer (some ⟨b, 0, none⟩), .string s] w fun r w' => r = .returned (.tuple #[]) ∧ Left w w' base b M (wnext M (over, bs) (textBytes s)) := by
  cases over with
  | true =>
    refine (wtext_over s h (by omega)).mono ?_
    rintro r w1 ⟨rfl, rfl⟩
    exact ⟨rfl, ⟨v, h⟩, Keeps.refl _ _⟩
  | false =>
    have hlen : (((textBytes s).length : Nat) : Int) = ((varint s.size).length : Int) + s.size := by simp only [textBytes, List.length_append]; have := size_list s; omega
    by_cases hr : ((varint s.size).length : Int) + s.size ≤ M - bs.length
    · refine (wtext_ok s h hbase hM hM' hl hr).mono ?_
      rintro r w1 ⟨rfl, h1, k1⟩
      rw [wnext_ok (by omega)]
      exact ⟨rfl, h1, k1⟩
    · refine (wtext_no s h hM hM' (by omega) (by omega)).mono ?_
      rintro r w1 ⟨rfl, h1, k1⟩
      rw [wnext_no (by omega)]
      exact ⟨rfl, ⟨_, h1⟩, k1⟩
theorem writeg_0 (n : Nat) (s : ByteArray) (h : WIs w base b M bs over v) (hbase : base ≤ w.heap.size) (hM : 0 ≤ M) (hM' : M ≤ 9223372036854775807) (hn : n < 18446744073709551616) (hl : bs.length + 10 + s.size ≤ 140737488355328) :
    Calls Try.prog 7 #[.pointer (some ⟨b, 0, none⟩), .agg #[.int .i64 0, .int .u64 n, .string s]] w fun r w' => r = .returned (.tuple #[]) ∧ Left w w' base b M (wnext M (over, bs) (be1 n)) := by
  have HL : Hid _ := hl
  have HN : Hid _ := hn
  clear hl hn
  go_enter Try.func7, Try.ntmps7
  go_wp2_with fail
  first | rw [show IntKind.u8.wrap (n : Int) = ((n % 256 : Nat) : Int) from by rw [IntKind.wrap_u8]; omega] | rw [show (n : Int) % 256 = ((n % 256 : Nat) : Int) from by omega]
  refine (wu8_gen (n % 256) (h.alloc _) (by simp; omega) hM hM' (by omega) (by have := HL.out; omega)).mono ?_
  rintro r w1 ⟨rfl, h1⟩
  rw [be1_mod] at h1
  go_wp2_with fail
  go_end0
  exact ⟨rfl, left_of h1⟩
theorem writeg_1 (n : Nat) (s : ByteArray) (h : WIs w base b M bs over v) (hbase : base ≤ w.heap.size) (hM : 0 ≤ M) (hM' : M ≤ 9223372036854775807) (hn : n < 18446744073709551616) (hl : bs.length + 10 + s.size ≤ 140737488355328) :
    Calls Try.prog 7 #[.pointer (some ⟨b, 0, none⟩), .agg #[.int .i64 1, .int .u64 n, .string s]] w fun r w' => r = .returned (.tuple #[]) ∧ Left w w' base b M (wnext M (over, bs) (be2 n)) := by
  have HL : Hid _ := hl
  have HN : Hid _ := hn
  clear hl hn
  go_enter Try.func7, Try.ntmps7
  go_wp2_with fail
  first | rw [show IntKind.u16.wrap (n : Int) = ((n % 65536 : Nat) : Int) from by rw [IntKind.wrap_u16]; omega] | rw [show (n : Int) % 65536 = ((n % 65536 : Nat) : Int) from by omega]
  refine (wu16_gen (n % 65536) (h.alloc _) (by simp; omega) hM hM' (by omega) (by have := HL.out; omega)).mono ?_
  rintro r w1 ⟨rfl, h1⟩
  rw [be2_mod] at h1
  go_wp2_with fail
  go_end0
  exact ⟨rfl, left_of h1⟩
theorem writeg_2 (n : Nat) (s : ByteArray) (h : WIs w base b M bs over v) (hbase : base ≤ w.heap.size) (hM : 0 ≤ M) (hM' : M ≤ 9223372036854775807) (hn : n < 18446744073709551616) (hl : bs.length + 10 + s.size ≤ 140737488355328) :
    Calls Try.prog 7 #[.pointer (some ⟨b, 0, none⟩), .agg #[.int .i64 2, .int .u64 n, .string s]] w fun r w' => r = .returned (.tuple #[]) ∧ Left w w' base b M (wnext M (over, bs) (be4 n)) := by
  have HL : Hid _ := hl
  have HN : Hid _ := hn
  clear hl hn
  go_enter Try.func7, Try.ntmps7
  go_wp2_with fail
  first | rw [show IntKind.u32.wrap (n : Int) = ((n % 4294967296 : Nat) : Int) from by rw [IntKind.wrap_u32]; omega] | rw [show (n : Int) % 4294967296 = ((n % 4294967296 : Nat) : Int) from by omega]
  refine (wu32_gen (n % 4294967296) (h.alloc _) (by simp; omega) hM hM' (by omega) (by have := HL.out; omega)).mono ?_
  rintro r w1 ⟨rfl, h1⟩
  rw [be4_mod] at h1
  go_wp2_with fail
  go_end0
  exact ⟨rfl, left_of h1⟩
theorem writeg_3 (n : Nat) (s : ByteArray) (h : WIs w base b M bs over v) (hbase : base ≤ w.heap.size) (hM : 0 ≤ M) (hM' : M ≤ 9223372036854775807) (hn : n < 18446744073709551616) (hl : bs.length + 10 + s.size ≤ 140737488355328) :
    Calls Try.prog 7 #[.pointer (some ⟨b, 0, none⟩), .agg #[.int .i64 3, .int .u64 n, .string s]] w fun r w' => r = .returned (.tuple #[]) ∧ Left w w' base b M (wnext M (over, bs) (be8 n)) := by
  have HL : Hid _ := hl
  have HN : Hid _ := hn
  clear hl hn
  go_enter Try.func7, Try.ntmps7
  go_wp2_with fail
  refine (wu64_gen n (h.alloc _) (by simp; omega) hM hM' HN.out (by have := HL.out; omega)).mono ?_
  rintro r w1 ⟨rfl, h1⟩
  go_wp2_with fail
  go_end0
  exact ⟨rfl, left_of h1⟩
theorem writeg_4 (n : Nat) (s : ByteArray) (h : WIs w base b M bs over v) (hbase : base ≤ w.heap.size) (hM : 0 ≤ M) (hM' : M ≤ 9223372036854775807) (hn : n < 18446744073709551616) (hl : bs.length + 10 + s.size ≤ 140737488355328) :
    Calls Try.prog 7 #[.pointer (some ⟨b, 0, none⟩), .agg #[.int .i64 4, .int .u64 n, .string s]] w fun r w' => r = .returned (.tuple #[]) ∧ Left w w' base b M (wnext M (over, bs) (varint n)) := by
  have HL : Hid _ := hl
  have HN : Hid _ := hn
  clear hl hn
  go_enter Try.func7, Try.ntmps7
  go_wp2_with fail
  refine (wvarint_gen n (h.alloc _) (by simp; omega) hM hM' HN.out (by have := HL.out; omega)).mono ?_
  rintro r w1 ⟨rfl, h1⟩
  go_wp2_with fail
  go_end0
  exact ⟨rfl, left_of h1⟩
theorem writeg_5 (n : Nat) (s : ByteArray) (h : WIs w base b M bs over v) (hbase : base ≤ w.heap.size) (hM : 0 ≤ M) (hM' : M ≤ 9223372036854775807) (hn : n < 18446744073709551616) (hl : bs.length + 10 + s.size ≤ 140737488355328) :
    Calls Try.prog 7 #[.pointer (some ⟨b, 0, none⟩), .agg #[.int .i64 5, .int .u64 n, .string s]] w fun r w' => r = .returned (.tuple #[]) ∧ Left w w' base b M (wnext M (over, bs) (textBytes s)) := by
  have HL : Hid _ := hl
  have HN : Hid _ := hn
  clear hl hn
  go_enter Try.func7, Try.ntmps7
  go_wp2_with fail
  refine (wtext_gen s (h.alloc _) (by simp; omega) hM hM' (by have := HL.out; omega)).mono ?_
  rintro r w1 ⟨rfl, h1⟩
  go_wp2_with fail
  go_end0
  exact ⟨rfl, left_of h1⟩
theorem writeg_6 (n : Nat) (s : ByteArray) (h : WIs w base b M bs over v) (hbase : base ≤ w.heap.size) (hM : 0 ≤ M) (hM' : M ≤ 9223372036854775807) (hn : n < 18446744073709551616) (hl : bs.length + 10 + s.size ≤ 140737488355328) :
    Calls Try.prog 7 #[.pointer (some ⟨b, 0, none⟩), .agg #[.int .i64 6, .int .u64 n, .string s]] w fun r w' => r = .returned (.tuple #[]) ∧ Left w w' base b M (wnext M (over, bs) (s.data.toList)) := by
  have HL : Hid _ := hl
  have HN : Hid _ := hn
  clear hl hn
  go_enter Try.func7, Try.ntmps7
  go_wp2_with fail
  refine (wraw_gen s (h.alloc _) (by simp; omega) hM hM' (by have := HL.out; omega)).mono ?_
  rintro r w1 ⟨rfl, h1⟩
  go_wp2_with fail
  go_end0
  exact ⟨rfl, left_of h1⟩
theorem writeg_look (kd : Int) (n : Nat) (s : ByteArray) (h : WIs w base b M bs over v)
    (h0 : (kd == 0) = false) (h1 : (kd == 1) = false) (h2 : (kd == 2) = false) (h3 : (kd == 3) = false) (h4 : (kd == 4) = false) (h5 : (kd == 5) = false) (h6 : (kd == 6) = false) :
    Calls Try.prog 7 #[.pointer (some ⟨b, 0, none⟩), .agg #[.int .i64 kd, .int .u64 n, .string s]] w fun r w' => r = .returned (.tuple #[]) ∧ Left w w' base b M (over, bs) := by
  go_enter Try.func7, Try.ntmps7
  go_wp2_with fail
  go_end0
  exact ⟨rfl, ⟨v, h.alloc _⟩, (Keeps.refl _ w).alloc _⟩
theorem writeg_any (kd : Int) (n : Nat) (s : ByteArray) (hroom : over = false → (bs.length : Int) ≤ M) (h : WIs w base b M bs over v) (hbase : base ≤ w.heap.size) (hM : 0 ≤ M) (hM' : M ≤ 9223372036854775807) (hn : n < 18446744073709551616) (hl : bs.length + 10 + s.size ≤ 140737488355328) :
    Calls Try.prog 7 #[.pointer (some ⟨b, 0, none⟩), .agg #[.int .i64 kd, .int .u64 n, .string s]] w fun r w' => r = .returned (.tuple #[]) ∧ Left w w' base b M (wnext M (over, bs) (opBytes kd n s)) := by
  by_cases h0 : kd = 0
  · subst h0; exact writeg_0 n s h hbase hM hM' hn hl
  by_cases h1 : kd = 1
  · subst h1; exact writeg_1 n s h hbase hM hM' hn hl
  by_cases h2 : kd = 2
  · subst h2; exact writeg_2 n s h hbase hM hM' hn hl
  by_cases h3 : kd = 3
  · subst h3; exact writeg_3 n s h hbase hM hM' hn hl
  by_cases h4 : kd = 4
  · subst h4; exact writeg_4 n s h hbase hM hM' hn hl
  by_cases h5 : kd = 5
  · subst h5; exact writeg_5 n s h hbase hM hM' hn hl
  by_cases h6 : kd = 6
  · subst h6; exact writeg_6 n s h hbase hM hM' hn hl
  rw [show opBytes kd n s = [] by simp [opBytes, h0, h1, h2, h3, h4, h5, h6], show wnext M (over, bs) [] = (over, bs) by
    cases over with
    | true => rfl
    | false => rw [wnext_ok (by have := hroom rfl; simp; omega)]; simp]
  exact writeg_look kd n s h (by simpa using h0) (by simpa using h1) (by simpa using h2) (by simpa using h3) (by simpa using h4) (by simpa using h5) (by simpa using h6)
end
end Go.Proofs.Ytjfoljbjkaahlaa
