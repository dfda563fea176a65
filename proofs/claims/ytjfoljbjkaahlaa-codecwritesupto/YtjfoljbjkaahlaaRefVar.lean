/-
  The contracts of the twin's Varint and Text, and of the statement's bytes.
-/
import Derived.Test.YtjfoljbjkaahlaaNumber
namespace Go.Proofs.Ytjfoljbjkaahlaa
open Go.RowKit
set_option maxRecDepth 100000 in
set_option maxHeartbeats 4000000 in
theorem rvarint (n : Nat) (w : World) (hn : n < 18446744073709551616) :
    Calls Try.prog 39 #[.int .u64 n] w fun r w' => r = .returned (.string ⟨(varint n).toArray⟩) ∧ Below w.heap.size w w' := by
  obtain ⟨i0, hi, hz0, hz1, hz2⟩ := info_parts Try.info5
  have HN : Hid ((varint n).length ≤ 10) := varint_le n hn
  go_enter Try.func39, Try.ntmps39
  go_wp2
  go_loopw [0, 3] (fun x v wr => ∃ m : Nat, ∃ cur, x = .int .u64 m ∧ m < 18446744073709551616 ∧ Hid (cur ++ varint m = varint n) ∧ Hid (cur.length ≤ 10) ∧ wr.ownsRow w.heap.size 5 1 v cur.length (cellsOf cur) ∧ Below w.heap.size w wr) (fun x _ _ => (intOf x).toNat)
  case atStart => exact ⟨n, [], rfl, hn, rfl, Nat.zero_le _, World.ownsRow_nil _ _ _ _, Below.refl _ _⟩
  case round =>
    obtain ⟨m, cur, rfl, hm, HC, HL, hown, hb⟩ := hrel
    have hsz := hb.size
    obtain ⟨a, cap, rfl⟩ := form_of_row hown
    by_cases hlt : m < 128
    · have e0 : Hid ((m : Int) = ((UInt8.ofNat m).toNat : Int)) := by rw [Hid, ofNat_toNat (by omega)]
      have HV : Hid (cur ++ [UInt8.ofNat m] = varint n) := by rw [Hid, ← HC.out, varint_small hlt]
      go_wp2_with (at_builtin; refine wpList_append_own _ rfl (.tmp 15) (.tmp 18) 48 rfl w.heap.size 5 i0 (.int .u8 0) 1 1 Try.underlying48 hi hz0 hz1 hz2 rfl (by decide) _ _ _ rfl (hown.alloc _) ⟨wr.heap.size, 0, none⟩ 1 1 [.int .u8 (m : Int)] rfl rfl (one_cell _ _ _) (one_one _) (one_bound (by have := HL.out; omega)) (by have := HL.out; omega) (by simp; omega) ?_)
      intro v1 w1 hown1 hgrow _
      have HR : w1.ownsRow w.heap.size 5 1 v1 (varint n).length (cellsOf (varint n)) := by
        rw [← HV.out, cellsOf_append, snoc_len rfl]
        rw [show cellsOf [UInt8.ofNat m] = [Value.int .u8 (m : Int)] from by rw [e0.out]; rfl]
        exact hown1
      clear hown1
      obtain ⟨a1, cap1, rfl⟩ := form_of_row HR
      have HB : Hid (Below w.heap.size w w1) := (hb.alloc hsz _).grown hgrow (by simp; omega) (fun i hi => (hown.lt i hi).1)
      have hc := conv_row HR
      clear hgrow hown
      go_wp2_with fail
      go_ret
      exact ⟨rfl, HB.out⟩
    · have e0 : Hid ((m : Int) % 128 + 128 = ((UInt8.ofNat (m % 128 + 128)).toNat : Int)) := by rw [Hid, ofNat_toNat (by omega)]; omega
      have HV : Hid ((cur ++ [UInt8.ofNat (m % 128 + 128)]) ++ varint (m / 128) = varint n) := by rw [Hid, ← HC.out, varint_big hlt, List.append_assoc]; rfl
      have HL2 : Hid (cur.length + 1 ≤ 10) := by
        have e := congrArg List.length HV.out
        have := HN.out
        have := varint_pos (m / 128)
        simp only [List.length_append, List.length_cons, List.length_nil] at e
        show _ ≤ _
        omega
      go_wp2_with (at_builtin; refine wpList_append_own _ rfl (.tmp 6) (.tmp 11) 48 rfl w.heap.size 5 i0 (.int .u8 0) 1 1 Try.underlying48 hi hz0 hz1 hz2 rfl (by decide) _ _ _ rfl (hown.alloc _) ⟨wr.heap.size, 0, none⟩ 1 1 [.int .u8 ((m : Int) % 128 + 128)] rfl rfl (one_cell _ _ _) (one_one _) (one_bound (by have := HL.out; omega)) (by have := HL.out; omega) (by simp; omega) ?_)
      intro v1 w1 hown1 hgrow _
      have HR : Hid (w1.ownsRow w.heap.size 5 1 v1 (cur ++ [UInt8.ofNat (m % 128 + 128)]).length (cellsOf (cur ++ [UInt8.ofNat (m % 128 + 128)]))) := by
        rw [Hid, cellsOf_append, snoc_len rfl]
        rw [show cellsOf [UInt8.ofNat (m % 128 + 128)] = [Value.int .u8 ((m : Int) % 128 + 128)] from by rw [e0.out]; rfl]
        exact hown1
      obtain ⟨a1, cap1, rfl⟩ := form_of_row hown1
      have HB : Hid (Below w.heap.size w w1) := (hb.alloc hsz _).grown hgrow (by simp; omega) (fun i hi => (hown.lt i hi).1)
      clear hown1 hgrow hown
      go_wp2_with fail
      go_roundw
      case rel => exact ⟨m / 128, _, by simp, by omega, HV.out, by rw [Hid, snoc_len rfl]; exact HL2.out, HR.out, HB.out⟩
      case measure => simp [intOf]; omega
theorem rtext (s : ByteArray) (w : World) (hs : s.size ≤ 140737488355328) :
    Calls Try.prog 40 #[.string s] w fun r w' => r = .returned (.string ⟨(textBytes s).toArray⟩) ∧ Below w.heap.size w w' := by
  obtain ⟨T, hT⟩ : ∃ T : ByteArray, T = ⟨(varint s.size).toArray⟩ := ⟨_, rfl⟩
  have hTs : T.size ≤ 10 := by rw [hT, size_mk]; exact varint_le s.size (by omega)
  have HE : Hid (T ++ s = ⟨(textBytes s).toArray⟩) := by
    apply bytes_ext'
    rw [ByteArray.data_append, Array.toList_append, hT]
    rfl
  have HP : Hid (∀ w : World, Calls Try.prog 39 #[.int .u64 (s.size : Int)] w fun r w' => r = .returned (.string T) ∧ Below w.heap.size w w') := by
    rw [Hid, hT]; exact fun w => rvarint s.size w (by omega)
  clear hT
  go_enter Try.func40, Try.ntmps40
  go_wp2_with fail
  refine (HP.out _).mono ?_
  rintro r1 w1 ⟨rfl, B1⟩
  go_wp2_with fail
  go_ret
  exact ⟨by rw [HE.out]; rfl, B1⟩
set_option maxRecDepth 100000 in
set_option maxHeartbeats 2000000 in
theorem bytes_any (kd : Int) (n : Nat) (s : ByteArray) (w : World) (hn : n < 18446744073709551616) (hs : s.size ≤ 140737488355328) :
    Calls Try.prog 19 #[.agg #[.int .i64 kd, .int .u64 n, .string s]] w fun r w' => r = .returned (.string ⟨(opBytes kd n s).toArray⟩) ∧ Below w.heap.size w w' := by
  have lift : ∀ {w1 : World} {o : Obj}, Below (w.alloc o).heap.size (w.alloc o) w1 → Below w.heap.size w w1 := fun {w1 o} h =>
    ((Below.refl w.heap.size w).alloc (Nat.le_refl _) o).trans (h.mono (by simp))
  by_cases h0 : kd = 0
  · subst h0
    go_enter Try.func19, Try.ntmps19
    go_wp2_with fail
    refine (number1 n _ hn).mono ?_
    rintro r1 w1 ⟨rfl, B1⟩
    go_wp2_with fail
    go_ret
    exact ⟨rfl, lift B1⟩
  by_cases h1 : kd = 1
  · subst h1
    go_enter Try.func19, Try.ntmps19
    go_wp2_with fail
    refine (number2 n _ hn).mono ?_
    rintro r1 w1 ⟨rfl, B1⟩
    go_wp2_with fail
    go_ret
    exact ⟨rfl, lift B1⟩
  by_cases h2 : kd = 2
  · subst h2
    go_enter Try.func19, Try.ntmps19
    go_wp2_with fail
    refine (number4 n _ hn).mono ?_
    rintro r1 w1 ⟨rfl, B1⟩
    go_wp2_with fail
    go_ret
    exact ⟨rfl, lift B1⟩
  by_cases h3 : kd = 3
  · subst h3
    go_enter Try.func19, Try.ntmps19
    go_wp2_with fail
    refine (number8 n _ hn).mono ?_
    rintro r1 w1 ⟨rfl, B1⟩
    go_wp2_with fail
    go_ret
    exact ⟨rfl, lift B1⟩
  by_cases h4 : kd = 4
  · subst h4
    go_enter Try.func19, Try.ntmps19
    go_wp2_with fail
    refine (rvarint n _ hn).mono ?_
    rintro r1 w1 ⟨rfl, B1⟩
    go_wp2_with fail
    go_ret
    exact ⟨rfl, lift B1⟩
  by_cases h5 : kd = 5
  · subst h5
    go_enter Try.func19, Try.ntmps19
    go_wp2_with fail
    refine (rtext s _ hs).mono ?_
    rintro r1 w1 ⟨rfl, B1⟩
    go_wp2_with fail
    go_ret
    exact ⟨rfl, lift B1⟩
  by_cases h6 : kd = 6
  · subst h6
    go_enter Try.func19, Try.ntmps19
    go_wp2_with fail
    go_ret
    exact ⟨rfl, (Below.refl w.heap.size w).alloc (Nat.le_refl _) _⟩
  rw [show opBytes kd n s = [] by simp [opBytes, h0, h1, h2, h3, h4, h5, h6]]
  have g0 : (kd == 0) = false := by simpa using h0
  have g1 : (kd == 1) = false := by simpa using h1
  have g2 : (kd == 2) = false := by simpa using h2
  have g3 : (kd == 3) = false := by simpa using h3
  have g4 : (kd == 4) = false := by simpa using h4
  have g5 : (kd == 5) = false := by simpa using h5
  have g6 : (kd == 6) = false := by simpa using h6
  clear h0 h1 h2 h3 h4 h5 h6
  go_enter Try.func19, Try.ntmps19
  go_wp2_with fail
  go_ret
  exact ⟨rfl, (Below.refl w.heap.size w).alloc (Nat.le_refl _) _⟩
end Go.Proofs.Ytjfoljbjkaahlaa
