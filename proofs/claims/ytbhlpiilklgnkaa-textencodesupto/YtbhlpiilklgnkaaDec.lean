/-
  A text's first rune, and how many runes it has: the contracts of Decode and Count.
-/
import Derived.Test.YtbhlpiilklgnkaaRunes
namespace Go.Proofs.Ytbhlpiilklgnkaa
open Go.RowKit
theorem get_byte (s : ByteArray) (i : Nat) : s.get! i = s.data.toList.getD i 0 := by
  by_cases h : i < s.size
  · rw [List.getD_eq_getElem?_getD, List.getElem?_eq_getElem (by simpa using h)]
    simp [ByteArray.get!, getElem!_pos, h]
  · rw [List.getD_eq_getElem?_getD, List.getElem?_eq_none (by simpa using h)]
    simp [ByteArray.get!, h]
    rfl
theorem tail_list (s : ByteArray) (k : Nat) : (s.extract k s.size).data.toList = s.data.toList.drop k := by
  rw [ByteArray.data_extract, Array.toList_extract]
  simp [List.take_of_length_le]
theorem tail_size (s : ByteArray) (k : Nat) : (s.extract k s.size).size = s.size - k := by simp
theorem tail_get (s : ByteArray) (k j : Nat) : (s.extract k s.size).get! j = s.get! (k + j) := by
  rw [get_byte, get_byte, tail_list]
  simp [List.getD_eq_getElem?_getD]
theorem decode_tail (s : ByteArray) (k : Nat) : Utf8.decode (s.extract k s.size) 0 = Utf8.decode s k := by
  have c : ∀ j, (j < s.size - k) = (k + j < s.size) := fun j => propext (by omega)
  simp only [Utf8.decode, tail_get, tail_size, c, Nat.zero_add]
theorem decode_width (s : ByteArray) (k : Nat) (h : k < s.size) : k + (Utf8.decode s k).2 ≤ s.size ∧ (Utf8.decode s k).2 ≤ 4 := by
  simp only [Utf8.decode]
  repeat' split
  all_goals simp_all
  all_goals omega
set_option maxRecDepth 20000 in
set_option maxHeartbeats 2000000 in
theorem decode_any (s : ByteArray) (w : World) (h0 : 0 < s.size) : Calls Try.prog 8 #[.string s] w fun e w' => e = .returned (.tuple #[.int .i32 ((Utf8.decode s 0).1 : Nat), .int .i64 ((Utf8.decode s 0).2 : Nat)]) ∧ Below w.heap.size w w' := by
  have hwd := width_pos s 0 h0
  have hwl := (decode_width s 0 h0).1
  have hnx : ∀ ty, (Instr.next (.pointer (some ⟨w.heap.size, 0, none⟩)) true ty).run Try.prog (w.iter s 0) = _ := fun ty => run_next_any w s 0 ty h0
  have HD : Hid (∀ r d : Nat, (Utf8.decode s 0).1 = r → (Utf8.decode s 0).2 = d → d < s.size → ∀ ty, ∃ x W, (Instr.next (.pointer (some ⟨w.heap.size, 0, none⟩)) true ty).run Try.prog (w.iter s d) = .ok (.tuple #[.bool true, .int .i64 d, .int .i32 x]) W ∧ Below w.heap.size w W) := fun r d _ _ hd ty => ⟨_, _, run_next_any w s d ty hd, (Below.refl _ w).alloc (Nat.le_refl _) _⟩
  obtain ⟨d, hd⟩ : ∃ d, (Utf8.decode s 0).2 = d := ⟨_, rfl⟩
  obtain ⟨r, hr⟩ : ∃ r, (Utf8.decode s 0).1 = r := ⟨_, rfl⟩
  have HE := HD.out r d hr hd
  have HEE : Hid _ := HE
  rw [hd, Nat.zero_add] at hnx hwl
  rw [hr] at hnx
  rw [hd] at hwd
  rw [hd, hr]
  clear hd hr HD HE
  have hB : ∀ p, Below w.heap.size w (w.iter s p) := fun p => (Below.refl _ w).alloc (Nat.le_refl _) _
  have HB : Hid _ := hB
  clear hB
  go_enter Try.func8, Try.ntmps8
  go_wp2
  go_loopw [2] (fun v wr => (v = .int .i32 0 ∧ wr = w.iter s 0) ∨ (v = .int .i32 (r : Nat) ∧ wr = w.iter s d)) (fun _ wr => s.size - wr.iterPos w.heap.size)
  case atStart => exact Or.inl ⟨rfl, rfl⟩
  case round =>
    rcases hrel with ⟨rfl, rfl⟩ | ⟨rfl, rfl⟩
    · go_wp2
      go_roundw
      case rel => exact Or.inr ⟨by first | rfl | trivial, by first | rfl | trivial⟩
      case measure => simp; omega
    · by_cases hlt : d < s.size
      · have hnd := HEE.out hlt
        obtain ⟨x, W, hn, hb⟩ := hnd 0
        have hn' : ∀ ty, (Instr.next (.pointer (some ⟨w.heap.size, 0, none⟩)) true ty).run Try.prog (w.iter s d) = .ok (.tuple #[.bool true, .int .i64 d, .int .i32 x]) W := fun ty => hn
        have hd0 : (0 : Int) < (d : Int) := by omega
        clear hn hnd
        go_wp2
        go_ret2
        exact ⟨rfl, hb⟩
      · have hn' : ∀ ty, (Instr.next (.pointer (some ⟨w.heap.size, 0, none⟩)) true ty).run Try.prog (w.iter s d) = _ := fun ty => run_next_end w s d ty hlt
        have hde : d = s.size := by omega
        subst hde
        go_wp2
        go_ret2
        exact ⟨rfl, HB.out _⟩
set_option maxRecDepth 20000 in
set_option maxHeartbeats 2000000 in
theorem count_any (s : ByteArray) (w : World) (hs : s.size ≤ 140737488355328) : Calls Try.prog 16 #[.string s] w fun e w' => e = .returned (.int .i64 ((runesOf s).length : Nat)) ∧ Below w.heap.size w w' := by
  obtain ⟨R, hR⟩ : ∃ R, (runesOf s).length = R := ⟨_, rfl⟩
  have HR : Hid _ := hR
  rw [hR]
  clear hR
  go_enter Try.func16, Try.ntmps16
  go_wp2
  go_loopw [3] (fun n w' => ∃ (pos b acc : Nat), w' = w.iter s pos ∧ n = .int .i64 acc ∧ Hid (acc + (runesF s b pos).length = R) ∧ Hid (s.size ≤ pos + b) ∧ acc ≤ pos) (fun _ w' => s.size - w'.iterPos w.heap.size)
  case atStart => exact ⟨0, s.size, 0, rfl, rfl, by have := HR.out; rw [Hid]; rw [runesOf] at this; omega, by rw [Hid]; omega, Nat.le_refl _⟩
  case round =>
    obtain ⟨pos, b, acc, rfl, rfl, HC, HB, ha⟩ := hrel
    by_cases hp : pos < s.size
    · have hnx : ∀ ty, (Instr.next (.pointer (some ⟨w.heap.size, 0, none⟩)) true ty).run Try.prog (w.iter s pos) = _ := fun ty => run_next_any w s pos ty hp
      have hwd := width_pos s pos hp
      go_wp2
      go_roundw
      case rel =>
        obtain ⟨b, rfl⟩ : ∃ b', b = b' + 1 := ⟨b - 1, by have := HB.out; omega⟩
        have h1 := HC.out
        have h2 := HB.out
        rw [runesF_next b hp, List.length_cons] at h1
        exact ⟨pos + (Utf8.decode s pos).2, b, acc + 1, rfl, by go_num, by rw [Hid]; omega, by rw [Hid]; omega, by omega⟩
      case measure =>
        simp
        omega
    · have hnx : ∀ ty, (Instr.next (.pointer (some ⟨w.heap.size, 0, none⟩)) true ty).run Try.prog (w.iter s pos) = _ := fun ty => run_next_end w s pos ty hp
      have HE : Hid (acc = R) := by
        have := HC.out
        rw [runesF_end b hp, List.length_nil] at this
        rw [Hid]
        omega
      go_wp2
      go_ret
      exact ⟨by rw [← HE.out]; rfl, (Below.refl _ w).alloc (Nat.le_refl _) _⟩
end Go.Proofs.Ytbhlpiilklgnkaa
