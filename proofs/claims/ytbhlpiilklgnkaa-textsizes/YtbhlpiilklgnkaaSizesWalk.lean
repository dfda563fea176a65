/-
  The walk of TextSizes: the sizes that Decode tells come to the text, and are as many as Count tells.
-/
import Derived.Test.YtbhlpiilklgnkaaLives
import Derived.Test.YtbhlpiilklgnkaaDec
namespace Go.Proofs.Ytbhlpiilklgnkaa
open Go.RowKit
set_option maxRecDepth 20000 in
set_option maxHeartbeats 4000000 in
theorem sizes_walk (s : ByteArray) (hs : s.size ≤ 140737488355328) (w : World) : Calls Try.prog 6 #[.string s] w fun e w' => e = .returned (.bool true) ∧ Below w.heap.size w w' := by
  have H3 : Hid (∀ W : World, _) := fun W => lives_any W
  have H4 : Hid (∀ W : World, _) := fun W => count_any s W hs
  go_enter Try.func6, Try.ntmps6
  go_wp2_with fail
  refine (H3.out _).mono ?_
  rintro e w1 ⟨rfl, b1⟩
  go_wp2_with fail
  go_loopw [3, 4] (fun i n wr => ∃ (pos b acc : Nat), i = .int .i64 (pos : Nat) ∧ n = .int .i64 (acc : Nat) ∧ Below w.heap.size w wr ∧ Hid (acc + (runesF s b pos).length = (runesOf s).length) ∧ Hid (s.size ≤ pos + b) ∧ acc ≤ pos ∧ pos ≤ s.size) (fun i _ _ => s.size - (intOf i).toNat)
  case atStart => exact ⟨0, s.size, 0, rfl, rfl, b1, by rw [Hid, runesOf]; omega, by rw [Hid]; omega, Nat.le_refl _, Nat.zero_le _⟩
  case round =>
    clear b1
    obtain ⟨pos, b, acc, rfl, rfl, hb, HC, HB, ha, hps⟩ := hrel
    by_cases hp : pos < s.size
    · have H1 : Hid (∀ W : World, _) := fun W => decode_any (s.extract pos s.size) W (by rw [tail_size]; omega)
      rw [decode_tail] at H1
      have hwd := width_pos s pos hp
      obtain ⟨hw1, hw2⟩ := decode_width s pos hp
      obtain ⟨f, rfl⟩ : ∃ f, b = f + 1 := ⟨b - 1, by have := HB.out; omega⟩
      have HC2 : Hid (acc + 1 + (runesF s f (pos + (Utf8.decode s pos).2)).length = (runesOf s).length) := by
        have h1 := HC.out
        rw [runesF_next f hp, List.length_cons] at h1
        rw [Hid]
        omega
      have HB2 : Hid (s.size ≤ pos + (Utf8.decode s pos).2 + f) := by have := HB.out; rw [Hid]; omega
      obtain ⟨d, hd⟩ : ∃ d, (Utf8.decode s pos).2 = d := ⟨_, rfl⟩
      obtain ⟨r, hr⟩ : ∃ r, (Utf8.decode s pos).1 = r := ⟨_, rfl⟩
      rw [hd] at hwd hw1 hw2 HC2 HB2 H1
      rw [hr] at H1
      have q1 : ¬ (d : Int) < 1 := by omega
      have q2 : ¬ (4 : Int) < (d : Int) := by omega
      have q3 : ¬ (s.size : Int) < (pos : Int) + (d : Int) := by omega
      clear hd hr HC HB
      go_wp2_with fail
      refine (H1.out _).mono ?_
      rintro e w2 ⟨rfl, b2⟩
      have B2 := hb.trans (b2.mono hb.size)
      go_wp2_with fail
      go_roundw
      case rel => exact ⟨pos + d, f, acc + 1, val_int (by omega), by go_num, B2, HC2.out, HB2.out, by omega, by omega⟩
      case measure => simp [intOf]; omega
    · have HE : Hid (acc = (runesOf s).length) := by
        have := HC.out
        rw [runesF_end b hp, List.length_nil] at this
        rw [Hid]
        omega
      have hp' : ¬ (pos : Int) < (s.size : Int) := by omega
      go_wp2_with fail
      rw [← HE.out] at H4
      refine (H4.out _).mono ?_
      rintro e w2 ⟨rfl, b2⟩
      have B2 := hb.trans (b2.mono hb.size)
      go_wp2_with fail
      go_ret
      exact ⟨rfl, B2⟩
end Go.Proofs.Ytbhlpiilklgnkaa
