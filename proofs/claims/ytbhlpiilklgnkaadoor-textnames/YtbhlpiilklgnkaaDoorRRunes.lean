/-
  The contracts of the twin's Runes, Valid and Count; of both Decodes at the empty text.
-/
import Derived.Test.YtbhlpiilklgnkaaDoorRDec
import Derived.Test.YtbhlpiilklgnkaaDoorVal
namespace Go.Proofs.YtbhlpiilklgnkaaDoor
open Go.RowKit
/-- How long the text in a slot is. -/
def strOf : Value → Nat | .string t => t.size | _ => 0
theorem tail_tail (s : ByteArray) (p n : Nat) : (s.extract p s.size).extract n (s.extract p s.size).size = s.extract (p + n) s.size := by
  apply ByteArray.ext
  apply Array.toList_inj.1
  rw [tail_list, tail_list, tail_list, List.drop_drop]
theorem tail_zero (s : ByteArray) : s.extract 0 s.size = s := by
  apply ByteArray.ext
  apply Array.toList_inj.1
  rw [tail_list]
  rfl
theorem tail_ne {t : ByteArray} (h : 0 < t.size) : t.toList.isEmpty = false := by
  rw [ByteArray.toList_eq]
  cases hq : t.data.toList with
  | nil => have : t.data.toList.length = t.size := by simp
           rw [hq] at this
           simp at this
           omega
  | cons _ _ => rfl
theorem tail_eq {t : ByteArray} (h : t.size = 0) : t.toList.isEmpty = true := by
  rw [ByteArray.toList_eq]
  have : t.data.toList.length = 0 := by simpa using h
  rw [List.eq_nil_of_length_eq_zero this]
  rfl
set_option maxRecDepth 20000 in
theorem rdecode_nil (w : World) : Calls Tryd.prog 32 #[.string ⟨#[]⟩] w fun e w' => e = .returned (.tuple #[.int .i32 0, .int .i64 0]) ∧ w' = w := by
  go_enter Tryd.func32, Tryd.ntmps32
  go_wp2_with fail
  go_ret2
  exact ⟨rfl, rfl⟩
set_option maxRecDepth 20000 in
set_option maxHeartbeats 2000000 in
theorem rvalid_any (s : ByteArray) (w : World) (hs : s.size ≤ 140737488355328) : Calls Tryd.prog 19 #[.string s] w fun e w' => e = .returned (.bool (validB s)) ∧ Below w.heap.size w w' := by
  obtain ⟨V, hV⟩ : ∃ V, validB s = V := ⟨_, rfl⟩
  have HV : Hid _ := hV
  rw [hV]
  clear hV
  go_enter Tryd.func19, Tryd.ntmps19
  go_wp2_with fail
  go_loopw [0] (fun v wr => ∃ (pos b : Nat) (t : ByteArray), v = .string t ∧ Hid (t = s.extract pos s.size) ∧ Below w.heap.size w wr ∧ Hid (validF s b pos = V) ∧ Hid (s.size ≤ pos + b) ∧ Hid (pos ≤ s.size)) (fun v _ => strOf v)
  case atStart => exact ⟨0, s.size, s, rfl, (tail_zero s).symm, Below.refl _ _, HV.out, by rw [Hid]; omega, Nat.zero_le _⟩
  case round =>
    obtain ⟨pos, b, t, rfl, HT, hb, HC, HB, HP⟩ := hrel
    have hts : t.size = s.size - pos := by rw [HT.out, tail_size]
    have HTS : Hid _ := hts
    clear hts
    by_cases hp : pos < s.size
    · have htp : 0 < t.size := by have := HTS.out; omega
      have htl : t.size ≤ 140737488355328 := by have := HTS.out; omega
      have hne := tail_ne htp
      have hwd := width_pos s pos hp
      obtain ⟨hw1, hw2⟩ := decode_width s pos hp
      have H1 : Hid (∀ W : World, _) := fun W => rdecode_any t W htp htl
      have hdt : Utf8.decode t 0 = Utf8.decode s pos := by rw [HT.out, decode_tail]
      rw [hdt] at H1
      obtain ⟨f, rfl⟩ : ∃ f, b = f + 1 := ⟨b - 1, by have := HB.out; omega⟩
      have HX : Hid (t.extract (Utf8.decode s pos).2 t.size = s.extract (pos + (Utf8.decode s pos).2) s.size) := by
        rw [Hid, HT.out]; exact tail_tail s pos _
      have HBAD : Hid (Utf8.decode s pos = (65533, 1) → V = false) := fun hd => by rw [← HC.out]; exact validF_bad f hp hd
      have HNXT : Hid (¬ Utf8.decode s pos = (65533, 1) → validF s f (pos + (Utf8.decode s pos).2) = V) := fun hd => by rw [← HC.out]; exact (validF_next f hp hd).symm
      have HB2 : Hid (s.size ≤ pos + (Utf8.decode s pos).2 + f) := by have := HB.out; rw [Hid]; omega
      generalize Utf8.decode s pos = D at *
      obtain ⟨r, d⟩ := D
      simp only at hwd hw1 hw2 H1 HX HNXT HB2
      have hdz : (0 : Int) ≤ (d : Int) := by omega
      have hdt2 : d ≤ t.size := by have := HTS.out; omega
      have hdz2 : (d : Int) ≤ (t.size : Int) := by omega
      clear hdt HC HB HT
      by_cases hr : r = 65533
      · subst hr
        by_cases hd1 : d = 1
        · subst hd1
          have HE : Hid (V = false) := HBAD.out rfl
          go_wp2_with fail
          refine (H1.out _).mono ?_
          rintro e w2 ⟨rfl, b2⟩
          have B2 := hb.trans (b2.mono hb.size)
          clear b2 hb
          go_wp2_with fail
          go_ret
          exact ⟨by rw [HE.out]; rfl, B2⟩
        · have hq : ((d : Int) == 1) = false := by simp; omega
          have HE : Hid _ := HNXT.out (fun e => hd1 (by simpa using e))
          go_wp2_with fail
          refine (H1.out _).mono ?_
          rintro e w2 ⟨rfl, b2⟩
          have B2 := hb.trans (b2.mono hb.size)
          clear b2 hb
          go_wp2_with fail
          go_roundw
          case rel => exact ⟨pos + d, f, _, rfl, HX.out, B2, HE.out, HB2.out, hw1⟩
          case measure => simp [strOf]; omega
      · have hq : ((r : Int) == 65533) = false := by simp; omega
        have HE : Hid _ := HNXT.out (fun e => hr (by simpa using congrArg Prod.fst e))
        go_wp2_with fail
        refine (H1.out _).mono ?_
        rintro e w2 ⟨rfl, b2⟩
        have B2 := hb.trans (b2.mono hb.size)
        clear b2 hb
        go_wp2_with fail
        go_roundw
        case rel => exact ⟨pos + d, f, _, rfl, HX.out, B2, HE.out, HB2.out, hw1⟩
        case measure => simp [strOf]; omega
    · have hne := tail_eq (t := t) (by have := HTS.out; have := HP.out; omega)
      have HE : Hid (V = true) := by rw [Hid, ← HC.out]; exact validF_end b hp
      go_wp2_with fail
      go_ret
      exact ⟨by rw [HE.out]; rfl, hb⟩
end Go.Proofs.YtbhlpiilklgnkaaDoor
