/-
  The contracts of the twin's Runes and Count; Decode of the empty text.
-/
import Derived.Test.YtbhlpiilklgnkaaDoorRRunes
namespace Go.Proofs.YtbhlpiilklgnkaaDoor
open Go.RowKit
set_option maxRecDepth 20000 in
set_option maxHeartbeats 2000000 in
theorem rrunes_any (s : ByteArray) (w : World) (hs : s.size ≤ 35184372088831) : Calls Tryd.prog 20 #[.string s] w fun e w' => ∃ a cap, e = .returned (.slice a (runesOf s).length cap) ∧ w'.ownsRow w.heap.size 21 1 (.slice a (runesOf s).length cap) (runesOf s).length (rcells (runesOf s)) ∧ Below w.heap.size w w' := by
  obtain ⟨i0, hi, hz0, hz1, hz2⟩ := info_parts info21
  obtain ⟨R, hR⟩ : ∃ R, runesOf s = R := ⟨_, rfl⟩
  have HR : Hid _ := hR
  rw [hR]
  clear hR
  go_enter Tryd.func20, Tryd.ntmps20
  go_wp2_with fail
  go_loopw [0, 3] (fun u v wr => ∃ (pos b : Nat) (acc : List Nat) (t : ByteArray), u = .string t ∧ Hid (t = s.extract pos s.size) ∧ wr.ownsRow w.heap.size 21 1 v acc.length (rcells acc) ∧ Below w.heap.size w wr ∧ Hid (acc ++ runesF s b pos = R) ∧ Hid (s.size ≤ pos + b) ∧ Hid (acc.length ≤ pos) ∧ Hid (pos ≤ s.size)) (fun u _ _ => strOf u)
  case atStart => exact ⟨0, s.size, [], s, rfl, (tail_zero s).symm, World.ownsRow_nil _ _ _ _, Below.refl _ _, HR.out, by rw [Hid]; omega, Nat.le_refl _, Nat.zero_le _⟩
  case round =>
    obtain ⟨pos, b, acc, t, rfl, HT, hown, hb, HA, HB, HL, HP⟩ := hrel
    have hsz := hb.size
    obtain ⟨a, cap, rfl⟩ := form_of_row hown
    have hts : t.size = s.size - pos := by rw [HT.out, tail_size]
    have HTS : Hid _ := hts
    clear hts
    by_cases hp : pos < s.size
    · have htp : 0 < t.size := by have := HTS.out; omega
      have htl : t.size ≤ 140737488355328 := by have := HTS.out; omega
      have hne := tail_ne htp
      have hwd := width_pos s pos hp
      obtain ⟨hw1, hw2⟩ := decode_width s pos hp
      have H1 : Hid (∀ W : World, _) := fun W => rdecode_any t W htp htl
      have hdt : Utf8.decode t 0 = Utf8.decode s pos := by rw [HT.out, decode_tail]
      rw [hdt] at H1
      obtain ⟨f, rfl⟩ : ∃ f, b = f + 1 := ⟨b - 1, by have := HB.out; omega⟩
      have HX : Hid (t.extract (Utf8.decode s pos).2 t.size = s.extract (pos + (Utf8.decode s pos).2) s.size) := by
        rw [Hid, HT.out]; exact tail_tail s pos _
      have HA2 : Hid ((acc ++ [(Utf8.decode s pos).1]) ++ runesF s f (pos + (Utf8.decode s pos).2) = R) := by
        rw [Hid, ← HA.out, runesF_next f hp]; simp
      have HB2 : Hid (s.size ≤ pos + (Utf8.decode s pos).2 + f) := by have := HB.out; rw [Hid]; omega
      have HL2 : Hid ((acc ++ [(Utf8.decode s pos).1]).length ≤ pos + (Utf8.decode s pos).2) := by have := HL.out; rw [Hid]; simp; omega
      have HL3 : Hid (acc.length < s.size) := by have := HL.out; rw [Hid]; omega
      generalize Utf8.decode s pos = D at *
      obtain ⟨r, d⟩ := D
      simp only at hwd hw1 hw2 H1 HX HA2 HB2 HL2
      have hdz : (0 : Int) ≤ (d : Int) := by omega
      have hdt2 : d ≤ t.size := by have := HTS.out; omega
      have hdz2 : (d : Int) ≤ (t.size : Int) := by omega
      clear hdt HA HB HT HL
      go_wp2_with fail
      refine (H1.out _).mono ?_
      rintro e w2 ⟨rfl, b2⟩
      have B2 := hb.trans (b2.mono hb.size)
      have hown2 : w2.ownsRow w.heap.size 21 1 (.slice a acc.length cap) acc.length (rcells acc) := by
        refine ⟨hown.1, ?_⟩
        rcases hown.2 with q | ⟨g, cp, cur, hv, hg, hh, rr⟩
        · exact Or.inl q
        · exact Or.inr ⟨g, cp, cur, hv, hg, (b2.block g (Array.getElem?_eq_some_iff.1 hh).1).trans hh, rr⟩
      have hsz2 := B2.size
      clear b2 hb hown
      go_wp2_with (at_builtin; refine wpList_append_own _ rfl (.tmp 13) (.tmp 15) 25 rfl w.heap.size 21 i0 (.int .i32 0) 1 4 Tryd.underlying25 hi hz0 hz1 hz2 rfl (by decide) _ _ _ rfl (hown2.alloc _) ⟨_, 0, none⟩ 1 1 (rcells [r]) rfl rfl (new_cells _ (rcells [r]) _) (rcells_one _) (by have := HL3.out; unfold maxLen; omega) (by have := HL3.out; omega) (by simp; omega) ?_)
      intro v1 w5 hown1 hgrow _
      obtain ⟨a1, cap1, rfl⟩ := form_of_row hown1
      have HR5 : Hid (w5.ownsRow w.heap.size 21 1 (.slice a1 (acc.length + 1) cap1) (acc ++ [r]).length (rcells (acc ++ [r]))) := by
        rw [Hid, rcells_append, List.length_append]; exact hown1
      have HB5 : Hid (Below w.heap.size w w5) := (B2.alloc hsz2 _).grown hgrow (by simp; omega) (fun i hi => (hown2.lt i hi).1)
      clear hown1 hgrow hown2
      go_wp2_with fail
      go_roundw
      case rel => exact ⟨pos + d, f, acc ++ [r], _, rfl, HX.out, HR5.out, HB5.out, HA2.out, HB2.out, HL2.out, hw1⟩
      case measure => simp [strOf]; omega
    · have hne := tail_eq (t := t) (by have := HTS.out; have := HP.out; omega)
      have HE : Hid (acc = R) := by
        have := HA.out
        rw [runesF_end b hp, List.append_nil] at this
        exact this
      go_wp2_with fail
      go_ret
      rw [← HE.out]
      exact ⟨a, cap, rfl, hown, hb⟩
end Go.Proofs.YtbhlpiilklgnkaaDoor
