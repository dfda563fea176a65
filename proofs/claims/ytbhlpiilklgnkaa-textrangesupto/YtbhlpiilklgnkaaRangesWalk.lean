/-
  The walk of TextRanges: a text is right just if Go's own range tells no wrong byte, and its runes are what range tells.
-/
import Derived.Test.YtbhlpiilklgnkaaLives
import Derived.Test.YtbhlpiilklgnkaaTextC
import Derived.Test.YtbhlpiilklgnkaaDec
namespace Go.Proofs.Ytbhlpiilklgnkaa
open Go.RowKit
theorem runesOf_le (s : ByteArray) : (runesOf s).length ≤ s.size := runesF_le s s.size 0
theorem own_keep {base : Nat} {W W' : World} {v : Value} {n : Nat} {xs : List Value} (h : W.ownsRow base 21 1 v n xs) (B : Below W.heap.size W W') : W'.ownsRow base 21 1 v n xs := by
  refine ⟨h.1, ?_⟩
  rcases h.2 with q | ⟨g, cp, cur, hv, hg, hh, rr⟩
  · exact Or.inl q
  · exact Or.inr ⟨g, cp, cur, hv, hg, (B.block g (Array.getElem?_eq_some_iff.1 hh).1).trans hh, rr⟩
set_option maxRecDepth 20000 in
set_option maxHeartbeats 8000000 in
theorem ranges_walk (s : ByteArray) (hs : s.size ≤ 35184372088831) (w : World) : Calls Try.prog 5 #[.string s] w fun e w' => e = .returned (.bool true) ∧ Below w.heap.size w w' := by
  obtain ⟨i0, hi, hz0, hz1, hz2⟩ := info_parts info21
  have H3 : Hid (∀ W : World, _) := fun W => lives_any W
  have H4 : Hid (∀ W : World, _) := fun W => runes_any s W hs
  have H7 : Hid (∀ W : World, _) := fun W => valid_any s W (by omega)
  have hlen := runesOf_le s
  have HBK : Hid (((runesBytes ((runesOf s).map Int.ofNat)).toList == s.toList) = validB s) := again_right s
  have htv : textV ((runesOf s).map Int.ofNat) = #[.string (runesBytes ((runesOf s).map Int.ofNat)), .int .i64 0] := by rw [textV, if_pos (show ((runesOf s).map Int.ofNat).all isRn = true from runes_rn s s.size 0)]
  obtain ⟨R, hR⟩ : ∃ R, runesOf s = R := ⟨_, rfl⟩
  obtain ⟨V, hV⟩ : ∃ V, validB s = V := ⟨_, rfl⟩
  have HR : Hid (runesF s s.size 0 = R) := hR
  have HV : Hid (validF s s.size 0 = V) := hV
  rw [hR] at H4 hlen HBK htv
  rw [hV] at H7 HBK
  have HLEN : Hid _ := hlen
  obtain ⟨T, hT⟩ : ∃ T, runesBytes (R.map Int.ofNat) = T := ⟨_, rfl⟩
  rw [hT] at HBK htv
  have H5 : Hid (∀ (W : World) (a : Option Addr) (c : Nat), RunesAt W a (R.map Int.ofNat) → Calls Try.prog 18 #[.slice a R.length c] W fun e w' => e = .returned (.tuple #[.string T, .int .i64 0]) ∧ w' = W) := fun W a c h => by
    have := text_any a c (R.map Int.ofNat) W h (by simp; omega)
    rw [List.length_map, htv] at this
    exact this
  have H6 : Hid (∀ (W : World) (a b : Option Addr) (ca cb : Nat), RunesAt W a (R.map Int.ofNat) → RunesAt W b (R.map Int.ofNat) → Calls Try.prog 11 #[.slice a R.length ca, .slice b R.length cb] W fun e w' => e = .returned (.bool true) ∧ Below W.heap.size W w') := fun W a b ca cb ha hb => by
    have := sameRunes_eq a b ca cb (R.map Int.ofNat) W ha hb (by simp; omega)
    rw [List.length_map] at this
    exact this
  clear hR hV hT htv hlen
  go_enter Try.func5, Try.ntmps5
  go_wp2_with fail
  refine (H3.out _).mono ?_
  rintro _ w1 ⟨rfl, b1⟩
  have hw1 := b1.size
  go_wp2_with fail
  go_loopw [3, 4] (fun v u wr => ∃ (pos fuel : Nat) (acc : List Nat) (B : Bool), wr.heap[w1.heap.size]? = some (.stringIter s pos) ∧ wr.ownsRow (w1.heap.size + 1) 21 1 v acc.length (rcells acc) ∧ Below w.heap.size w wr ∧ u = .bool B ∧ Hid (acc ++ runesF s fuel pos = R) ∧ Hid ((B && validF s fuel pos) = V) ∧ Hid (s.size ≤ pos + fuel) ∧ Hid (acc.length ≤ pos)) (fun _ _ wr => s.size - wr.iterPos w1.heap.size)
  case atStart => exact ⟨0, s.size, [], true, World.iter_heap w1 s 0, World.ownsRow_nil _ _ _ _, b1.alloc hw1 _, rfl, HR.out, HV.out, by rw [Hid]; omega, Nat.le_refl _⟩
  case round =>
    clear b1
    obtain ⟨pos, fuel, acc, B, hit, hown, hb, rfl, HA, HVB, HF, HL⟩ := hrel
    have hsz : w1.heap.size < wr.heap.size := (Array.getElem?_eq_some_iff.1 hit).1
    obtain ⟨a, cap, rfl⟩ := form_of_row hown
    by_cases hp : pos < s.size
    · have hnx : ∀ ty, (Instr.next (.pointer (some ⟨w1.heap.size, 0, none⟩)) true ty).run Try.prog wr = _ := fun ty => Lib.run_next_any_at wr w1.heap.size s pos ty hit hp
      have hwd := width_pos s pos hp
      have H1 : Hid (∀ W : World, _) := fun W => decode_any (s.extract pos s.size) W (by rw [tail_size]; omega)
      rw [decode_tail] at H1
      have hit2 := Lib.iterAt_heap wr w1.heap.size s pos (pos + (Utf8.decode s pos).2) hit
      have hown2 := ownsRow_iterAt hown (Nat.lt_succ_self _) s (pos + (Utf8.decode s pos).2)
      have hb2 := Lib.below_iterAt hb hw1 s (pos + (Utf8.decode s pos).2)
      have hsz2 : w1.heap.size < (wr.iterAt w1.heap.size s (pos + (Utf8.decode s pos).2)).heap.size := by rw [Lib.iterAt_size]; exact hsz
      obtain ⟨f, rfl⟩ : ∃ f, fuel = f + 1 := ⟨fuel - 1, by have := HF.out; omega⟩
      have HA2 : Hid ((acc ++ [(Utf8.decode s pos).1]) ++ runesF s f (pos + (Utf8.decode s pos).2) = R) := by
        rw [Hid, ← HA.out, runesF_next f hp]; simp
      have hpi : s.size - (pos + (Utf8.decode s pos).2) < s.size - wr.iterPos w1.heap.size := by rw [iterPos_of hit]; omega
      have HM : Hid _ := hpi
      have HF2 : Hid (s.size ≤ pos + (Utf8.decode s pos).2 + f) := by have := HF.out; rw [Hid]; omega
      have HL2 : Hid ((acc ++ [(Utf8.decode s pos).1]).length ≤ pos + (Utf8.decode s pos).2) := by have := HL.out; rw [Hid]; simp; omega
      have HL3 : Hid (acc.length < s.size) := by have := HL.out; rw [Hid]; omega
      have HBAD : Hid (Utf8.decode s pos = (65533, 1) → V = false) := fun hd => by rw [← HVB.out, validF_bad f hp hd, Bool.and_false]
      have HNXT : Hid (¬ Utf8.decode s pos = (65533, 1) → (B && validF s f (pos + (Utf8.decode s pos).2)) = V) := fun hd => by rw [← HVB.out, validF_next f hp hd]
      have HLS : Hid ((pos : Int) ≤ (s.size : Int)) := by rw [Hid]; omega
      obtain ⟨W2, hW2⟩ : ∃ W2, wr.iterAt w1.heap.size s (pos + (Utf8.decode s pos).2) = W2 := ⟨_, rfl⟩
      rw [hW2] at hit2 hown2 hb2 hsz2 hnx
      generalize Utf8.decode s pos = D at *
      obtain ⟨r, d⟩ := D
      obtain ⟨p2, hp2⟩ : ∃ p2, pos + d = p2 := ⟨_, rfl⟩
      simp only [hp2] at hwd H1 HA2 HF2 HL2 HNXT HM hit2 hnx
      clear hpi HA HF HL hit hown hb hW2 HVB
      by_cases hr : r = 65533 ∧ d = 1
      · obtain ⟨rfl, rfl⟩ := hr
        have HE : Hid ((false && validF s f p2) = V) := by rw [Hid, HBAD.out rfl]; rfl
        go_wp2_with fail
        refine (H1.out _).mono ?_
        rintro _ w2 ⟨rfl, b2⟩
        have hit3 := (b2.block w1.heap.size hsz2).trans hit2
        have hown3 := own_keep hown2 b2
        have hb3 := hb2.trans (b2.mono (by have := hb2.size; omega))
        have hsz3 : w1.heap.size < w2.heap.size := Nat.lt_of_lt_of_le hsz2 b2.size
        clear hit2 hown2 hb2 b2
        go_wp2_with (at_builtin; refine wpList_append_own _ rfl (.tmp 32) (.tmp 34) 26 rfl (w1.heap.size + 1) 21 i0 (.int .i32 0) 1 4 Try.underlying26 hi hz0 hz1 hz2 rfl (by decide) _ _ _ rfl (hown3.alloc _) ⟨_, 0, none⟩ 1 1 (rcells [65533]) rfl rfl (new_cells _ (rcells [65533]) _) (rcells_one _) (by have := HL3.out; unfold maxLen; omega) (by have := HL3.out; omega) (by simp; omega) ?_)
        intro v1 w5 hown1 hgrow _
        obtain ⟨a1, cap1, rfl⟩ := form_of_row hown1
        have HR5 : Hid (w5.ownsRow (w1.heap.size + 1) 21 1 (.slice a1 (acc.length + 1) cap1) (acc ++ [65533]).length (rcells (acc ++ [65533]))) := by
          rw [Hid, rcells_append, List.length_append]; exact hown1
        have HB5 : Hid (Below w.heap.size w w5) := (hb3.alloc (by omega) _).grown hgrow (by simp; omega) (fun i hi => by have := (hown3.lt i hi).1; omega)
        have HI : Hid (w5.heap[w1.heap.size]? = some (.stringIter s p2)) := by
          rw [Hid, hgrow.block w1.heap.size (by simp; omega) (fun e => by have := (hown3.lt _ e.symm).1; omega), Below.heap_alloc _ _ _ hsz3]
          exact hit3
        clear hown1 hgrow hown3
        go_wp2_with fail
        go_roundw
        case rel => exact ⟨p2, f, acc ++ [65533], false, HI.out, HR5.out, HB5.out, rfl, HA2.out, HE.out, HF2.out, HL2.out⟩
        case measure => rw [iterPos_of HI.out]; exact HM.out
      · have HE : Hid _ := HNXT.out (fun e => hr (by simpa using e))
        have hq : ((r : Int) == 65533) = false ∨ ((r : Int) == 65533) = true ∧ ((d : Int) == 1) = false := by
          by_cases h1 : r = 65533
          · exact Or.inr ⟨by simp [h1], by simp; omega⟩
          · exact Or.inl (by simp; omega)
        rcases hq with hq | ⟨hq, hq2⟩
        all_goals
          clear hr
          go_wp2_with fail
          refine (H1.out _).mono ?_
          rintro _ w2 ⟨rfl, b2⟩
          have hit3 := (b2.block w1.heap.size hsz2).trans hit2
          have hown3 := own_keep hown2 b2
          have hb3 := hb2.trans (b2.mono (by have := hb2.size; omega))
          have hsz3 : w1.heap.size < w2.heap.size := Nat.lt_of_lt_of_le hsz2 b2.size
          clear hit2 hown2 hb2 b2
          go_wp2_with (at_builtin; refine wpList_append_own _ rfl (.tmp 32) (.tmp 34) 26 rfl (w1.heap.size + 1) 21 i0 (.int .i32 0) 1 4 Try.underlying26 hi hz0 hz1 hz2 rfl (by decide) _ _ _ rfl (hown3.alloc _) ⟨_, 0, none⟩ 1 1 (rcells [r]) rfl rfl (new_cells _ (rcells [r]) _) (rcells_one _) (by have := HL3.out; unfold maxLen; omega) (by have := HL3.out; omega) (by simp; omega) ?_)
          intro v1 w5 hown1 hgrow _
          obtain ⟨a1, cap1, rfl⟩ := form_of_row hown1
          have HR5 : Hid (w5.ownsRow (w1.heap.size + 1) 21 1 (.slice a1 (acc.length + 1) cap1) (acc ++ [r]).length (rcells (acc ++ [r]))) := by
            rw [Hid, rcells_append, List.length_append]; exact hown1
          have HB5 : Hid (Below w.heap.size w w5) := (hb3.alloc (by omega) _).grown hgrow (by simp; omega) (fun i hi => by have := (hown3.lt i hi).1; omega)
          have HI : Hid (w5.heap[w1.heap.size]? = some (.stringIter s p2)) := by
            rw [Hid, hgrow.block w1.heap.size (by simp; omega) (fun e => by have := (hown3.lt _ e.symm).1; omega), Below.heap_alloc _ _ _ hsz3]
            exact hit3
          clear hown1 hgrow hown3
          go_wp2_with fail
          go_roundw
          case rel => exact ⟨p2, f, acc ++ [r], B, HI.out, HR5.out, HB5.out, rfl, HA2.out, HE.out, HF2.out, HL2.out⟩
          case measure => rw [iterPos_of HI.out]; exact HM.out
    · have hnx : ∀ ty, (Instr.next (.pointer (some ⟨w1.heap.size, 0, none⟩)) true ty).run Try.prog wr = _ := fun ty => Lib.run_next_end_at wr w1.heap.size s pos ty hit hp
      have hac : acc = R := by
        have := HA.out
        rw [runesF_end fuel hp, List.append_nil] at this
        exact this
      have hBV : B = V := by
        have := HVB.out
        rw [validF_end fuel hp, Bool.and_true] at this
        exact this
      subst hac hBV
      have RL := row_runes hown
      clear HA HVB HF HL hit hown hsz
      go_wp2_with fail
      refine (H4.out _).mono ?_
      rintro _ w4 ⟨a4, c4, rfl, o4, b4⟩
      have R4 := row_runes o4
      have RL4 := RL.below b4
      have B4 := hb.trans (b4.mono hb.size)
      clear hb b4 o4 RL
      go_wp2_with fail
      refine (H5.out _ _ _ R4).mono ?_
      rintro _ w5 ⟨rfl, rfl⟩
      go_wp2_with fail
      refine (H4.out _).mono ?_
      rintro _ w6 ⟨a6, c6, rfl, o6, b6⟩
      have R6 := row_runes o6
      have RL6 := RL4.below b6
      have B6 := B4.trans (b6.mono B4.size)
      clear B4 b6 o6 RL4 R4
      go_wp2_with fail
      refine (H6.out _ _ _ _ _ R6 RL6).mono ?_
      rintro _ w7 ⟨rfl, b7⟩
      have B7 := B6.trans (b7.mono B6.size)
      clear B6 b7 R6 RL6
      go_wp2_with fail
      refine (H7.out _).mono ?_
      rintro _ w8 ⟨rfl, b8⟩
      have B8 := B7.trans (b8.mono B7.size)
      clear B7 b8
      have hbk := HBK.out
      go_wp2_with fail
      go_ret
      exact ⟨by first | rfl | simp [hbk], B8⟩
end Go.Proofs.Ytbhlpiilklgnkaa
