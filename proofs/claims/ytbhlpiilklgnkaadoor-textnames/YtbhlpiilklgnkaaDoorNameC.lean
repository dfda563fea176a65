/-
  Names: the contracts of inName and of both Names.
-/
import Derived.Test.YtbhlpiilklgnkaaDoorRRun2
import Derived.Test.YtbhlpiilklgnkaaDoorSame
namespace Go.Proofs.YtbhlpiilklgnkaaDoor
open Go.RowKit
/-- A rune may stand in a name. -/
def inN (r : Nat) : Bool := !decide (r < 32 ∨ (127 ≤ r ∧ r ≤ 159) ∨ r = 8232 ∨ r = 8233 ∨ r = 65279)
/-- From a place on all may stand in a name. -/
def nameF (s : ByteArray) : Nat → Nat → Bool
  | 0, _ => true
  | fuel + 1, pos => if pos < s.size then (if Utf8.decode s pos = (65533, 1) then false else if inN (Utf8.decode s pos).1 = true then nameF s fuel (pos + (Utf8.decode s pos).2) else false) else true
def nameB (s : ByteArray) : Bool := decide (1 ≤ s.size ∧ s.size ≤ 64) && nameF s s.size 0
theorem nameF_end {s : ByteArray} {pos : Nat} (fuel : Nat) (h : ¬ pos < s.size) : nameF s fuel pos = true := by
  cases fuel with
  | zero => rfl
  | succ f => rw [nameF, if_neg h]
theorem nameF_bad {s : ByteArray} {pos : Nat} (fuel : Nat) (h : pos < s.size) (hd : Utf8.decode s pos = (65533, 1)) : nameF s (fuel + 1) pos = false := by rw [nameF, if_pos h, if_pos hd]
theorem nameF_not {s : ByteArray} {pos : Nat} (fuel : Nat) (h : pos < s.size) (hd : ¬ Utf8.decode s pos = (65533, 1)) (hn : inN (Utf8.decode s pos).1 = false) : nameF s (fuel + 1) pos = false := by rw [nameF, if_pos h, if_neg hd, if_neg (by simp [hn])]
theorem nameF_next {s : ByteArray} {pos : Nat} (fuel : Nat) (h : pos < s.size) (hd : ¬ Utf8.decode s pos = (65533, 1)) (hn : inN (Utf8.decode s pos).1 = true) : nameF s (fuel + 1) pos = nameF s fuel (pos + (Utf8.decode s pos).2) := by rw [nameF, if_pos h, if_neg hd, if_pos hn]
theorem nameF_eq (s : ByteArray) : ∀ fuel pos, nameF s fuel pos = (validF s fuel pos && (runesF s fuel pos).all inN)
  | 0, _ => rfl
  | f + 1, pos => by
    by_cases hp : pos < s.size
    · rw [runesF_next f hp, List.all_cons]
      by_cases hd : Utf8.decode s pos = (65533, 1)
      · rw [nameF_bad f hp hd, validF_bad f hp hd, Bool.false_and]
      · rw [validF_next f hp hd]
        cases hn : inN (Utf8.decode s pos).1 with
        | true => rw [nameF_next f hp hd hn, nameF_eq s f, Bool.true_and]
        | false => rw [nameF_not f hp hd hn, Bool.false_and, Bool.and_false]
    · rw [nameF_end _ hp, validF_end _ hp, runesF_end _ hp]
      rfl
set_option maxRecDepth 20000 in
set_option maxHeartbeats 1000000 in
theorem inName_any (r : Nat) (w : World) : Calls Tryd.prog 18 #[.int .i32 (r : Int)] w fun e w' => e = .returned (.bool (inN r)) ∧ w' = w := by
  rcases (by omega : r < 32 ∨ (127 ≤ r ∧ r ≤ 159) ∨ r = 8232 ∨ r = 8233 ∨ r = 65279 ∨ (32 ≤ r ∧ r < 127) ∨ (159 < r ∧ r ≠ 8232 ∧ r ≠ 8233 ∧ r ≠ 65279)) with g | g | g | g | g | g | g
  · rw [show inN r = false by simp [inN]; omega]
    have k0 : (r : Int) < 32 := by omega
    clear g
    go_enter Tryd.func18, Tryd.ntmps18
    go_wp2
    go_ret
    exact ⟨rfl, rfl⟩
  · rw [show inN r = false by simp [inN]; omega]
    have k0 : ¬ (r : Int) < 32 := by omega
    have k1 : (127 : Int) ≤ (r : Int) := by omega
    have k2 : (r : Int) ≤ 159 := by omega
    clear g
    go_enter Tryd.func18, Tryd.ntmps18
    go_wp2
    go_ret
    exact ⟨rfl, rfl⟩
  · subst g
    rw [show inN 8232 = false by decide]
    go_enter Tryd.func18, Tryd.ntmps18
    go_wp2
    go_ret
    exact ⟨rfl, rfl⟩
  · subst g
    rw [show inN 8233 = false by decide]
    go_enter Tryd.func18, Tryd.ntmps18
    go_wp2
    go_ret
    exact ⟨rfl, rfl⟩
  · subst g
    rw [show inN 65279 = false by decide]
    go_enter Tryd.func18, Tryd.ntmps18
    go_wp2
    go_ret
    exact ⟨rfl, rfl⟩
  · rw [show inN r = true by simp [inN]; omega]
    have k0 : ¬ (r : Int) < 32 := by omega
    have k1 : ¬ (127 : Int) ≤ (r : Int) := by omega
    have k3 : ((r : Int) == 8232) = false := by simp; omega
    have k4 : ((r : Int) == 8233) = false := by simp; omega
    have k5 : ((r : Int) == 65279) = false := by simp; omega
    clear g
    go_enter Tryd.func18, Tryd.ntmps18
    go_wp2
    go_ret
    exact ⟨rfl, rfl⟩
  · rw [show inN r = true by simp [inN]; omega]
    have k0 : ¬ (r : Int) < 32 := by omega
    have k1 : (127 : Int) ≤ (r : Int) := by omega
    have k2 : ¬ (r : Int) ≤ 159 := by omega
    have k3 : ((r : Int) == 8232) = false := by simp; omega
    have k4 : ((r : Int) == 8233) = false := by simp; omega
    have k5 : ((r : Int) == 65279) = false := by simp; omega
    clear g
    go_enter Tryd.func18, Tryd.ntmps18
    go_wp2
    go_ret
    exact ⟨rfl, rfl⟩
set_option maxRecDepth 20000 in
set_option maxHeartbeats 2000000 in
theorem name_any (s : ByteArray) (w : World) (hs : s.size ≤ 140737488355328) : Calls Tryd.prog 5 #[.string s] w fun e w' => e = .returned (.bool (nameB s)) ∧ Below w.heap.size w w' := by
  have HBL : Hid (∀ p, Below w.heap.size w (w.iter s p)) := fun p => (Below.refl _ w).alloc (Nat.le_refl _) _
  by_cases h1 : s.size < 1
  · rw [show nameB s = false by simp [nameB]; omega]
    have k : (s.size : Int) < 1 := by omega
    clear h1
    go_enter Tryd.func5, Tryd.ntmps5
    go_wp2
    go_ret
    exact ⟨rfl, Below.refl _ _⟩
  by_cases h64 : 64 < s.size
  · rw [show nameB s = false by simp [nameB]; omega]
    have k : ¬ (s.size : Int) < 1 := by omega
    have k2 : (64 : Int) < (s.size : Int) := by omega
    clear h1 h64
    go_enter Tryd.func5, Tryd.ntmps5
    go_wp2
    go_ret
    exact ⟨rfl, Below.refl _ _⟩
  have hnb : nameB s = nameF s s.size 0 := by rw [nameB, decide_eq_true (by omega), Bool.true_and]
  obtain ⟨V, hV⟩ : ∃ V, nameF s s.size 0 = V := ⟨_, rfl⟩
  have HV : Hid _ := hV
  rw [hnb, hV]
  have k1 : ¬ (s.size : Int) < 1 := by omega
  have k2 : ¬ (64 : Int) < (s.size : Int) := by omega
  clear hV hnb h1 h64
  go_enter Tryd.func5, Tryd.ntmps5
  go_wp2
  go_loopw [2] (fun _ w' => ∃ (pos b : Nat), w' = w.iter s pos ∧ Hid (nameF s b pos = V) ∧ Hid (s.size ≤ pos + b)) (fun _ w' => s.size - w'.iterPos w.heap.size)
  case atStart => exact ⟨0, s.size, rfl, HV.out, by rw [Hid]; omega⟩
  case round =>
    obtain ⟨pos, b, rfl, HC, HB⟩ := hrel
    by_cases hp : pos < s.size
    · have hnx : ∀ ty, (Instr.next (.pointer (some ⟨w.heap.size, 0, none⟩)) true ty).run Tryd.prog (w.iter s pos) = _ := fun ty => run_next_any w s pos ty hp
      have hwd := width_pos s pos hp
      have HW : Hid (∀ W : World, _) := fun W => isWrong_any (Utf8.decode s pos).1 (s.extract pos s.size) (by rw [tail_size]; omega) W
      rw [wrong_at] at HW
      have HI : Hid (∀ W : World, _) := fun W => inName_any (Utf8.decode s pos).1 W
      obtain ⟨f, rfl⟩ : ∃ f, b = f + 1 := ⟨b - 1, by have := HB.out; omega⟩
      by_cases hd : Utf8.decode s pos = (65533, 1)
      · have HE : Hid (V = false) := by rw [Hid, ← HC.out]; exact nameF_bad f hp hd
        rw [show decide (Utf8.decode s pos = (65533, 1)) = true by simp [hd]] at HW
        clear hd
        go_wp2_with (go_at_call 17; refine (HW.out _).mono ?_; rintro e w' ⟨rfl, rfl⟩)
        go_ret
        exact ⟨by rw [HE.out]; rfl, HBL.out _⟩
      · rw [show decide (Utf8.decode s pos = (65533, 1)) = false by simp [hd]] at HW
        cases hn : inN (Utf8.decode s pos).1 with
        | false =>
          have HE : Hid (V = false) := by rw [Hid, ← HC.out]; exact nameF_not f hp hd hn
          rw [hn] at HI
          clear hd hn
          go_wp2_with (first
            | (go_at_call 17; refine (HW.out _).mono ?_; rintro e w' ⟨rfl, rfl⟩)
            | (go_at_call 18; refine (HI.out _).mono ?_; rintro e w' ⟨rfl, rfl⟩))
          go_ret
          exact ⟨by rw [HE.out]; rfl, HBL.out _⟩
        | true =>
          have HE : Hid (nameF s f (pos + (Utf8.decode s pos).2) = V) := by rw [Hid, ← HC.out]; exact (nameF_next f hp hd hn).symm
          rw [hn] at HI
          clear hd hn
          go_wp2_with (first
            | (go_at_call 17; refine (HW.out _).mono ?_; rintro e w' ⟨rfl, rfl⟩)
            | (go_at_call 18; refine (HI.out _).mono ?_; rintro e w' ⟨rfl, rfl⟩))
          go_roundw
          case rel =>
            have h2 := HB.out
            exact ⟨pos + (Utf8.decode s pos).2, f, rfl, HE.out, by rw [Hid]; omega⟩
          case measure =>
            simp
            omega
    · have hnx : ∀ ty, (Instr.next (.pointer (some ⟨w.heap.size, 0, none⟩)) true ty).run Tryd.prog (w.iter s pos) = _ := fun ty => run_next_end w s pos ty hp
      have HE : Hid (V = true) := by rw [Hid, ← HC.out]; exact nameF_end b hp
      go_wp2
      go_ret
      exact ⟨by rw [HE.out]; rfl, HBL.out _⟩
theorem all_upto {l : List Nat} {k : Nat} (h : ∀ j, j < k → ∀ z, l[j]? = some z → inN z = true) (hk : l.length ≤ k) : l.all inN = true := by
  rw [List.all_eq_true]
  intro z hz
  obtain ⟨j, hj, rfl⟩ := List.mem_iff_getElem.1 hz
  exact h j (by omega) _ (List.getElem?_eq_getElem hj)
set_option maxRecDepth 20000 in
set_option maxHeartbeats 4000000 in
theorem rname_any (s : ByteArray) (w : World) (hs : s.size ≤ 140737488355328) : Calls Tryd.prog 6 #[.string s] w fun e w' => e = .returned (.bool (nameB s)) ∧ Below w.heap.size w w' := by
  by_cases h1 : s.size < 1
  · rw [show nameB s = false by simp [nameB]; omega]
    have k : (s.size : Int) < 1 := by omega
    clear h1
    go_enter Tryd.func6, Tryd.ntmps6
    go_wp2
    go_ret
    exact ⟨rfl, Below.refl _ _⟩
  by_cases h64 : 64 < s.size
  · rw [show nameB s = false by simp [nameB]; omega]
    have k : ¬ (s.size : Int) < 1 := by omega
    have k2 : (64 : Int) < (s.size : Int) := by omega
    clear h1 h64
    go_enter Tryd.func6, Tryd.ntmps6
    go_wp2
    go_ret
    exact ⟨rfl, Below.refl _ _⟩
  have hnb : nameB s = (validB s && (runesOf s).all inN) := by
    rw [nameB, decide_eq_true (by omega), Bool.true_and, nameF_eq]
    rfl
  have H1 : Hid (∀ W : World, _) := fun W => rvalid_any s W hs
  have H2 : Hid (∀ W : World, _) := fun W => rrunes_any s W (by omega)
  have hlen : (runesOf s).length ≤ s.size := runesF_le s s.size 0
  have hsm := runesF_small s s.size 0
  have HSM : Hid (∀ r ∈ runesOf s, r ≤ 2147483647) := hsm
  obtain ⟨R, hR⟩ : ∃ R, runesOf s = R := ⟨_, rfl⟩
  rw [hR] at H2 hlen hnb HSM
  have hl2 : R.length ≤ 64 := by omega
  have k1 : ¬ (s.size : Int) < 1 := by omega
  have k2 : ¬ (64 : Int) < (s.size : Int) := by omega
  rw [hnb]
  clear hR hnb h1 h64 hsm hlen
  cases hv : validB s with
  | false =>
    rw [hv] at H1
    rw [Bool.false_and]
    clear hv
    go_enter Tryd.func6, Tryd.ntmps6
    go_wp2_with fail
    refine (H1.out _).mono ?_
    rintro _ w1 ⟨rfl, b1⟩
    go_wp2_with fail
    go_ret
    exact ⟨rfl, b1⟩
  | true =>
    rw [hv] at H1
    rw [Bool.true_and]
    clear hv
    obtain ⟨V, hV⟩ : ∃ V, R.all inN = V := ⟨_, rfl⟩
    have HV : Hid _ := hV
    rw [hV]
    clear hV
    go_enter Tryd.func6, Tryd.ntmps6
    go_wp2_with fail
    refine (H1.out _).mono ?_
    rintro _ w1 ⟨rfl, b1⟩
    go_wp2_with fail
    refine (H2.out _).mono ?_
    rintro _ w2 ⟨a2, c2, rfl, o2, b2⟩
    have HRA : Hid _ := row_runes o2
    have B2 := b1.trans (b2.mono b1.size)
    clear b1 b2 o2
    go_wp2_with fail
    go_loopw [4] (fun i wr => ∃ k : Nat, k ≤ R.length ∧ i = .int .i64 (k : Int) ∧ Hid (∀ j, j < k → ∀ z, R[j]? = some z → inN z = true) ∧ wr = w2) (fun i _ => R.length - (intOf i).toNat)
    case atStart => exact ⟨0, by omega, rfl, fun j hj => by omega, rfl⟩
    case round =>
      obtain ⟨k, hk, rfl, HJ, rfl⟩ := hrel
      by_cases hlt : k < R.length
      · have hz : R[k]? = some R[k] := List.getElem?_eq_getElem hlt
        obtain ⟨z, hzz⟩ : ∃ z, R[k] = z := ⟨_, rfl⟩
        rw [hzz] at hz
        have HZ : Hid _ := hz
        have hzb := HSM.out z (List.mem_of_getElem? hz)
        obtain ⟨p, off, rfl, _, h1⟩ := HRA.out k (z : Int) (by rw [List.getElem?_map, hz]; rfl)
        have hlz : (k : Int) < (R.length : Int) := by omega
        have HBAD : Hid (inN z = false → V = false) := fun hb => by
          rw [← HV.out, List.all_eq_false]
          exact ⟨z, List.mem_of_getElem? HZ.out, by simp [hb]⟩
        have HJ2 : Hid (inN z = true → ∀ j, j < k + 1 → ∀ z, R[j]? = some z → inN z = true) := fun hb j hj y hy => by
          rcases Nat.lt_succ_iff_lt_or_eq.1 hj with q | rfl
          · exact HJ.out j q y hy
          · rw [HZ.out, Option.some.injEq] at hy; rw [← hy]; exact hb
        have z0 : (0 : Int) ≤ (z : Int) := by omega
        have z2 : (z : Int) ≤ 2147483647 := by omega
        clear hz hzz HJ hzb
        rcases (by omega : z < 32 ∨ (127 ≤ z ∧ z ≤ 159) ∨ z = 8232 ∨ z = 8233 ∨ z = 65279 ∨ (32 ≤ z ∧ z < 127) ∨ (159 < z ∧ z ≠ 8232 ∧ z ≠ 8233 ∧ z ≠ 65279)) with g | g | g | g | g | g | g
        · have HE : Hid (V = false) := HBAD.out (by simp [inN]; omega)
          have k0 : (z : Int) < 32 := by omega
          clear g
          go_wp2_with fail
          go_ret
          exact ⟨by rw [HE.out]; rfl, B2⟩
        · have HE : Hid (V = false) := HBAD.out (by simp [inN]; omega)
          have k0 : ¬ (z : Int) < 32 := by omega
          have k1 : (127 : Int) ≤ (z : Int) := by omega
          have k2 : (z : Int) ≤ 159 := by omega
          clear g
          go_wp2_with fail
          go_ret
          exact ⟨by rw [HE.out]; rfl, B2⟩
        · have HE : Hid (V = false) := HBAD.out (by simp [inN]; omega)
          subst g
          go_wp2_with fail
          go_ret
          exact ⟨by rw [HE.out]; rfl, B2⟩
        · have HE : Hid (V = false) := HBAD.out (by simp [inN]; omega)
          subst g
          go_wp2_with fail
          go_ret
          exact ⟨by rw [HE.out]; rfl, B2⟩
        · have HE : Hid (V = false) := HBAD.out (by simp [inN]; omega)
          subst g
          go_wp2_with fail
          go_ret
          exact ⟨by rw [HE.out]; rfl, B2⟩
        · have HE : Hid _ := HJ2.out (by simp [inN]; omega)
          have k0 : ¬ (z : Int) < 32 := by omega
          have k1 : ¬ (127 : Int) ≤ (z : Int) := by omega
          have k3 : ((z : Int) == 8232) = false := by simp; omega
          have k4 : ((z : Int) == 8233) = false := by simp; omega
          have k5 : ((z : Int) == 65279) = false := by simp; omega
          clear g
          go_wp2_with fail
          go_roundw
          case rel => exact ⟨k + 1, by omega, by go_num, HE.out, by first | rfl | trivial⟩
          case measure => simp [intOf]; omega
        · have HE : Hid _ := HJ2.out (by simp [inN]; omega)
          have k0 : ¬ (z : Int) < 32 := by omega
          have k1 : (127 : Int) ≤ (z : Int) := by omega
          have k2 : ¬ (z : Int) ≤ 159 := by omega
          have k3 : ((z : Int) == 8232) = false := by simp; omega
          have k4 : ((z : Int) == 8233) = false := by simp; omega
          have k5 : ((z : Int) == 65279) = false := by simp; omega
          clear g
          go_wp2_with fail
          go_roundw
          case rel => exact ⟨k + 1, by omega, by go_num, HE.out, by first | rfl | trivial⟩
          case measure => simp [intOf]; omega
      · have hlz : ¬ (k : Int) < (R.length : Int) := by omega
        have HE : Hid (V = true) := by rw [Hid, ← HV.out]; exact all_upto HJ.out (by omega)
        go_wp2_with fail
        go_ret
        exact ⟨by rw [HE.out]; rfl, B2⟩
end Go.Proofs.YtbhlpiilklgnkaaDoor
