/-
  Blanks around a text: the library's own contract of strings.Trim, laid at this program; the contracts of both Trims.
-/
import Derived.Test.YthhhoppmbimeiaaDoorTokenC
import Derived.Shelf.Strings.SlTrimAscii
namespace Go.Proofs
open Go.Shelf
theorem Tryd.trim (s : ByteArray) (w : World) (hs : s.size ≤ 9223372036854775807) :
    Calls Tryd.prog 73 #[.string s, .string ⟨#[32, 9]⟩] w fun e w' => e = .returned (.string ⟨(Lib.trimS s.data.toList [32, 9]).toArray⟩) ∧ RowKit.Below w.heap.size w w' :=
  Any.strings_Trim_laid Tryd.lays160 (by kernel_rfl) s ⟨#[32, 9]⟩ w hs (by decide) (ascii_of_all (by decide))
end Go.Proofs
namespace Go.Proofs.YthhhoppmbimeiaaDoor
open Go.RowKit
/-- A text without blanks and tabs around it. -/
def trimT (s : ByteArray) : ByteArray := ⟨(Lib.trimS s.data.toList [32, 9]).toArray⟩
set_option maxRecDepth 20000 in
theorem trim_any (s : ByteArray) (hs : s.size ≤ 140737488355328) (w : World) : Calls Tryd.prog 61 #[.string s] w fun e w' => e = .returned (.string (trimT s)) ∧ Below w.heap.size w w' := by
  have H : Hid (∀ W : World, _) := fun W => Tryd.trim s W (by omega)
  rw [show (⟨(Lib.trimS s.data.toList [32, 9]).toArray⟩ : ByteArray) = trimT s from rfl] at H
  go_enter Tryd.func61, Tryd.ntmps61
  go_wp2_with fail
  refine (H.out _).mono ?_
  rintro e w1 ⟨rfl, b1⟩
  go_wp2_with fail
  go_ret
  exact ⟨rfl, b1⟩
def blank (x : Nat) : Bool := decide (x = 32 ∨ x = 9)
theorem has_blank (c : UInt8) : [32, 9].contains c = blank c.toNat := by
  have : ∀ c : Fin 256, ([32, 9] : List UInt8).contains (UInt8.ofNat c.val) = blank (UInt8.ofNat c.val).toNat := by decide +kernel
  have h := this ⟨c.toNat, c.toNat_lt⟩
  simpa using h
theorem sub_list (s : ByteArray) (a b : Nat) : (s.extract a b).data.toList = (s.data.toList.drop a).take (b - a) := by
  rw [ByteArray.data_extract, Array.toList_extract]
theorem byteAt_getL {s : ByteArray} {k : Nat} (h : k < s.size) : s.data.toList[k]? = some (UInt8.ofNat (byteAt s k)) := by
  have hl : s.data.toList.length = s.size := by simp
  rw [List.getElem?_eq_getElem (by omega), byteAt, List.getD_eq_getElem?_getD, List.getElem?_eq_getElem (by omega)]
  simp
/-- What is cut off on both sides is fixed by where it begins and ends. -/
theorem trim_at {s : ByteArray} {a b : Nat} (hab : a ≤ b) (hb : b ≤ s.size) (h1 : ∀ j, j < a → blank (byteAt s j) = true) (h2 : ∀ j, b ≤ j → j < s.size → blank (byteAt s j) = true) (h3 : a < b → blank (byteAt s a) = false ∧ blank (byteAt s (b - 1)) = false) (h4 : a = b → b = s.size) : trimT s = s.extract a b := by
  have hl : s.data.toList.length = s.size := by simp
  have hget : ∀ j c, s.data.toList[j]? = some c → j < s.size ∧ [32, 9].contains c = blank (byteAt s j) := fun j c hc => by
    have hj : j < s.size := by have := (List.getElem?_eq_some_iff.1 hc).1; omega
    rw [byteAt_getL hj, Option.some.injEq] at hc
    refine ⟨hj, ?_⟩
    rw [← hc, has_blank]
    congr 1
    have := byteAt_lt s j
    simp
    omega
  apply ByteArray.ext
  apply Array.toList_inj.1
  have ht : (s.extract a b).data.toList = (s.data.toList.take b).drop a := by rw [sub_list, List.drop_take]
  rw [ht]
  show Lib.trimS s.data.toList [32, 9] = _
  unfold Lib.trimS
  rcases Nat.lt_or_eq_of_le hab with hlt | he
  · rw [Lib.trimRightS_take _ _ b (by omega) (fun j c hj hc => by obtain ⟨hj2, e⟩ := hget j c hc; rw [e]; exact h2 j hj hj2) (fun c _ hc => by obtain ⟨_, e⟩ := hget _ c hc; rw [e]; exact (h3 hlt).2)]
    exact Lib.trimLeftS_drop _ _ a (by simp; omega) (fun j c hj hc => by
      rw [List.getElem?_take, if_pos (by omega)] at hc
      obtain ⟨_, e⟩ := hget j c hc
      rw [e]
      exact h1 j hj) (fun c hc => by
      rw [List.getElem?_take, if_pos hlt] at hc
      obtain ⟨_, e⟩ := hget _ c hc
      rw [e]
      exact (h3 hlt).1)
  · have hbs := h4 he
    subst he
    rw [Lib.trimRightS_take _ _ 0 (by omega) (fun j c _ hc => by obtain ⟨hj2, e⟩ := hget j c hc; rw [e]; exact h1 j (by omega)) (fun c h0 _ => by omega)]
    rw [List.drop_eq_nil_of_le (by rw [List.length_take]; omega)]
    rfl
theorem sub_sub (s : ByteArray) (a b i j : Nat) (h : a + j ≤ b) : (s.extract a b).extract i j = s.extract (a + i) (a + j) := by
  apply ByteArray.ext
  apply Array.toList_inj.1
  rw [sub_list, sub_list, sub_list, List.drop_take, List.drop_drop, List.take_take]
  congr 1
  omega
theorem sub_size {s : ByteArray} {a b : Nat} (hb : b ≤ s.size) : (s.extract a b).size = b - a := by simp; omega
theorem sub_byte {s : ByteArray} {a b i : Nat} (hi : a + i < b) : byteAt (s.extract a b) i = byteAt s (a + i) := by
  unfold byteAt
  rw [sub_list]
  simp only [List.getD_eq_getElem?_getD, List.getElem?_take, List.getElem?_drop]
  rw [if_pos (by omega)]
/-- How long the text in a slot is. -/
def szOf : Value → Nat | .string t => t.size | _ => 0
theorem blank_or {x : Nat} (h : blank x = true) : x = 32 ∨ (x ≠ 32 ∧ x = 9) := by simp only [blank, decide_eq_true_eq] at h; omega
theorem blank_no {x : Nat} (h : blank x = false) : ((x : Int) == 32) = false ∧ ((x : Int) == 9) = false := by
  simp only [blank, decide_eq_false_iff_not] at h
  constructor
  · simp; omega
  · simp; omega
set_option maxRecDepth 20000 in
set_option maxHeartbeats 8000000 in
theorem rtrim_any (s : ByteArray) (hs : s.size ≤ 140737488355328) (w : World) : Calls Tryd.prog 38 #[.string s] w fun e w' => e = .returned (.string (trimT s)) ∧ w' = w := by
  obtain ⟨T, hT⟩ : ∃ T, trimT s = T := ⟨_, rfl⟩
  have HT : Hid _ := hT
  rw [hT]
  clear hT
  go_enter Tryd.func38, Tryd.ntmps38
  go_wp2_with fail
  go_loopw [0] (fun v wr => ∃ (a : Nat) (t : ByteArray), v = .string t ∧ a ≤ s.size ∧ Hid (t = s.extract a s.size) ∧ Hid (∀ j, j < a → blank (byteAt s j) = true) ∧ wr = w) (fun v _ => szOf v)
  case atStart => exact ⟨0, s, rfl, Nat.zero_le _, by rw [Hid]; apply ByteArray.ext; simp, fun j hj => by omega, rfl⟩
  case round =>
    obtain ⟨a, t, rfl, ha, HTE, HJ, rfl⟩ := hrel
    have hts : t.size = s.size - a := by rw [HTE.out, sub_size (Nat.le_refl _)]
    by_cases hgo : a < s.size ∧ blank (byteAt s a) = true
    · obtain ⟨hlt, hbl⟩ := hgo
      have he := empty_no (t := t) (by omega)
      have r0 := fun W => run_byte t (i := 0) (z := 0) rfl (by omega) W
      have hx0 : byteAt t 0 = byteAt s a := by rw [HTE.out, sub_byte (by omega), Nat.add_zero]
      rw [hx0] at r0
      have HX : Hid (t.extract 1 t.size = s.extract (a + 1) s.size) := by
        rw [Hid, hts, HTE.out, sub_sub s a s.size 1 (s.size - a) (by omega)]
        congr 1
        omega
      have HJ2 : Hid (∀ j, j < a + 1 → blank (byteAt s j) = true) := fun j hj => by
        rcases Nat.lt_succ_iff_lt_or_eq.1 hj with h | rfl
        · exact HJ.out j h
        · exact hbl
      have ht1 : (1 : Int) ≤ (t.size : Int) := by omega
      have HTS : Hid _ := hts
      obtain ⟨x, hx⟩ : ∃ x, byteAt s a = x := ⟨_, rfl⟩
      rw [hx] at r0 hbl
      have hb2 := blank_or hbl
      clear hx hx0 hbl hts HJ
      rcases hb2 with rfl | ⟨h32, rfl⟩
      all_goals
        go_wp2_with fail
        go_roundw
        case rel => exact ⟨a + 1, _, rfl, by omega, HX.out, HJ2.out, by first | rfl | trivial⟩
        case measure => have := HTS.out; simp [szOf]; omega
    · have hA : a < s.size → blank (byteAt s a) = false := fun h => by
        cases hq : blank (byteAt s a) with
        | false => rfl
        | true => exact absurd ⟨h, hq⟩ hgo
      have HAA : Hid _ := hA
      have HTS : Hid _ := hts
      have hex : (t.toList.isEmpty = true ∧ a = s.size) ∨ (∃ x : Nat, t.toList.isEmpty = false ∧ a < s.size ∧ (∀ W, (Instr.index 9 (.string t) (.int .i64 0)).run Tryd.prog W = .ok (.int .u8 (x : Int)) W) ∧ ((x : Int) == 32) = false ∧ ((x : Int) == 9) = false) := by
        by_cases h0 : a < s.size
        · refine Or.inr ⟨byteAt s a, empty_no (by omega), h0, fun W => ?_, blank_no (hA h0)⟩
          have hx0 : byteAt t 0 = byteAt s a := by rw [HTE.out, sub_byte (by omega), Nat.add_zero]
          rw [← hx0]
          exact run_byte t (i := 0) (z := 0) rfl (by omega) W
        · exact Or.inl ⟨empty_yes (by omega), by omega⟩
      clear hgo hts hA
      rcases hex with ⟨he, hae⟩ | ⟨x, he, hae, r0, q1, q2⟩
      all_goals
        go_wp2_with fail
        clear he
        go_loopw [0] (fun v w2 => ∃ (b : Nat) (t : ByteArray), v = .string t ∧ a ≤ b ∧ b ≤ s.size ∧ Hid (t = s.extract a b) ∧ Hid (∀ j, b ≤ j → j < s.size → blank (byteAt s j) = true) ∧ Hid (a < b ∨ a = s.size) ∧ w2 = wr) (fun v _ => szOf v)
        case atStart => exact ⟨s.size, t, rfl, by omega, Nat.le_refl _, HTE.out, fun j h1 h2 => by omega, by rw [Hid]; omega, rfl⟩
        case round =>
          try clear r0
          obtain ⟨b, u, rfl, hab, hbs, HU, HK, HL, rfl⟩ := hrel
          have hus : u.size = b - a := by rw [HU.out, sub_size hbs]
          by_cases hgo : a < b ∧ blank (byteAt s (b - 1)) = true
          · obtain ⟨hlt, hbl⟩ := hgo
            have he := empty_no (t := u) (by omega)
            have r0 := fun W => run_byte u (i := u.size - 1) (z := (u.size : Int) - 1) (by omega) (by omega) W
            have hx0 : byteAt u (u.size - 1) = byteAt s (b - 1) := by
              rw [hus, HU.out, sub_byte (by omega)]
              congr 1
              omega
            rw [hx0] at r0
            have hne : a < b - 1 := by
              rcases Nat.lt_or_eq_of_le (show a ≤ b - 1 by omega) with h | h
              · exact h
              · rw [← h, HAA.out (by omega)] at hbl; cases hbl
            have HX : Hid (u.extract 0 (u.size - 1) = s.extract a (b - 1)) := by
              rw [Hid, hus, HU.out, sub_sub s a b 0 (b - a - 1) (by omega)]
              congr 1
              omega
            have HK2 : Hid (∀ j, b - 1 ≤ j → j < s.size → blank (byteAt s j) = true) := fun j h1 h2 => by
              rcases Nat.lt_or_eq_of_le h1 with h | rfl
              · exact HK.out j (by omega) h2
              · exact hbl
            have hu1 : (1 : Int) ≤ (u.size : Int) := by omega
            have hu2 : (u.size : Int) ≤ 140737488355328 := by omega
            have HUS : Hid _ := hus
            obtain ⟨x, hx⟩ : ∃ x, byteAt s (b - 1) = x := ⟨_, rfl⟩
            rw [hx] at r0 hbl
            have hb2 := blank_or hbl
            have HNE : Hid _ := hne
            clear hx hx0 hbl hus HK hne
            rcases hb2 with rfl | ⟨h32, rfl⟩
            all_goals
              go_wp2_with fail
              go_roundw
              case rel => exact ⟨b - 1, _, rfl, by omega, by omega, by first | exact HX.out | (have := HX.out; rw [← this]; congr 1), HK2.out, Or.inl HNE.out, by first | rfl | trivial⟩
              case measure => have := HUS.out; simp [szOf]; omega
          · have hR : T = u := by
              rw [← HT.out, HU.out]
              refine trim_at hab hbs HJ.out HK.out (fun h => ⟨HAA.out (by omega), ?_⟩) (fun h => ?_)
              · cases hq : blank (byteAt s (b - 1)) with
                | false => rfl
                | true => exact absurd ⟨h, hq⟩ hgo
              · rcases HL.out with h2 | h2 <;> omega
            have hex : (u.toList.isEmpty = true) ∨ (∃ x : Nat, u.toList.isEmpty = false ∧ (1 : Int) ≤ (u.size : Int) ∧ (u.size : Int) ≤ 140737488355328 ∧ (∀ W, (Instr.index 9 (.string u) (.int .i64 ((u.size : Int) - 1))).run Tryd.prog W = .ok (.int .u8 (x : Int)) W) ∧ ((x : Int) == 32) = false ∧ ((x : Int) == 9) = false) := by
              by_cases h0 : a < b
              · refine Or.inr ⟨byteAt s (b - 1), empty_no (by omega), by omega, by omega, fun W => ?_, blank_no ?_⟩
                · have hx0 : byteAt u (u.size - 1) = byteAt s (b - 1) := by
                    rw [hus, HU.out, sub_byte (by omega)]
                    congr 1
                    omega
                  rw [← hx0]
                  exact run_byte u (i := u.size - 1) (z := (u.size : Int) - 1) (by omega) (by omega) W
                · cases hq : blank (byteAt s (b - 1)) with
                  | false => rfl
                  | true => exact absurd ⟨h0, hq⟩ hgo
              · exact Or.inl (empty_yes (by omega))
            have HR : Hid _ := hR
            clear hgo hus hR
            rcases hex with he | ⟨x, he, hu1, hu2, r0, q1, q2⟩
            all_goals
              go_wp2_with fail
              go_ret
              exact ⟨by rw [HR.out]; rfl, rfl⟩
end Go.Proofs.YthhhoppmbimeiaaDoor
