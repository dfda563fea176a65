/-
  The bytes that a key's versions take.
-/
import Derived.Test.YtohamjoiohfoiaaBase
namespace Go.Proofs.Ytohamjoiohfoiaa
open Go.RowKit
/-- One cell's bytes on top of a sum, as the code adds them. -/
def wtStep (s : Int) (c : Cl) : Int := wrap64 (s + wrap64 (wrap64 ((c.key.size : Int) + (c.val.size : Int)) + 16))
def wtI (l : List Cl) : Int := l.foldl wtStep 0
theorem wtI_take {l : List Cl} {k : Nat} {c : Cl} (h : l[k]? = some c) : wtI (l.take (k + 1)) = wtStep (wtI (l.take k)) c := by
  rw [wtI, wtI, List.take_add_one, h]
  simp [List.foldl_append]
set_option maxRecDepth 100000 in
set_option maxHeartbeats 2000000 in
theorem weight_any (B n c : Nat) (a : Option Addr) (l : List Cl) (w : World) (h : CA B w a l) (hl : l.length = n) (hB : B ≤ w.heap.size) (hn : n < 1000000000000000) :
    Calls Try.prog 30 #[.slice a n c] w fun r w' => r = .returned (.int .i64 (wtI l)) ∧ Below w.heap.size w w' := by
  have HC : Hid _ := h
  have HL : Hid _ := hl
  clear h hl
  go_enter Try.func30, Try.ntmps30
  go_wp2_with fail
  go_loopw [3, 8] (fun s i wr => ∃ (k : Nat) (t : Int), k ≤ n ∧ s = .int .i64 t ∧ i = .int .i64 (k : Nat) ∧ Hid (wtI (l.take k) = t) ∧ Hid (Below w.heap.size w wr)) (fun _ i _ => n - (intOf i).toNat)
  case atStart => exact ⟨0, 0, by omega, rfl, rfl, by rw [Hid, List.take_zero]; rfl, Below.refl _ _⟩
  case round =>
    obtain ⟨k, t, hkn, rfl, rfl, HE, HB⟩ := hrel
    by_cases hlt : k < n
    · obtain ⟨x, hx⟩ : ∃ x, l[k]? = some x := ⟨l[k]'(by rw [HL.out]; exact hlt), List.getElem?_eq_getElem _⟩
      have HC2 : CA B wr a l := CA.below HC.out (fun b hb => HB.out.block b (by omega))
      obtain ⟨b, off, rfl, _, x0, x1, x2, x3⟩ := HC2 k x hx
      have HX : Hid (wtI (l.take (k + 1)) = wtStep t x) := by rw [Hid, wtI_take hx, HE.out]
      obtain ⟨k1, s1, v1, g1⟩ := x
      simp only at x0 x1 x2 x3
      clear hx HC2
      go_wp2_with fail
      go_roundw
      case rel => exact ⟨k + 1, wtStep t ⟨k1, s1, v1, g1⟩, by omega, by rfl, by go_num, HX.out, HB.out.alloc HB.out.size _⟩
      case measure => simp [intOf]; omega
    · have HT : Hid (wtI l = t) := by
        have := HE.out
        rw [List.take_of_length_le (by rw [HL.out]; omega)] at this
        exact this
      go_wp2_with fail
      go_ret
      exact ⟨by rw [HT.out]; rfl, HB.out⟩
end Go.Proofs.Ytohamjoiohfoiaa
