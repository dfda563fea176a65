/-
  Rows of runes, and the contract of sameRunes where both hold the same.
-/
import Derived.Test.YtbhlpiilklgnkaaRunes
namespace Go.Proofs.Ytbhlpiilklgnkaa
open Go.RowKit
/-- From an address on there stand these runes. -/
def RunesAt (W : World) (a : Option Addr) (l : List Int) : Prop := ∀ j z, l[j]? = some z → ∃ b off, a = some ⟨b, off, none⟩ ∧ b < W.heap.size ∧ W.cell? ⟨b, off + j, none⟩ = some (.int .i32 z)
theorem RunesAt.below {W W' : World} {a : Option Addr} {l : List Int} (h : RunesAt W a l) (B : Below W.heap.size W W') : RunesAt W' a l := fun j z hj => by
  obtain ⟨b, off, e, hb, hc⟩ := h j z hj
  exact ⟨b, off, e, Nat.lt_of_lt_of_le hb B.size, (B.cell (p := ⟨b, off + j, none⟩) hb).trans hc⟩
theorem RunesAt.belowB {B : Nat} {W W' : World} {a : Option Addr} {l : List Int} (h : RunesAt W a l) (hB : W.heap.size ≤ B) (B' : Below B W W') : RunesAt W' a l := h.below (B'.mono hB)
theorem row_runes {W : World} {base : Nat} {a : Option Addr} {cap : Nat} {l : List Nat} (h : W.ownsRow base 21 1 (.slice a l.length cap) l.length (rcells l)) : RunesAt W a (l.map Int.ofNat) := by
  intro j z hj
  rcases h.2 with ⟨hv, h0⟩ | ⟨g, cp, cur, hv, hg, hr⟩
  · rw [List.getElem?_eq_none (by simp; omega)] at hj
    cases hj
  · simp only [Value.slice.injEq] at hv
    obtain ⟨rfl, _, rfl⟩ := hv
    have := h.cells rfl j (.int .i32 z) (by
      rw [List.getElem?_map] at hj
      simp only [rcells, List.getElem?_map]
      cases hq : l[j]? with
      | none => rw [hq] at hj; cases hj
      | some y => rw [hq] at hj; simp only [Option.map_some, Option.some.injEq] at hj ⊢; rw [← hj]; rfl)
    rw [add_off] at this
    exact ⟨g, 0, rfl, (h.lt g rfl).2, this⟩
set_option maxRecDepth 20000 in
set_option maxHeartbeats 2000000 in
theorem sameRunes_eq (a b : Option Addr) (ca cb : Nat) (l : List Int) (w : World) (ha : RunesAt w a l) (hb : RunesAt w b l) (hl : l.length ≤ 140737488355328) :
    Calls Try.prog 11 #[.slice a l.length ca, .slice b l.length cb] w fun e w' => e = .returned (.bool true) ∧ Below w.heap.size w w' := by
  have hne : ((l.length : Int) != (l.length : Int)) = false := by simp
  have HA : Hid _ := ha
  have HB : Hid _ := hb
  clear ha hb
  go_enter Try.func11, Try.ntmps11
  go_wp2_with fail
  go_loopw [5] (fun i wr => ∃ k n : Nat, k ≤ l.length ∧ i = .int .i64 (k : Int) ∧ wr = w.drewN n) (fun i _ => l.length - (intOf i).toNat)
  case atStart => exact ⟨0, 0, by omega, rfl, rfl⟩
  case round =>
    obtain ⟨k, n, hk, rfl, rfl⟩ := hrel
    by_cases hlt : k < l.length
    · have hz : l[k]? = some l[k] := List.getElem?_eq_getElem hlt
      obtain ⟨z, hzz⟩ : ∃ z, l[k] = z := ⟨_, rfl⟩
      rw [hzz] at hz
      obtain ⟨p, off, rfl, _, h1⟩ := HA.out k z hz
      obtain ⟨q, of2, rfl, _, h2⟩ := HB.out k z hz
      have h1' : (w.drewN n).cell? ⟨p, off + k, none⟩ = some (.int .i32 z) := h1
      have h2' : (w.drewN n).cell? ⟨q, of2 + k, none⟩ = some (.int .i32 z) := h2
      have hlz : (k : Int) < (l.length : Int) := by omega
      have hzn : (z != z) = false := by simp
      obtain ⟨W, hW⟩ : ∃ W, w.drewN n = W := ⟨_, rfl⟩
      have HW : Hid _ := hW
      rw [hW] at h1' h2' ⊢
      clear hz hzz hW h1 h2 HA HB
      go_wp2_with fail
      go_quiet (fail)
      go_wp2_with fail
      go_roundw
      case rel => exact ⟨k + 1, n + nq, by omega, by go_num, by rw [← HW.out]; first | rfl | (simp [World.drewN, Nat.add_assoc])⟩
      case measure => simp [intOf]; omega
    · have hlz : ¬ (k : Int) < (l.length : Int) := by omega
      go_wp2_with fail
      go_ret
      exact ⟨rfl, below_drewN (Below.refl _ _) n⟩
end Go.Proofs.Ytbhlpiilklgnkaa
