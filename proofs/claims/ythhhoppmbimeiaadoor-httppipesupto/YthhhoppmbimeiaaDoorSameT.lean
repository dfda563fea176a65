/-
  Rows of texts, and the contract of sameTexts where both hold the same.
-/
import Derived.Test.YthhhoppmbimeiaaDoorCloses
namespace Go.Proofs.YthhhoppmbimeiaaDoor
open Go.RowKit
/-- From an address on there stand these texts. -/
def TextsAt (W : World) (a : Option Addr) (l : List ByteArray) : Prop := ∀ j z, l[j]? = some z → ∃ b off, a = some ⟨b, off, none⟩ ∧ b < W.heap.size ∧ W.cell? ⟨b, off + j, none⟩ = some (.string z)
theorem TextsAt.below {W W' : World} {a : Option Addr} {l : List ByteArray} (h : TextsAt W a l) (B : Below W.heap.size W W') : TextsAt W' a l := fun j z hj => by
  obtain ⟨b, off, e, hb, hc⟩ := h j z hj
  exact ⟨b, off, e, Nat.lt_of_lt_of_le hb B.size, (B.cell (p := ⟨b, off + j, none⟩) hb).trans hc⟩
theorem row_texts {W : World} {base n cap : Nat} {a : Option Addr} {l : List ByteArray} (h : W.ownsRow base 9 1 (.slice a n cap) n (strV l)) : TextsAt W a l := by
  intro j z hj
  obtain ⟨g, e, _, hg, hc⟩ := owns_str h hj
  exact ⟨g, 0, e, hg, by rw [Nat.zero_add]; exact hc⟩
set_option maxRecDepth 20000 in
set_option maxHeartbeats 2000000 in
theorem sameTexts_eq (a b : Option Addr) (ca cb : Nat) (l : List ByteArray) (w : World) (ha : TextsAt w a l) (hb : TextsAt w b l) (hl : l.length ≤ 140737488355328) :
    Calls Tryd.prog 14 #[.slice a l.length ca, .slice b l.length cb] w fun e w' => e = .returned (.bool true) ∧ Below w.heap.size w w' := by
  have hne : ((l.length : Int) != (l.length : Int)) = false := by simp
  have HA : Hid _ := ha
  have HB : Hid _ := hb
  clear ha hb
  go_enter Tryd.func14, Tryd.ntmps14
  go_wp2_with fail
  go_loopw [5] (fun i wr => ∃ k n : Nat, k ≤ l.length ∧ i = .int .i64 (k : Int) ∧ wr = w.drewN n) (fun i _ => l.length - (intOf i).toNat)
  case atStart => exact ⟨0, 0, by omega, rfl, rfl⟩
  case round =>
    obtain ⟨k, n, hk, rfl, rfl⟩ := hrel
    by_cases hlt : k < l.length
    · have hz : l[k]? = some l[k] := List.getElem?_eq_getElem hlt
      obtain ⟨z, hzz⟩ : ∃ z, l[k] = z := ⟨_, rfl⟩
      rw [hzz] at hz
      obtain ⟨p, off, rfl, _, h1⟩ := HA.out k z hz
      obtain ⟨q, of2, rfl, _, h2⟩ := HB.out k z hz
      have h1' : (w.drewN n).cell? ⟨p, off + k, none⟩ = some (.string z) := h1
      have h2' : (w.drewN n).cell? ⟨q, of2 + k, none⟩ = some (.string z) := h2
      have hlz : (k : Int) < (l.length : Int) := by omega
      have hzn : (z.toList != z.toList) = false := by simp
      obtain ⟨W, hW⟩ : ∃ W, w.drewN n = W := ⟨_, rfl⟩
      have HW : Hid _ := hW
      rw [hW] at h1' h2' ⊢
      clear hz hzz hW h1 h2 HA HB
      go_wp2_with fail
      go_quiet (fail)
      go_wp2_with fail
      go_roundw
      case rel => exact ⟨k + 1, n + nq, by omega, by go_num, by rw [← HW.out]; first | rfl | (simp [World.drewN, Nat.add_assoc])⟩
      case measure => simp [intOf]; omega
    · obtain rfl : k = l.length := by omega
      go_wp2_with fail
      go_ret
      exact ⟨rfl, ⟨rfl, rfl, rfl, Nat.le_refl _, fun _ _ => rfl⟩⟩
end Go.Proofs.YthhhoppmbimeiaaDoor
