/-
  The contract of sameInts where both hold the same.
-/
import Derived.Test.YtdgmjmohfpjlnaaNew
namespace Go.Proofs.Ytdgmjmohfpjlnaa
open Go.RowKit
/-- Numbers from a slice's address on. -/
def IA (W : World) (a : Option Addr) (l : List Nat) : Prop := ∀ j v, l[j]? = some v → ∃ b off, a = some ⟨b, off, none⟩ ∧ W.cell? ⟨b, off + j, none⟩ = some (.int .i64 (v : Nat))
set_option maxRecDepth 20000 in
set_option maxHeartbeats 4000000 in
theorem sameInts_eq (a b : Option Addr) (ca cb : Nat) (l : List Nat) (w : World) (ha : IA w a l) (hb : IA w b l) (hl : l.length ≤ 1000000000) :
    Calls Try.prog 25 #[.slice a l.length ca, .slice b l.length cb] w fun e w' => e = .returned (.bool true) ∧ Below w.heap.size w w' := by
  have hne : ((l.length : Int) != (l.length : Int)) = false := by simp
  have HA : Hid _ := ha
  have HB : Hid _ := hb
  clear ha hb
  go_enter Try.func25, Try.ntmps25
  go_wp2_with fail
  go_loopw [13] (fun i wr => ∃ k n : Nat, k ≤ l.length ∧ i = .int .i64 (k : Int) ∧ wr = w.drewN n) (fun i _ => l.length - (intOf i).toNat)
  case atStart => exact ⟨0, 0, by omega, rfl, rfl⟩
  case round =>
    obtain ⟨k, n, hk, rfl, rfl⟩ := hrel
    by_cases hlt : k < l.length
    · have hz : l[k]? = some l[k] := List.getElem?_eq_getElem hlt
      obtain ⟨z, hzz⟩ : ∃ z, l[k] = z := ⟨_, rfl⟩
      rw [hzz] at hz
      obtain ⟨p, off, rfl, h1⟩ := HA.out k z hz
      obtain ⟨q, of2, rfl, h2⟩ := HB.out k z hz
      have h1' : (w.drewN n).cell? ⟨p, off + k, none⟩ = some (.int .i64 (z : Nat)) := h1
      have h2' : (w.drewN n).cell? ⟨q, of2 + k, none⟩ = some (.int .i64 (z : Nat)) := h2
      have hlz : (k : Int) < (l.length : Int) := by omega
      have hzn : ((z : Int) != (z : Int)) = false := by simp
      obtain ⟨W, hW⟩ : ∃ W, w.drewN n = W := ⟨_, rfl⟩
      have HW : Hid _ := hW
      rw [hW] at h1' h2' ⊢
      clear hz hzz hW h1 h2 HA HB
      go_wp2_with fail
      go_quiet (fail)
      go_wp2_with fail
      go_roundw
      case rel => exact ⟨k + 1, n + nq, by omega, by go_num, by rw [← HW.out]; first | rfl | (simp [World.drewN, Nat.add_assoc])⟩
      case measure => simp [intOf]; omega
    · obtain rfl : k = l.length := by omega
      go_wp2_with fail
      go_ret
      exact ⟨rfl, ⟨rfl, rfl, rfl, Nat.le_refl _, fun _ _ => rfl⟩⟩
end Go.Proofs.Ytdgmjmohfpjlnaa
