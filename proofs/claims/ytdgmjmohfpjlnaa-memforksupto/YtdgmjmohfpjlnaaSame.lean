/-
  Two lists of the same cells are told to be the same.
-/
import Derived.Test.YtdgmjmohfpjlnaaCel
namespace Go.Proofs.Ytdgmjmohfpjlnaa
open Go.RowKit Go.Shelf
set_option maxRecDepth 100000 in
set_option maxHeartbeats 2000000 in
theorem same_eq (a b : Option Addr) (n ca cb : Nat) (l : List Cl) (w : World) (ha : CA w.heap.size w a l) (hb : CA w.heap.size w b l) (hl : l.length = n) (hn : n < 1000000000000000) :
    Calls Try.prog 18 #[.slice a n ca, .slice b n cb] w fun r w' => r = .returned (.bool true) ∧ ∃ q, w' = w.drewN q := by
  have HA : Hid (CA w.heap.size w a l) := ha
  have HB : Hid (CA w.heap.size w b l) := hb
  have HL : Hid (l.length = n) := hl
  have hnn : ((n : Int) != (n : Int)) = false := by simp
  clear ha hb hl
  go_enter Try.func18, Try.ntmps18
  go_wp2_with fail
  go_loopw [13] (fun i wr => ∃ k : Nat, k ≤ n ∧ i = .int .i64 (k : Nat) ∧ ∃ q, wr = w.drewN q) (fun i _ => n - (intOf i).toNat)
  case atStart => exact ⟨0, by omega, rfl, 0, rfl⟩
  case round =>
    obtain ⟨k, hk, rfl, q, rfl⟩ := hrel
    by_cases hlt : k < n
    · obtain ⟨c, hc⟩ : ∃ c, l[k]? = some c := ⟨l[k]'(by rw [HL.out]; exact hlt), List.getElem?_eq_getElem _⟩
      obtain ⟨g, og, rfl, _, x0, x1, x2, x3⟩ := HA.out k c hc
      obtain ⟨h, oh, rfl, _, y0, y1, y2, y3⟩ := HB.out k c hc
      obtain ⟨ck, cs, cv, cg⟩ := c
      simp only at x0 x1 x2 x3 y0 y1 y2 y3
      clear hc
      go_wp2_with fail
      go_quiet (fail)
      go_wp2_with fail
      go_roundw
      case rel => exact ⟨k + 1, by omega, by go_num, q + nq, by simp⟩
      case measure => simp [intOf]; omega
    · obtain rfl : k = n := by omega
      go_wp2_with fail
      go_ret
      exact ⟨rfl, q, rfl⟩
end Go.Proofs.Ytdgmjmohfpjlnaa
