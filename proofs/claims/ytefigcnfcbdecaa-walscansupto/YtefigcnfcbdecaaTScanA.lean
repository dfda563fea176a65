/-
  The twin's zeros and number.
-/
import Derived.Test.YtefigcnfcbdecaaTScanMath
namespace Go.Proofs.Ytefigcnfcbdecaa
open Go.RowKit
theorem rzeros_any (a : Option Addr) (cap : Nat) (bs : List UInt8) (w : World) (h : BytesAt w a bs) (hl : bs.length ≤ 140737488355328) :
    Calls Try.prog 26 #[.slice a bs.length cap] w fun r w' => r = .returned (.bool (zeroB bs)) ∧ w' = w := by
  have HH : Hid _ := h
  obtain ⟨n, hn⟩ : ∃ n, bs.length = n := ⟨_, rfl⟩
  have HN : Hid _ := hn
  rw [hn] at hl ⊢
  clear h hn
  go_enter Try.func26, Try.ntmps26
  go_wp2_with fail
  go_loopw [3] (fun i wr => ∃ j : Nat, j ≤ n ∧ i = .int .i64 j ∧ Hid (∀ t, t < j → bs[t]? = some 0) ∧ wr = w) (fun i _ => n - (intOf i).toNat)
  case atStart => exact ⟨0, by omega, rfl, fun t ht => by omega, rfl⟩
  case round =>
    obtain ⟨j, hj, rfl, HE, rfl⟩ := hrel
    by_cases hlt : j < n
    · obtain ⟨x, hx⟩ : ∃ x, bs[j]? = some x := ⟨bs[j]'(by rw [HN.out]; exact hlt), List.getElem?_eq_getElem _⟩
      obtain ⟨g, og, rfl, _, x0⟩ := HH.out j x hx
      have HX : Hid _ := hx
      by_cases h0 : x = 0
      · have h0' : (x.toNat : Int) = 0 := by rw [h0]; rfl
        rw [h0'] at x0
        have HE2 : Hid (∀ t, t < j + 1 → bs[t]? = some 0) := fun t ht => by
          by_cases htj : t < j
          · exact HE.out t htj
          · obtain rfl : t = j := by omega
            rw [HX.out, h0]
        clear hx h0 h0' HX HE
        go_wp2_with fail
        go_roundw
        case rel => exact ⟨j + 1, by omega, by go_num, HE2, trivial⟩
        case measure => simp [intOf]; omega
      · have h0' : ((x.toNat : Int) == 0) = false := by
          simp
          exact fun e => h0 (UInt8.toNat_inj.1 e)
        have h0'' : ((x.toNat : Int) != 0) = true := by rw [bne, h0']; rfl
        have HR : Hid (zeroB bs = false) := by
          rw [Hid, zeroB, List.all_eq_false]
          exact ⟨x, List.mem_of_getElem? HX.out, by simpa using h0⟩
        clear hx HX HE h0
        go_wp2_with fail
        all_goals
          go_ret
          exact ⟨by rw [HR.out]; rfl, rfl⟩
    · obtain rfl : j = n := by omega
      have HR : Hid (zeroB bs = true) := by
        rw [Hid, zeroB, List.all_eq_true]
        intro x hx
        obtain ⟨t, ht, hte⟩ := List.getElem_of_mem hx
        have := HE.out t (by rw [← HN.out]; exact ht)
        rw [List.getElem?_eq_getElem ht, hte] at this
        cases this
        rfl
      go_wp2_with fail
      go_ret
      exact ⟨by rw [HR.out]; rfl, rfl⟩
/-- The number of two bytes. -/
theorem rnumber_two (b off cap : Nat) (x y : UInt8) (w : World) (h0 : w.cell? ⟨b, off, none⟩ = some (.int .u8 (x.toNat : Nat))) (h1 : w.cell? ⟨b, off + 1, none⟩ = some (.int .u8 (y.toNat : Nat))) :
    Calls Try.prog 27 #[.slice (some ⟨b, off, none⟩) 2 cap] w fun r w' => r = .returned (.int .i64 ((x.toNat * 256 + y.toNat : Nat) : Int)) ∧ w' = w := by
  have hx := x.toNat_lt
  have hy := y.toNat_lt
  go_enter Try.func27, Try.ntmps27
  go_wp2_with fail
  go_loopw [3, 4] (fun v i wr => ∃ (j m : Nat), j ≤ 2 ∧ i = .int .i64 j ∧ v = .int .i64 (m : Nat) ∧ ((j = 0 ∧ m = 0) ∨ (j = 1 ∧ m = x.toNat) ∨ (j = 2 ∧ m = x.toNat * 256 + y.toNat)) ∧ wr = w) (fun _ i _ => 2 - (intOf i).toNat)
  case atStart => exact ⟨0, 0, by omega, rfl, rfl, Or.inl ⟨rfl, rfl⟩, rfl⟩
  case round =>
    obtain ⟨j, m, hj, rfl, rfl, hc, rfl⟩ := hrel
    rcases hc with ⟨rfl, rfl⟩ | ⟨rfl, rfl⟩ | ⟨rfl, rfl⟩
    · go_wp2_with fail
      go_roundw
      case rel => exact ⟨1, x.toNat, by omega, by go_num, by go_num, Or.inr (Or.inl ⟨rfl, rfl⟩), trivial⟩
      case measure => simp [intOf]
    · go_wp2_with fail
      go_roundw
      case rel => exact ⟨2, x.toNat * 256 + y.toNat, by omega, by go_num, by go_num, Or.inr (Or.inr ⟨rfl, rfl⟩), trivial⟩
      case measure => simp [intOf]
    · go_wp2_with fail
      go_ret
      exact ⟨by simp, rfl⟩
end Go.Proofs.Ytefigcnfcbdecaa
