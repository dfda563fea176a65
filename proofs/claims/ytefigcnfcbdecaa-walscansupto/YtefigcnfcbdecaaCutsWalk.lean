/-
  The walk of WalCuts: whatever the records and the place of the cut, the call returns true, and turns nothing that was there.
-/
import Derived.Test.YtefigcnfcbdecaaLaid
import Derived.Test.YtefigcnfcbdecaaLongerWalk
namespace Go.Proofs.Ytefigcnfcbdecaa
open Go.RowKit
def mkS (rs : List (List UInt8)) : List ByteArray := rs.map fun r => ⟨r.toArray⟩
theorem texts_recs : ∀ (rs : List (List UInt8)) (t : Nat), textsOf (recsOf rs t) = mkS rs
  | [], _ => rfl
  | r :: rs, t => by
    have := texts_recs rs (t + (layL t r).length)
    rw [recsOf, textsOf, List.map_cons, ← textsOf, this]
    rfl
theorem strs_of_rows {W : World} {base n : Nat} {a : Option Addr} {cap : Nat} {rs : List (List UInt8)} (h : W.ownsRow base 9 1 (.slice a n cap) n (rs.map strV)) (hn : rs.length = n) : StrsAt W a (mkS rs) := by
  intro j s hj
  rw [mkS, List.getElem?_map] at hj
  cases hr : rs[j]? with
  | none => rw [hr] at hj; cases hj
  | some r =>
    rw [hr] at hj
    cases hj
    have hl := (List.getElem?_eq_some_iff.1 hr).1
    rcases h.2 with ⟨hv, h0⟩ | ⟨g, cap', cur, hv, _⟩
    · omega
    · simp only [Value.slice.injEq] at hv
      obtain ⟨rfl, _, _⟩ := hv
      have hc := h.cells (g := g) rfl j (strV r) (by rw [List.getElem?_map, hr]; rfl)
      rw [addr_add, Nat.zero_add] at hc
      exact ⟨g, 0, rfl, World.block_lt_of_cell? W _ hc, by rw [Nat.zero_add]; exact hc⟩
/-- How many records end by n. -/
def kN (rs : List (List UInt8)) (n : Nat) : Nat := ((recsOf rs 0).takeWhile (fun x => decide (x.2 ≤ n))).length
theorem tw_take {α : Type} (f : α → Bool) : ∀ l : List α, l.takeWhile f = l.take (l.takeWhile f).length
  | [] => rfl
  | x :: l => by
    rw [List.takeWhile_cons]
    split
    · rw [List.length_cons, List.take_succ_cons, ← tw_take f l]
    · rfl
theorem tw_in {α : Type} (f : α → Bool) : ∀ (l : List α) (j : Nat) (x : α), j < (l.takeWhile f).length → l[j]? = some x → f x = true
  | [], j, x, h, _ => by simp at h
  | y :: l, j, x, h, hx => by
    rw [List.takeWhile_cons] at h
    by_cases hy : f y = true
    · rw [if_pos hy, List.length_cons] at h
      cases j with
      | zero => simp at hx; rw [← hx]; exact hy
      | succ j => exact tw_in f l j x (by omega) (by simpa using hx)
    · rw [if_neg hy] at h
      simp at h
theorem tw_out {α : Type} (f : α → Bool) : ∀ (l : List α) (x : α), l[(l.takeWhile f).length]? = some x → f x = false
  | [], x, h => by simp at h
  | y :: l, x, hx => by
    rw [List.takeWhile_cons] at hx
    by_cases hy : f y = true
    · rw [if_pos hy, List.length_cons] at hx
      exact tw_out f l x (by simpa using hx)
    · rw [if_neg hy] at hx
      simp at hx
      rw [← hx]
      simpa using hy
theorem kN_le (rs : List (List UInt8)) (n : Nat) : kN rs n ≤ rs.length := by
  rw [← recs_count rs 0, kN]
  exact (List.takeWhile_prefix _).length_le
theorem kN_in {rs : List (List UInt8)} {n j : Nat} {r : Rec} (h : j < kN rs n) (hr : (recsOf rs 0)[j]? = some r) : r.2 ≤ n := by simpa using tw_in _ _ j r h hr
theorem kN_out {rs : List (List UInt8)} {n : Nat} {r : Rec} (hr : (recsOf rs 0)[kN rs n]? = some r) : n < r.2 := by simpa using tw_out _ _ r hr
/-- What Scan tells of the first n bytes. -/
theorem scan_first (rs : List (List UInt8)) (n : Nat) : (scanL ((logOf rs 0).take n)).1 = (recsOf rs 0).take (kN rs n) := by
  rw [(scan_cut rs n).1, kN]
  exact tw_take _ _
theorem end_take {l : List Rec} {k : Nat} {r : Rec} (hr : l[k]? = some r) : endOf (l.take (k + 1)) = r.2 := by
  have hk := (List.getElem?_eq_some_iff.1 hr).1
  rw [List.take_add_one, hr]
  exact endOf_snoc _ _
theorem end_none (l : List Rec) : endOf (l.take 0) = 0 := rfl
theorem texts_take (rs : List (List UInt8)) (k : Nat) : textsOf ((recsOf rs 0).take k) = (mkS rs).take k := by
  rw [← texts_recs rs 0, textsOf, textsOf, List.map_take]
end Go.Proofs.Ytefigcnfcbdecaa
