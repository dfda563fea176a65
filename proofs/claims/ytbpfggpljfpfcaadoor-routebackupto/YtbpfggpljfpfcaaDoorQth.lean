/-
  The contract of the twin's Target.
-/
import Derived.Test.YtbpfggpljfpfcaaDoorQdi
import Derived.Deep.CutRange
namespace Go.Proofs.YtbpfggpljfpfcaaDoor
open Go.RowKit
theorem sel_t {b : Bool} {m t : List UInt8} (hb : b = true) (hl : t.length ≤ 1024) : selR b m t = some (m, t) := by unfold selR; rw [if_pos ⟨hb, hl⟩]
theorem sel_f {b : Bool} {m t : List UInt8} (h : b = false ∨ 1024 < t.length) : selR b m t = none := by
  unfold selR
  rw [if_neg (fun q => by rcases h with h | h; rw [h] at q; exact absurd q.1 (by decide); omega)]
theorem ne_list {a : List UInt8} (h : a ≠ []) : a.isEmpty = false := by cases a with
  | nil => exact absurd rfl h
  | cons _ _ => rfl
theorem ne_bOf {a : List UInt8} (h : a ≠ []) : ¬ (bOf a).toList = [] := fun e => h (by rw [ByteArray.toList_eq] at e; exact e)
end Go.Proofs.YtbpfggpljfpfcaaDoor
