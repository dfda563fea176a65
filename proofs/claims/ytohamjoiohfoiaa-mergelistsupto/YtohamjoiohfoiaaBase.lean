/-
  Cells in memory; rows of them; what is kept but for some blocks.
-/
import Derived.Test.YtohamjoiohfoiaaChecked
import Derived.LoopTactic
import Derived.RegionTactic
import Derived.BigQuiet
import Derived.BigRegion
import Derived.Deep.QuietTactic
import Derived.Deep.RegionWith
import Derived.Deep.RegionHeld
import Derived.Deep.CutRange
import Derived.RangeFuncBox
import Derived.WalkKit
import Derived.Laws.MakeOwn
import Derived.Laws.AppendOwn
import Derived.Laws.AppendOwnNone
import Derived.LoopN
namespace Go.Proofs.Ytohamjoiohfoiaa
open Go.RowKit
/-- A cell. -/
structure Cl where
  key : ByteArray
  seq : Nat
  val : ByteArray
  gone : Bool
def clV (c : Cl) : Value := .agg #[.string c.key, .int .u64 (c.seq : Nat), .string c.val, .bool c.gone]
def clL (c : Cl) : List Value := [.string c.key, .int .u64 (c.seq : Nat), .string c.val, .bool c.gone]
def flC (l : List Cl) : List Value := l.flatMap clL
theorem addr_add (b off j : Nat) : (⟨b, off, none⟩ : Addr).add j = ⟨b, off + j, none⟩ := by by_cases hi0 : j = 0 <;> simp [Addr.add, hi0]
theorem belD (w : World) (q : Nat) : Below w.heap.size w (w.drewN q) := ⟨rfl, rfl, rfl, Nat.le_refl _, fun _ _ => rfl⟩
theorem cells_of_block {w : World} {x : Nat} {c : Array Value} {t : TypeId} {f : Nat × Nat} (h : w.heap[x]? = some (.cells c t f)) (j : Nat) : w.cell? ⟨x, j, none⟩ = c[j]? := by simp [World.cell?, h]
/-- Cells from a slice's address on, in blocks below B. -/
def CA (B : Nat) (w : World) (a : Option Addr) (l : List Cl) : Prop :=
  ∀ j c, l[j]? = some c → ∃ b off, a = some ⟨b, off, none⟩ ∧ b < B ∧ w.cell? ⟨b, off + j * 4, none⟩ = some (.string c.key) ∧ w.cell? ⟨b, off + j * 4 + 1, none⟩ = some (.int .u64 (c.seq : Nat)) ∧ w.cell? ⟨b, off + j * 4 + 2, none⟩ = some (.string c.val) ∧ w.cell? ⟨b, off + j * 4 + 3, none⟩ = some (.bool c.gone)
theorem CA.below {B : Nat} {w w' : World} {a : Option Addr} {l : List Cl} (h : CA B w a l) (k : ∀ b, b < B → w'.heap[b]? = w.heap[b]?) : CA B w' a l := by
  intro j c hj
  obtain ⟨b, off, ha, hb, h0, h1, h2, h3⟩ := h j c hj
  refine ⟨b, off, ha, hb, ?_, ?_, ?_, ?_⟩ <;> (simp only [World.cell?] at h0 h1 h2 h3 ⊢; rw [k b hb]; assumption)
theorem CA.up {B B' : Nat} {w : World} {a : Option Addr} {l : List Cl} (h : CA B w a l) (hB : B ≤ B') : CA B' w a l := by
  intro j c hj
  obtain ⟨b, off, ha, hb, h0⟩ := h j c hj
  exact ⟨b, off, ha, by omega, h0⟩
theorem CA.nil (B : Nat) (w : World) (a : Option Addr) : CA B w a [] := fun j v h => by simp at h
/-- Does a cell stand ahead of another one? -/
def lessC (a b : Cl) : Bool := if (a.key.toList == b.key.toList) = true then decide (b.seq < a.seq) else Op.bytesLess a.key.toList b.key.toList
set_option maxHeartbeats 1000000 in
theorem less_any (a b : Cl) (w : World) : Calls Try.prog 10 #[clV a, clV b] w fun r w' => r = .returned (.bool (lessC a b)) ∧ Below w.heap.size w w' := by
  obtain ⟨k1, s1, v1, g1⟩ := a
  obtain ⟨k2, s2, v2, g2⟩ := b
  simp only [clV]
  cases h : (k1.toList == k2.toList) with
  | true =>
    have hl : Hid (lessC ⟨k1, s1, v1, g1⟩ ⟨k2, s2, v2, g2⟩ = decide (s2 < s1)) := by unfold lessC; rw [Hid, if_pos h]
    go_enter Try.func10, Try.ntmps10
    go_wp2_with fail
    go_ret
    exact ⟨by rw [hl.out]; rfl, ((Below.refl _ _).alloc (Nat.le_refl _) _).alloc (by simp) _⟩
  | false =>
    have hl : Hid (lessC ⟨k1, s1, v1, g1⟩ ⟨k2, s2, v2, g2⟩ = Op.bytesLess k1.toList k2.toList) := by unfold lessC; rw [Hid, if_neg (by rw [h]; decide)]
    go_enter Try.func10, Try.ntmps10
    go_wp2_with fail
    go_ret
    exact ⟨by rw [hl.out]; rfl, ((Below.refl _ _).alloc (Nat.le_refl _) _).alloc (by simp) _⟩
theorem bytesLess_irrefl (l : List UInt8) : Op.bytesLess l l = false := by
  induction l with
  | nil => rfl
  | cons a l ih => simp [Op.bytesLess, ih]
set_option maxHeartbeats 1000000 in
theorem rless_any (a b : Cl) (w : World) : Calls Try.prog 11 #[clV a, clV b] w fun r w' => r = .returned (.bool (lessC a b)) ∧ Below w.heap.size w w' := by
  obtain ⟨k1, s1, v1, g1⟩ := a
  obtain ⟨k2, s2, v2, g2⟩ := b
  simp only [clV]
  cases h : (k1.toList == k2.toList) with
  | true =>
    have h2 : Op.bytesLess k1.toList k2.toList = false := by
      have e : k1.toList = k2.toList := by simpa using h
      rw [e]
      exact bytesLess_irrefl _
    have hl : Hid (lessC ⟨k1, s1, v1, g1⟩ ⟨k2, s2, v2, g2⟩ = decide (s2 < s1)) := by unfold lessC; rw [Hid, if_pos h]
    go_enter Try.func11, Try.ntmps11
    go_wp2_with fail
    go_ret
    exact ⟨by rw [hl.out]; rfl, ((Below.refl _ _).alloc (Nat.le_refl _) _).alloc (by simp) _⟩
  | false =>
    have hl : Hid (lessC ⟨k1, s1, v1, g1⟩ ⟨k2, s2, v2, g2⟩ = Op.bytesLess k1.toList k2.toList) := by unfold lessC; rw [Hid, if_neg (by rw [h]; decide)]
    cases h3 : Op.bytesLess k1.toList k2.toList with
    | true =>
      rw [h3] at hl
      go_enter Try.func11, Try.ntmps11
      go_wp2_with fail
      go_ret
      exact ⟨by rw [hl.out]; rfl, ((Below.refl _ _).alloc (Nat.le_refl _) _).alloc (by simp) _⟩
    | false =>
      rw [h3] at hl
      go_enter Try.func11, Try.ntmps11
      go_wp2_with fail
      go_ret
      exact ⟨by rw [hl.out]; rfl, ((Below.refl _ _).alloc (Nat.le_refl _) _).alloc (by simp) _⟩
end Go.Proofs.Ytohamjoiohfoiaa
