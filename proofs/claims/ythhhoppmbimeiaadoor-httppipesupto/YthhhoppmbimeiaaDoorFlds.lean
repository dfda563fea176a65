/-
  Fields: a name and a value; rows of them in memory; the contract of isField.
-/
import Derived.Test.YthhhoppmbimeiaaDoorNum
namespace Go.Proofs.YthhhoppmbimeiaaDoor
open Go.RowKit
/-- A field. -/
structure Fd where
  name : ByteArray
  val : ByteArray
def fdV (c : Fd) : Value := .agg #[.string c.name, .string c.val]
def fdL (c : Fd) : List Value := [.string c.name, .string c.val]
def flF (l : List Fd) : List Value := l.flatMap fdL
/-- Fields from a slice's address on, in blocks below B. -/
def FA (B : Nat) (w : World) (a : Option Addr) (l : List Fd) : Prop :=
  ∀ j c, l[j]? = some c → ∃ b off, a = some ⟨b, off, none⟩ ∧ b < B ∧ w.cell? ⟨b, off + j * 2, none⟩ = some (.string c.name) ∧ w.cell? ⟨b, off + j * 2 + 1, none⟩ = some (.string c.val)
theorem FA.below {B : Nat} {w w' : World} {a : Option Addr} {l : List Fd} (h : FA B w a l) (k : ∀ b, b < B → w'.heap[b]? = w.heap[b]?) : FA B w' a l := by
  intro j c hj
  obtain ⟨b, off, ha, hb, h0, h1⟩ := h j c hj
  refine ⟨b, off, ha, hb, ?_, ?_⟩ <;> (simp only [World.cell?] at h0 h1 ⊢; rw [k b hb]; assumption)
theorem FA.up {B B' : Nat} {w : World} {a : Option Addr} {l : List Fd} (h : FA B w a l) (hB : B ≤ B') : FA B' w a l := by
  intro j c hj
  obtain ⟨b, off, ha, hb, h0⟩ := h j c hj
  exact ⟨b, off, ha, by omega, h0⟩
theorem FA.nil (B : Nat) (w : World) (a : Option Addr) : FA B w a [] := fun j v h => by simp at h
def fdOk (c : Fd) : Prop := c.name.size ≤ 140737488355328 ∧ c.val.size ≤ 140737488355328
def fldR (c : Fd) : Bool := tokR c.name && valR c.val
set_option maxRecDepth 20000 in
set_option maxHeartbeats 2000000 in
theorem isField_any (c : Fd) (hc : fdOk c) (w : World) : Calls Tryd.prog 51 #[fdV c] w fun e w' => e = .returned (.bool (fldR c)) ∧ Below w.heap.size w w' := by
  obtain ⟨n, v⟩ := c
  have H1 : Hid (∀ W : World, _) := fun W => token_any n hc.1 W
  have H2 : Hid (∀ W : World, _) := fun W => isValue_any v hc.2 W
  have HR : Hid (fldR ⟨n, v⟩ = (tokR n && valR v)) := rfl
  simp only [fdV]
  rw [HR.out]
  clear HR hc
  obtain ⟨t, ht⟩ : ∃ t, tokR n = t := ⟨_, rfl⟩
  obtain ⟨u, hu⟩ : ∃ u, valR v = u := ⟨_, rfl⟩
  rw [ht] at H1 ⊢
  rw [hu] at H2 ⊢
  clear ht hu
  cases t
  · go_enter Tryd.func51, Tryd.ntmps51
    go_wp2_with (first
      | (go_at_call 66; refine (H1.out _).mono ?_; rintro e w' ⟨rfl, rfl⟩)
      | (go_at_call 67; refine (H2.out _).mono ?_; rintro e w1 ⟨rfl, b1⟩))
    go_ret
    exact ⟨rfl, (Below.refl _ _).alloc (Nat.le_refl _) _⟩
  · go_enter Tryd.func51, Tryd.ntmps51
    go_wp2_with (first
      | (go_at_call 66; refine (H1.out _).mono ?_; rintro e w' ⟨rfl, rfl⟩)
      | (go_at_call 67; refine (H2.out _).mono ?_; rintro e w1 ⟨rfl, b1⟩))
    go_ret
    exact ⟨rfl, ((Below.refl _ _).alloc (Nat.le_refl _) _).trans (b1.mono (by simp))⟩
end Go.Proofs.YthhhoppmbimeiaaDoor
