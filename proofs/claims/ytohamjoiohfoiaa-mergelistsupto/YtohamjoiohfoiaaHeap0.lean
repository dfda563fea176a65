/-
  Heads of lists in memory, as a heap; its methods.
-/
import Derived.Test.YtohamjoiohfoiaaCol
import Derived.Laws.OwnMore
namespace Go.Proofs.Ytohamjoiohfoiaa
open Go.RowKit
/-- What is left of a list, and how many lists stand ahead of it. -/
structure Hd where
  b : Nat
  off : Nat
  cap : Nat
  cs : List Cl
  nth : Nat
def hdS (h : Hd) : Value := .slice (some ⟨h.b, h.off, none⟩) h.cs.length h.cap
def hdL (h : Hd) : List Value := [hdS h, .int .i64 (h.nth : Nat)]
def flH (l : List Hd) : List Value := l.flatMap hdL
theorem flH_len (l : List Hd) : (flH l).length = l.length * 2 := by
  induction l with
  | nil => rfl
  | cons h l ih => show (hdL h ++ flH l).length = _; rw [List.length_append, ih, List.length_cons]; simp [hdL]; omega
theorem flH_at : ∀ {l : List Hd} {i : Nat} {h : Hd}, l[i]? = some h → (flH l)[i * 2]? = some (hdS h) ∧ (flH l)[i * 2 + 1]? = some (.int .i64 (h.nth : Nat))
  | [], i, h, e => by simp at e
  | a :: l, 0, h, e => by
    simp at e
    subst e
    exact ⟨rfl, rfl⟩
  | a :: l, i + 1, h, e => by
    have := flH_at (l := l) (i := i) (h := h) (by simpa using e)
    show (hdL a ++ flH l)[(i + 1) * 2]? = _ ∧ (hdL a ++ flH l)[(i + 1) * 2 + 1]? = _
    have e2 : (hdL a).length = 2 := rfl
    rw [List.getElem?_append_right (by rw [e2]; omega), List.getElem?_append_right (by rw [e2]; omega), e2, show (i + 1) * 2 - 2 = i * 2 by omega, show (i + 1) * 2 + 1 - 2 = i * 2 + 1 by omega]
    exact this
/-- Heads in memory; the lists lie in blocks below z. -/
structure HAt (z : Nat) (W : World) (p : Nat) (hs : List Hd) : Prop where
  ex : ∃ g cap, Boxed W p 69 (.slice (some ⟨g, 0, none⟩) hs.length cap) ∧ W.ownsRow z 72 2 (.slice (some ⟨g, 0, none⟩) hs.length cap) hs.length (flH hs)
  pz : z ≤ p
  each : ∀ h ∈ hs, CA z W (some ⟨h.b, h.off, none⟩) h.cs ∧ h.cs.length ≤ h.cap
/-- What the heap's methods may do to memory. -/
structure Kh (z p : Nat) (A B : World) : Prop where
  os : B.os = A.os
  tape : B.tape = A.tape
  output : B.output = A.output
  size : A.heap.size ≤ B.heap.size
  block : ∀ (k : Nat) (o : Obj), A.heap[k]? = some o → (k < z ∨ (k ≠ p ∧ ∀ c f, o ≠ .cells c 72 f)) → B.heap[k]? = some o
theorem Kh.of_below {z p : Nat} {A B : World} (h : Below A.heap.size A B) : Kh z p A B := ⟨h.os, h.tape, h.output, h.size, fun k _ ho _ => (h.block k (Array.getElem?_eq_some_iff.1 ho).1).trans ho⟩
theorem Kh.trans {z p : Nat} {A B C : World} (h : Kh z p A B) (k : Kh z p B C) : Kh z p A C := ⟨k.os.trans h.os, k.tape.trans h.tape, k.output.trans h.output, Nat.le_trans h.size k.size, fun j o ho hn => k.block j o (h.block j o ho hn) hn⟩
theorem HAt.below {z p : Nat} {W W' : World} {hs : List Hd} (h : HAt z W p hs) (k : Below W.heap.size W W') (hz : z ≤ W.heap.size) : HAt z W' p hs := by
  obtain ⟨g, cap, h1, h2⟩ := h.ex
  exact ⟨⟨g, cap, (k.block p h1.lt).trans h1, owns_same h2 (fun g' e => k.block g' (h2.lt g' e).2)⟩, h.pz, fun x hx => ⟨(h.each x hx).1.below (fun b hb => k.block b (by omega)), (h.each x hx).2⟩⟩
theorem HAt.zle {z p : Nat} {W : World} {hs : List Hd} (h : HAt z W p hs) : z ≤ W.heap.size := by
  obtain ⟨g, cap, h1, h2⟩ := h.ex
  have := h1.lt
  have := h.pz
  omega
/-- Head i's cells. -/
theorem HAt.at {z p : Nat} {W : World} {hs : List Hd} (h : HAt z W p hs) : ∃ g cap, W.cell? ⟨p, 0, none⟩ = some (.slice (some ⟨g, 0, none⟩) hs.length cap) ∧ ∀ (i : Nat) x, hs[i]? = some x → W.cell? ⟨g, i * 2, none⟩ = some (hdS x) ∧ W.cell? ⟨g, i * 2 + 1, none⟩ = some (.int .i64 (x.nth : Nat)) := by
  obtain ⟨g, cap, h1, h2⟩ := h.ex
  refine ⟨g, cap, h1.cell, fun i x hx => ?_⟩
  have hi := (List.getElem?_eq_some_iff.1 hx).1
  obtain ⟨e1, e2⟩ := flH_at hx
  exact ⟨(h2.cellAt (i * 2) (by omega)).trans e1, (h2.cellAt (i * 2 + 1) (by omega)).trans e2⟩
theorem len_any (z p : Nat) (hs : List Hd) (W : World) (h : HAt z W p hs) : Calls Try.prog 36 #[.pointer (some ⟨p, 0, none⟩)] W fun r W' => r = .returned (.int .i64 (hs.length : Nat)) ∧ W' = W := by
  obtain ⟨g, cap, c0, _⟩ := h.at
  clear h
  go_enter Try.func36, Try.ntmps36
  go_wp2_with fail
  go_ret
  exact ⟨rfl, rfl⟩
end Go.Proofs.Ytohamjoiohfoiaa
