/-
  Two tables in memory.
-/
import Derived.Test.YtdgmjmohfpjlnaaHei
import Derived.Test.YtdgmjmohfpjlnaaAwk
namespace Go.Proofs.Ytdgmjmohfpjlnaa
open Go.RowKit Go.Shelf
structure T2 (B1 g1 B2 g2 : Nat) (w wr : World) (k1 k2 : Nat) (sa sb : St) (b1 c1 b2 c2 : Nat) : Prop where
  a : TM w.heap.size B1 g1 w wr k1 sa b1 c1
  b : TM w.heap.size B2 g2 w wr k2 sb b2 c2
  ap : g1 ≠ g2 ∧ g1 ≠ b2 ∧ b1 ≠ g2 ∧ b1 ≠ b2
theorem T2.size {B1 g1 B2 g2 : Nat} {w wr : World} {k1 k2 : Nat} {sa sb : St} {b1 c1 b2 c2 : Nat} (h : T2 B1 g1 B2 g2 w wr k1 k2 sa sb b1 c1 b2 c2) : w.heap.size ≤ wr.heap.size := h.a.bel.size
theorem T2.on {B1 g1 B2 g2 : Nat} {w wr w' : World} {k1 k2 : Nat} {sa sb : St} {b1 c1 b2 c2 : Nat} (h : T2 B1 g1 B2 g2 w wr k1 k2 sa sb b1 c1 b2 c2) (hb : Below wr.heap.size wr w') : T2 B1 g1 B2 g2 w w' k1 k2 sa sb b1 c1 b2 c2 :=
  ⟨h.a.on hb h.size, h.b.on hb h.size, h.ap⟩
theorem T2.pa {B1 g1 B2 g2 : Nat} {w wr w' : World} {k1 k2 : Nat} {sa sb : St} {b1 c1 b2 c2 : Nat} (h : T2 B1 g1 B2 g2 w wr k1 k2 sa sb b1 c1 b2 c2) (c : Cl) (hgt : Int) {b' c' : Nat} (hm : MA B1 w' g1 b' c' (putS c hgt sa)) (hk : KM g1 b1 wr w') (hb : b' = b1 ∨ wr.heap.size ≤ b') : T2 B1 g1 B2 g2 w w' (k1 + 1) k2 (putS c hgt sa) sb b' c' b2 c2 := by
  have h1 := h.a.put c hgt hm hk h.size
  have hl := h.b.ma.lt
  obtain ⟨p1, p2, p3, p4⟩ := h.ap
  exact ⟨h1, ⟨h.b.ma.eq (hk.block g2 hl.1 (Ne.symm p1) (Ne.symm p3)) (hk.block b2 hl.2 (Ne.symm p2) (Ne.symm p4)), h.b.nk, h.b.sz, h1.bel, h.b.zB⟩, by omega⟩
theorem T2.pb {B1 g1 B2 g2 : Nat} {w wr w' : World} {k1 k2 : Nat} {sa sb : St} {b1 c1 b2 c2 : Nat} (h : T2 B1 g1 B2 g2 w wr k1 k2 sa sb b1 c1 b2 c2) (c : Cl) (hgt : Int) {b' c' : Nat} (hm : MA B2 w' g2 b' c' (putS c hgt sb)) (hk : KM g2 b2 wr w') (hb : b' = b2 ∨ wr.heap.size ≤ b') : T2 B1 g1 B2 g2 w w' k1 (k2 + 1) sa (putS c hgt sb) b1 c1 b' c' := by
  have h1 := h.b.put c hgt hm hk h.size
  have hl := h.a.ma.lt
  obtain ⟨p1, p2, p3, p4⟩ := h.ap
  exact ⟨⟨h.a.ma.eq (hk.block g1 hl.1 p1 p2) (hk.block b1 hl.2 p3 p4), h.a.nk, h.a.sz, h1.bel, h.a.zB⟩, h1, by omega⟩
theorem CA.up {B B' : Nat} {w : World} {a : Option Addr} {l : List Cl} (h : CA B w a l) (hB : B ≤ B') : CA B' w a l := fun j c hj => by
  obtain ⟨b, off, ha, hb, hr⟩ := h j c hj
  exact ⟨b, off, ha, Nat.lt_of_lt_of_le hb hB, hr⟩
/-- A list of ints in memory. -/
def IV (B : Nat) (W : World) (a : Option Addr) (l : List Int) : Prop := ∀ j v, l[j]? = some v → ∃ b off, a = some ⟨b, off, none⟩ ∧ b < B ∧ W.cell? ⟨b, off + j, none⟩ = some (.int .i64 v)
theorem IV.below {B : Nat} {w w' : World} {a : Option Addr} {l : List Int} (h : IV B w a l) (k : ∀ b, b < B → w'.heap[b]? = w.heap[b]?) : IV B w' a l := by
  intro j c hj
  obtain ⟨b, off, ha, hb, h0⟩ := h j c hj
  refine ⟨b, off, ha, hb, ?_⟩
  simp only [World.cell?] at h0 ⊢
  rw [k b hb]
  exact h0
end Go.Proofs.Ytdgmjmohfpjlnaa
