/-
  What all texts of this seat share.
-/
import Derived.Test.YtcdagmgbfihbdaaDoorShelf
import Derived.LoopTactic
import Derived.RegionTactic
import Derived.BigQuiet
import Derived.BigRegion
import Derived.Deep.QuietTactic
import Derived.Deep.RegionWith
import Derived.Deep.RegionHeld
import Derived.Deep.CutRange
import Derived.WalkKit
import Derived.Laws.MakeOwn
import Derived.Laws.AppendOwn
import Derived.Laws.AppendOwnNone
import Derived.LoopN
import Derived.Lib.Builder
import Derived.Lib.AppendStr
import Derived.Lib.UnsafeStr
namespace Go.Proofs.YtcdagmgbfihbdaaDoor
open Go.RowKit
def bOf (l : List UInt8) : ByteArray := ⟨l.toArray⟩
theorem bOf_size (l : List UInt8) : (bOf l).size = l.length := by simp [bOf, ByteArray.size]
theorem bOf_self (s : ByteArray) : bOf s.data.toList = s := rfl
theorem bOf_app (a b : List UInt8) : bOf a ++ bOf b = bOf (a ++ b) := by
  apply ByteArray.ext
  simp [bOf]
theorem bOf_inj {a b : List UInt8} (h : bOf a = bOf b) : a = b := by
  have := congrArg (fun x : ByteArray => x.data.toList) h
  simpa [bOf] using this
theorem strC (l : List UInt8) : Lib.strCells (bOf l) = Lib.byteCells l := rfl
theorem byteC_app (a b : List UInt8) : Lib.byteCells (a ++ b) = Lib.byteCells a ++ Lib.byteCells b := by simp [Lib.byteCells]
theorem cell_of_block {w : World} {b o : Nat} {c : Array Value} {t : TypeId} {f : Nat × Nat} {v : Value} (h : w.heap[b]? = some (.cells c t f)) (hv : c[o]? = some v) : w.cell? ⟨b, o, none⟩ = some v := by simp [World.cell?, h, hv]
theorem free_of_block {w : World} {b : Nat} {c : Array Value} {t : TypeId} (h : w.heap[b]? = some (.cells c t (0, 0))) (o : Nat) : w.frozen? ⟨b, o, none⟩ = false := by simp [World.frozen?, h]
theorem set_block {W : World} {g : Nat} {c : Array Value} {t : TypeId} (h : W.heap[g]? = some (.cells c t (0, 0))) (i : Nat) (v : Value) : (W.setCell ⟨g, i, none⟩ v).heap[g]? = some (.cells (c.setIfInBounds i v) t (0, 0)) := by
  simp [World.setCell, Array.getElem?_modify, h]
theorem block_alloc_at (w : World) (o : Obj) : (w.alloc o).heap[w.heap.size]? = some o := by
  show (w.heap.push o)[w.heap.size]? = _
  simp
theorem below_new (W : World) (o : Obj) : Below W.heap.size W (W.alloc o) := (Below.refl _ _).alloc (Nat.le_refl _) _
theorem below_on {a b c : World} (h1 : Below a.heap.size a b) (h2 : Below b.heap.size b c) : Below a.heap.size a c := h1.trans (h2.mono h1.size)
theorem le_s {w W : World} {s : Nat} (e : w.heap.size = s) (b : Below s w W) : s ≤ W.heap.size := e ▸ b.size
theorem owns_same {W W' : World} {base : Nat} {e : TypeId} {size : Nat} {v : Value} {n : Nat} {xs : List Value} (h : W.ownsRow base e size v n xs) (k : ∀ g, v.ownBlock = some g → W'.heap[g]? = W.heap[g]?) : W'.ownsRow base e size v n xs := by
  refine ⟨h.1, ?_⟩
  rcases h.2 with q | ⟨g, cp, cur, hv, hg, hh, rr⟩
  · exact Or.inl q
  · exact Or.inr ⟨g, cp, cur, hv, hg, (k g (by rw [hv]; rfl)).trans hh, rr⟩
theorem row_base {W : World} {B B' e z n : Nat} {v : Value} {xs : List Value} (h : W.ownsRow B' e z v n xs) (hB : B ≤ B') : W.ownsRow B e z v n xs := by
  refine ⟨h.1, ?_⟩
  rcases h.2 with q | ⟨g, cap, cur, hv, hg, hh, rr⟩
  · exact Or.inl q
  · exact Or.inr ⟨g, cap, cur, hv, Nat.le_trans hB hg, hh, rr⟩
theorem row_form {W : World} {B n size : Nat} {e : TypeId} {v : Value} {xs : List Value} (h : W.ownsRow B e size v n xs) : ∃ a c, v = .slice a n c := by
  rcases h.2 with ⟨rfl, h0⟩ | ⟨g, cap, cur, rfl, _⟩
  · subst h0; exact ⟨none, 0, rfl⟩
  · exact ⟨_, _, rfl⟩
theorem info_parts {o : Option TypeInfo} {z : Value} {n m : Nat} (h : o.map (fun i => (i.zero, i.size, i.bytes)) = some (some z, n, m)) : ∃ i, o = some i ∧ i.zero = some z ∧ i.size = n ∧ i.bytes = m := by
  obtain ⟨i, hi, hq⟩ := Option.map_eq_some_iff.1 h
  simp only [Prod.mk.injEq] at hq
  exact ⟨i, hi, hq.1, hq.2.1, hq.2.2⟩
theorem info5 : (Tryd.prog.info? 5).map (fun i => (i.zero, i.size, i.bytes)) = some (some (.int .u8 0), 1, 1) := by kernel_rfl
/-- A strings.Builder that stands first in a block. -/
def BA (B T b : Nat) (rest : List Value) (l : List UInt8) (W : World) : Prop :=
  B ≤ b ∧ ∃ a v, W.heap[b]? = some (.cells (a :: v :: rest).toArray T (0, 0)) ∧ W.ownsRow B 5 1 v l.length (Lib.byteCells l) ∧ (a = .pointer none ∨ a = .pointer (some ⟨b, 0, none⟩))
/-- The same, and it has its own address. -/
def BU (B T b : Nat) (rest : List Value) (l : List UInt8) (W : World) : Prop :=
  B ≤ b ∧ ∃ v, W.heap[b]? = some (.cells (.pointer (some ⟨b, 0, none⟩) :: v :: rest).toArray T (0, 0)) ∧ W.ownsRow B 5 1 v l.length (Lib.byteCells l)
theorem BU.ba {B T b : Nat} {rest : List Value} {l : List UInt8} {W : World} (h : BU B T b rest l W) : BA B T b rest l W := by
  obtain ⟨h1, v, h2, h3⟩ := h
  exact ⟨h1, _, v, h2, h3, .inr rfl⟩
theorem BA.lt {B T b : Nat} {rest : List Value} {l : List UInt8} {W : World} (h : BA B T b rest l W) : b < W.heap.size := by
  obtain ⟨_, a, v, h2, _⟩ := h
  exact (Array.getElem?_eq_some_iff.1 h2).1
/-- All is kept but a block and rows of bytes. -/
structure KP (p : Nat) (W W' : World) : Prop where
  os : W'.os = W.os
  tape : W'.tape = W.tape
  output : W'.output = W.output
  size : W.heap.size ≤ W'.heap.size
  keep : ∀ (x : Nat) (o : Obj), W.heap[x]? = some o → x ≠ p → (∀ c f, o ≠ .cells c 5 f) → W'.heap[x]? = some o
theorem KP.of {p : Nat} {W W' : World} (h : Below W.heap.size W W') : KP p W W' := ⟨h.os, h.tape, h.output, h.size, fun x _ ho _ _ => (h.block x (Array.getElem?_eq_some_iff.1 ho).1).trans ho⟩
theorem KP.refl (p : Nat) (W : World) : KP p W W := KP.of (Below.refl _ _)
theorem KP.trans {p : Nat} {W W1 W2 : World} (h1 : KP p W W1) (h2 : KP p W1 W2) : KP p W W2 :=
  ⟨h2.os.trans h1.os, h2.tape.trans h1.tape, h2.output.trans h1.output, Nat.le_trans h1.size h2.size, fun x o ho hx hn => h2.keep x o (h1.keep x o ho hx hn) hx hn⟩
theorem KP.set {p : Nat} {W W' : World} (h : KP p W W') (o : Nat) (v : Value) : KP p W (W'.setCell ⟨p, o, none⟩ v) :=
  ⟨h.os, h.tape, h.output, by simpa [World.setCell] using h.size, fun x ob ho hx hn => (Below.heap_setCell _ _ _ _ hx).trans (h.keep x ob ho hx hn)⟩
theorem KP.grown {p : Nat} {W W' W'' : World} {B n : Nat} {v : Value} {xs : List Value} (h : KP p W W') (hrow : W'.ownsRow B 5 1 v n xs) (hg : W'.grownBy W'' v.ownBlock) : KP p W W'' := by
  refine h.trans ⟨hg.os, hg.tape, hg.output, hg.size, fun x o ho _ hn => (hg.block x (Array.getElem?_eq_some_iff.1 ho).1 (fun e => ?_)).trans ho⟩
  rcases hrow.2 with ⟨ev, _⟩ | ⟨g, cap, cur, ev, _, hh, _⟩
  · rw [ev] at e; cases e
  · rw [ev] at e
    simp only [Value.ownBlock, Option.some.injEq] at e
    subst e
    rw [hh] at ho
    simp only [Option.some.injEq] at ho
    exact hn _ _ ho.symm
end Go.Proofs.YtcdagmgbfihbdaaDoor
