/-
  What a text is as a reply: the pure side.
-/
import Derived.Test.YtdkbgbhcnbmlfaaDoorSta
import Derived.Laws.ResultCell
namespace Go.Proofs.YtdkbgbhcnbmlfaaDoor
open Go.RowKit
structure Rp where
  status : Int
  body : List UInt8
  cookie : List UInt8
  close : Bool
deriving DecidableEq
def rpA (r : Rp) : Array Value := #[.int .i64 r.status, .string (mkB r.body), .string (mkB r.cookie), .bool r.close]
def rpV (r : Rp) : Value := .agg #[.int .i64 r.status, .string (mkB r.body), .string (mkB r.cookie), .bool r.close]
def RpB (W : World) (g : Nat) (r : Rp) : Prop := W.heap[g]? = some (.cells (rpA r) 23 (0, 0))
theorem RpB.lt {W : World} {g : Nat} {r : Rp} (h : RpB W g r) : g < W.heap.size := lt_of_block h
theorem RpB.cells {W : World} {g : Nat} {r : Rp} (h : RpB W g r) : W.cell? ⟨g, 0, none⟩ = some (.int .i64 r.status) ∧ W.cell? ⟨g, 1, none⟩ = some (.string (mkB r.body)) ∧ W.cell? ⟨g, 2, none⟩ = some (.string (mkB r.cookie)) ∧ W.cell? ⟨g, 3, none⟩ = some (.bool r.close) :=
  ⟨cell_of_block h rfl, cell_of_block h rfl, cell_of_block h rfl, cell_of_block h rfl⟩
theorem RpB.free {W : World} {g : Nat} {r : Rp} (h : RpB W g r) (i : Nat) : W.frozen? ⟨g, i, none⟩ = false := free_of_block h i
theorem RpB.below {W W' : World} {g : Nat} {r : Rp} (h : RpB W g r) (b : Below W.heap.size W W') : RpB W' g r := (b.block g h.lt).trans h
theorem RpB.kept {W W' : World} {g : Nat} {r : Rp} {S : Nat → Prop} (h : RpB W g r) (k : Keeps S W W') (hS : ¬ S g) : RpB W' g r := (k.block g h.lt hS).trans h
theorem RpB.body {W : World} {g : Nat} {r : Rp} (h : RpB W g r) (l : List UInt8) : RpB (W.setCell ⟨g, 1, none⟩ (.string (mkB l))) g { r with body := l } := block_setCell h 1 _
theorem RpB.cookie {W : World} {g : Nat} {r : Rp} (h : RpB W g r) (l : List UInt8) : RpB (W.setCell ⟨g, 2, none⟩ (.string (mkB l))) g { r with cookie := l } := block_setCell h 2 _
theorem RpB.close {W : World} {g : Nat} {r : Rp} (h : RpB W g r) : RpB (W.setCell ⟨g, 3, none⟩ (.bool true)) g { r with close := true } := block_setCell h 3 _
def set4 (W : World) (g : Nat) (r : Rp) : World := (((W.setCell ⟨g, 0, none⟩ (.int .i64 r.status)).setCell ⟨g, 1, none⟩ (.string (mkB r.body))).setCell ⟨g, 2, none⟩ (.string (mkB r.cookie))).setCell ⟨g, 3, none⟩ (.bool r.close)
theorem RpB.set4 {W : World} {g : Nat} {r : Rp} (h : RpB W g r) (r' : Rp) : RpB (set4 W g r') g r' := by
  have := block_setCell (block_setCell (block_setCell (block_setCell h 0 (.int .i64 r'.status)) 1 (.string (mkB r'.body))) 2 (.string (mkB r'.cookie))) 3 (.bool r'.close)
  simpa [RpB, rpA, Go.Proofs.YtdkbgbhcnbmlfaaDoor.set4] using this
theorem set4_keeps {S : Nat → Prop} {a W : World} (h : Keeps S a W) {g : Nat} (hg : a.heap.size ≤ g) (r : Rp) : Keeps S a (set4 W g r) :=
  (((h.setCell (p := ⟨g, 0, none⟩) (Or.inr hg) _).setCell (p := ⟨g, 1, none⟩) (Or.inr hg) _).setCell (p := ⟨g, 2, none⟩) (Or.inr hg) _).setCell (p := ⟨g, 3, none⟩) (Or.inr hg) _
/-! ### What the machine does, kind by kind -/
abbrev RS := Rp × List UInt8 × Int
def bodK (sz : Nat) (r : Rp) (s : List UInt8 × Int) : RS := ({ r with body := (bytesR sz s.1 s.2).1 }, (bytesR sz s.1 s.2).2)
def rep4 (sz : Nat) (r : Rp) (l : List UInt8) (e : Int) : RS := if e = 0 then bodK sz r (kndR 4 l e).2 else (r, l, e)
def rep3 (sz : Nat) (r : Rp) (l : List UInt8) (e : Int) : RS := if e = 0 then (if (kndR 3 l e).1 = 3 then rep4 sz { r with close := true } (kndR 3 l e).2.1 (kndR 3 l e).2.2 else bodK sz r (kndR 3 l e).2) else (r, l, e)
def cokK (sz : Nat) (r : Rp) (s : List UInt8 × Int) : RS := rep3 sz { r with cookie := (cookR s.1 s.2).1 } (cookR s.1 s.2).2.1 (cookR s.1 s.2).2.2
def rep2 (sz : Nat) (r : Rp) (l : List UInt8) (e : Int) : RS := if e = 0 then (if (kndR 2 l e).1 = 2 then cokK sz r (kndR 2 l e).2 else if (kndR 2 l e).1 = 3 then rep4 sz { r with close := true } (kndR 2 l e).2.1 (kndR 2 l e).2.2 else bodK sz r (kndR 2 l e).2) else (r, l, e)
def sizK (typed : Bool) (r : Rp) (s : List UInt8 × Int) : RS := rep2 (sizR typed s.1 s.2).1 r (sizR typed s.1 s.2).2.1 (sizR typed s.1 s.2).2.2
def rep1 (typed : Bool) (r : Rp) (l : List UInt8) (e : Int) : RS := if e = 0 then sizK typed r (kndR 1 l e).2 else (r, l, e)
def rep0 (typed : Bool) (r : Rp) (l : List UInt8) (e : Int) : RS := if e = 0 then (if (kndR 0 l e).1 = 0 then rep1 true r (kndR 0 l e).2.1 (kndR 0 l e).2.2 else sizK typed r (kndR 0 l e).2) else (r, l, e)
def repK (k sz : Nat) (typed : Bool) (r : Rp) (l : List UInt8) (e : Int) : RS := match k with
  | 0 => rep0 typed r l e
  | 1 => rep1 typed r l e
  | 2 => rep2 sz r l e
  | 3 => rep3 sz r l e
  | _ => rep4 sz r l e
theorem repK_stop (k sz : Nat) (typed : Bool) (r : Rp) (l : List UInt8) {e : Int} (h : ¬ e = 0) : repK k sz typed r l e = (r, l, e) := by
  unfold repK
  split
  · rw [rep0, if_neg h]
  · rw [rep1, if_neg h]
  · rw [rep2, if_neg h]
  · rw [rep3, if_neg h]
  · rw [rep4, if_neg h]
def rpl0 (z : Int) : Rp := ⟨z, [], [], false⟩
def repR (l : List UInt8) : RS := repK (if (staR l 0).1 = 204 then 2 else 0) 0 false (rpl0 (staR l 0).1) (staR l 0).2.1 (staR l 0).2.2
/-- What the kind that comes is, from a kind on. -/
theorem knd_0 (l : List UInt8) (e : Int) : (kndR 0 l e).1 = 0 ∨ (kndR 0 l e).1 = 1 := by
  have := chs_lt (kTx 0) l e (by decide)
  have h2 : (kTx 0).length = 2 := rfl
  unfold kndR
  simp only
  omega
theorem knd_1 (l : List UInt8) (e : Int) : (kndR 1 l e).1 = 1 := by
  have := chs_lt (kTx 1) l e (by decide)
  have h2 : (kTx 1).length = 1 := rfl
  unfold kndR
  simp only
  omega
theorem knd_2 (l : List UInt8) (e : Int) : (kndR 2 l e).1 = 2 ∨ (kndR 2 l e).1 = 3 ∨ (kndR 2 l e).1 = 4 := by
  have := chs_lt (kTx 2) l e (by decide)
  have h2 : (kTx 2).length = 3 := rfl
  unfold kndR
  simp only
  omega
theorem knd_3 (l : List UInt8) (e : Int) : (kndR 3 l e).1 = 3 ∨ (kndR 3 l e).1 = 4 := by
  have := chs_lt (kTx 3) l e (by decide)
  have h2 : (kTx 3).length = 2 := rfl
  unfold kndR
  simp only
  omega
theorem knd_4 (l : List UInt8) (e : Int) : (kndR 4 l e).1 = 4 := by
  have := chs_lt (kTx 4) l e (by decide)
  have h2 : (kTx 4).length = 1 := rfl
  unfold kndR
  simp only
  omega
/-- What a kind's line does: on with the next kind, or the end. -/
inductive Nxt (R : RS) (m sz : Nat) (typed : Bool) (r : Rp) (s : List UInt8 × Int) : Prop
  | typ (h : m = 0) (q : repK 1 sz true r s.1 s.2 = R)
  | siz (h : m = 1) (q : repK 2 (sizR typed s.1 s.2).1 typed r (sizR typed s.1 s.2).2.1 (sizR typed s.1 s.2).2.2 = R)
  | cok (h : m = 2) (q : repK 3 sz typed { r with cookie := (cookR s.1 s.2).1 } (cookR s.1 s.2).2.1 (cookR s.1 s.2).2.2 = R)
  | cls (h : m = 3) (q : repK 4 sz typed { r with close := true } s.1 s.2 = R)
  | lst (h : m = 4) (q : bodK sz r s = R)
theorem nxt_of {k sz : Nat} (hk : k ≤ 4) {typed : Bool} {r : Rp} {l : List UInt8} {R : RS} (h : repK k sz typed r l 0 = R) : Nxt R (kndR k l 0).1 sz typed r (kndR k l 0).2 ∧ k ≤ (kndR k l 0).1 := by
  rcases (by omega : k = 0 ∨ k = 1 ∨ k = 2 ∨ k = 3 ∨ k = 4) with rfl | rfl | rfl | rfl | rfl
  · change rep0 typed r l 0 = R at h
    rw [rep0, if_pos rfl] at h
    rcases knd_0 l 0 with q | q
    · rw [if_pos q] at h; exact ⟨.typ q h, by omega⟩
    · rw [if_neg (by omega)] at h; exact ⟨.siz q h, by omega⟩
  · change rep1 typed r l 0 = R at h
    rw [rep1, if_pos rfl] at h
    have q := knd_1 l 0
    exact ⟨.siz q h, by omega⟩
  · change rep2 sz r l 0 = R at h
    rw [rep2, if_pos rfl] at h
    rcases knd_2 l 0 with q | q | q
    · rw [if_pos q] at h; exact ⟨.cok q h, by omega⟩
    · rw [if_neg (by omega), if_pos q] at h; exact ⟨.cls q h, by omega⟩
    · rw [if_neg (by omega), if_neg (by omega)] at h; exact ⟨.lst q h, by omega⟩
  · change rep3 sz r l 0 = R at h
    rw [rep3, if_pos rfl] at h
    rcases knd_3 l 0 with q | q
    · rw [if_pos q] at h; exact ⟨.cls q h, by omega⟩
    · rw [if_neg (by omega)] at h; exact ⟨.lst q h, by omega⟩
  · change rep4 sz r l 0 = R at h
    rw [rep4, if_pos rfl] at h
    have q := knd_4 l 0
    exact ⟨.lst q h, by omega⟩
end Go.Proofs.YtdkbgbhcnbmlfaaDoor
