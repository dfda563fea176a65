/-
  A table in memory and its twin.
-/
import Derived.Test.YtdgmjmohfpjlnaaFrk
import Derived.Test.YtdgmjmohfpjlnaaGog
namespace Go.Proofs.Ytdgmjmohfpjlnaa
open Go.RowKit Go.Shelf
/-- What a call of both leaves alone. -/
structure KG (g b r : Nat) (w w' : World) : Prop where
  os : w'.os = w.os
  tape : w'.tape = w.tape
  output : w'.output = w.output
  size : w.heap.size ≤ w'.heap.size
  block : ∀ x, x < w.heap.size → x ≠ g → x ≠ b → x ≠ r → w'.heap[x]? = w.heap[x]?
theorem KG.of {g b r : Nat} {w w' : World} (h : Below w.heap.size w w') : KG g b r w w' := ⟨h.os, h.tape, h.output, h.size, fun x hx _ _ _ => h.block x hx⟩
theorem KG.m {g b : Nat} (r : Nat) {w w' : World} (h : KM g b w w') : KG g b r w w' := ⟨h.os, h.tape, h.output, h.size, fun x hx h1 h2 _ => h.block x hx h1 h2⟩
theorem KG.r {r : Nat} (g b : Nat) {w w' : World} (h : KM r r w w') : KG g b r w w' := ⟨h.os, h.tape, h.output, h.size, fun x hx _ _ h3 => h.block x hx h3 h3⟩
theorem KG.trans {g b b' r : Nat} {w w1 w2 : World} (h1 : KG g b r w w1) (h2 : KG g b' r w1 w2) (hb : b' = b ∨ w.heap.size ≤ b') : KG g b r w w2 :=
  ⟨h2.os.trans h1.os, h2.tape.trans h1.tape, h2.output.trans h1.output, Nat.le_trans h1.size h2.size, fun x hx hg hb' hr => (h2.block x (Nat.lt_of_lt_of_le hx h1.size) hg (by omega) hr).trans (h1.block x hx hg hb' hr)⟩
/-- A table and its twin, that hold the same. -/
structure PT (z : Nat) (W : World) (k : Nat) (t : St) (B g b cap s0 r : Nat) (ca : Option Addr) (cc : Nat) (ha : Option Addr) (hc : Nat) : Prop where
  ma : MA B W g b cap t
  ra : RA s0 W r (t.E.map En.c) (t.E.map En.h) ca cc ha hc
  nk : t.n ≤ k + 1
  sz : t.size ≤ 1200 * t.n
  es : t.size = sizeC (t.E.map En.c)
  ok : OkE t
  zB : z ≤ B ∧ z ≤ s0 ∧ z ≤ r
  sW : s0 ≤ W.heap.size
section
variable {z : Nat} {W W' : World} {k : Nat} {t : St} {B g b cap s0 r : Nat} {ca : Option Addr} {cc : Nat} {ha : Option Addr} {hc : Nat}
theorem PT.below (h : PT z W k t B g b cap s0 r ca cc ha hc) (k' : Below W.heap.size W W') : PT z W' k t B g b cap s0 r ca cc ha hc :=
  ⟨h.ma.below k', h.ra.below k', h.nk, h.sz, h.es, h.ok, h.zB, Nat.le_trans h.sW k'.size⟩
theorem PT.up (h : PT z W k t B g b cap s0 r ca cc ha hc) {k' : Nat} (hk : k ≤ k') : PT z W k' t B g b cap s0 r ca cc ha hc :=
  ⟨h.ma, h.ra, by have := h.nk; omega, h.sz, h.es, h.ok, h.zB, h.sW⟩
theorem PT.len (h : PT z W k t B g b cap s0 r ca cc ha hc) : t.E.length ≤ k := by have := h.ma.rep.size; have := h.nk; omega
theorem PT.sorted (h : PT z W k t B g b cap s0 r ca cc ha hc) : (t.E.map En.c).Pairwise (fun a b => lessC a b = true) := by
  rw [← scan_all h.ok]; exact scan_sorted h.ma.rep _ _
theorem PT.part (h : PT z W k t B g b cap s0 r ca cc ha hc) (fr tw : ByteArray) : partC fr tw (t.E.map En.c) = scanL fr tw t.E := by
  rw [part_scan h.sorted, scanL_eq h.ok]
theorem PT.newest (h : PT z W k t B g b cap s0 r ca cc ha hc) (key : ByteArray) (seq : Nat) : newC key seq (t.E.map En.c) = getE key seq t.E := by
  rw [new_get h.sorted, getE_eq]
/-- The twin's blocks are none of the table's. -/
theorem RA.km {L : List Cl} {H : List Nat} (h : RA s0 W r L H ca cc ha hc) (m : MA B W g b cap t) (q : KM g b W W') : RA s0 W' r L H ca cc ha hc := by
  obtain ⟨i59, hi59⟩ : ∃ o, W.heap[b]? = some o ∧ ∃ c f, o = .cells c 68 f := by
    rcases m.row.2 with ⟨ev, h0⟩ | ⟨g', c', cur, ev, _, hh, _⟩
    · exact absurd ev (by simp)
    · simp only [Value.slice.injEq, Option.some.injEq, Addr.mk.injEq] at ev
      obtain ⟨⟨rfl, _⟩, _⟩ := ev
      exact ⟨_, hh, _, _, rfl⟩
  refine h.keep (fun x o ho ht => (q.block x (Array.getElem?_eq_some_iff.1 ho).1 (fun e => ?_) (fun e => ?_)).trans ho)
  · subst e
    rw [m.blk] at ho
    simp only [Option.some.injEq] at ho
    subst ho
    obtain ⟨c, f, e | e | e⟩ := ht <;> simp at e
  · subst e
    obtain ⟨h1, c1, f1, rfl⟩ := hi59
    rw [h1] at ho
    simp only [Option.some.injEq] at ho
    subst ho
    obtain ⟨c, f, e | e | e⟩ := ht <;> simp at e
theorem MA.kr {L : List Cl} {H : List Nat} (m : MA B W g b cap t) (h : RA s0 W r L H ca cc ha hc) (q : KM r r W W') : MA B W' g b cap t := by
  have hl := m.lt
  refine m.eq (q.block g hl.1 (fun e => ?_) (fun e => ?_)) (q.block b hl.2 (fun e => ?_) (fun e => ?_))
  · subst e; have := m.blk; rw [h.blk] at this; simp at this
  · subst e; have := m.blk; rw [h.blk] at this; simp at this
  all_goals
    subst e
    rcases m.row.2 with ⟨ev, h0⟩ | ⟨g', c', cur, ev, _, hh, _⟩
    · exact absurd ev (by simp)
    · simp only [Value.slice.injEq, Option.some.injEq, Addr.mk.injEq] at ev
      obtain ⟨⟨rfl, _⟩, _⟩ := ev
      rw [h.blk] at hh
      simp at hh
/-- Behind a Put of both. -/
theorem PT.put (h : PT z W k t B g b cap s0 r ca cc ha hc) (c : Cl) (hgt : Int) {b' cap' : Nat} {ca' ha' : Option Addr} {cc' hc' : Nat} (hs : W.heap.size ≤ W'.heap.size) (m : MA B W' g b' cap' (putS c hgt t))
    (ra : RA s0 W' r (if putQ c hgt (t.E.map En.c) = 0 then insC c (t.E.map En.c) else t.E.map En.c) (if putQ c hgt (t.E.map En.c) = 0 then insH c hgt.toNat (t.E.map En.c) (t.E.map En.h) else t.E.map En.h) ca' cc' ha' hc') : PT z W' (k + 1) (putS c hgt t) B g b' cap' s0 r ca' cc' ha' hc' := by
  have hnk : (putS c hgt t).n ≤ t.n + 1 := by
    unfold putS
    split
    · exact Nat.le_refl _
    · exact Nat.le_succ _
  exact ⟨m, by rw [put_cells, put_hts]; exact ra, by have := h.nk; omega, put_size h.sz, put_sizeC h.es c hgt, okE_put h.ok c hgt, h.zB, Nat.le_trans h.sW hs⟩
end
end Go.Proofs.Ytdgmjmohfpjlnaa
