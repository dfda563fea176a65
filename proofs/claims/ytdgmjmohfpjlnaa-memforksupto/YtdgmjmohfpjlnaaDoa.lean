/-
  does, whatever call; a table and its twin through a loop; with a fork beside.
-/
import Derived.Test.YtdgmjmohfpjlnaaDop
import Derived.Test.YtdgmjmohfpjlnaaDog
import Derived.Test.YtdgmjmohfpjlnaaDsc
namespace Go.Proofs.Ytdgmjmohfpjlnaa
open Go.RowKit Go.Shelf
theorem does_any (z k : Nat) (t : St) (B g b cap s0 r : Nat) (ca : Option Addr) (cc : Nat) (ha : Option Addr) (hc : Nat) (o : OpR) (w : World) (h : PT z w k t B g b cap s0 r ca cc ha hc) (hk : k ≤ 2900000) :
    Calls Try.prog 13 #[.pointer (some ⟨g, 0, none⟩), .pointer (some ⟨r, 0, none⟩), opV o] w fun e w' => e = .returned (.bool true) ∧ DP z w k B g b s0 r w' := by
  by_cases h0 : o.k = 0
  · exact does_put z k t B g b cap s0 r ca cc ha hc o w h hk h0
  by_cases h1 : o.k = 1
  · exact does_get z k t B g b cap s0 r ca cc ha hc o w h hk h1
  by_cases h2 : o.k = 2
  · exact does_scan z k t B g b cap s0 r ca cc ha hc o w h hk h2
  by_cases h3 : o.k = 3
  · exact does_look z k t B g b cap s0 r ca cc ha hc o w h hk h3
  exact does_none z k t B g b cap s0 r ca cc ha hc o w h hk h0 h1 h2 h3
theorem KG.below {z g b r : Nat} {a w w' : World} (h : KG g b r w w') (hb : Below z a w) (hz : z ≤ w.heap.size) (h1 : z ≤ g) (h2 : z ≤ b) (h3 : z ≤ r) : Below z a w' :=
  hb.trans ⟨h.os, h.tape, h.output, h.size, fun x hx => h.block x (by omega) (by omega) (by omega) (by omega)⟩
section
variable {z : Nat} {W W' : World} {k : Nat} {t : St} {B g b cap s0 r : Nat} {ca : Option Addr} {cc : Nat} {ha : Option Addr} {hc : Nat}
theorem PT.low (h : PT z W k t B g b cap s0 r ca cc ha hc) : z ≤ g ∧ z ≤ b ∧ z ≤ r ∧ z ≤ W.heap.size := by
  have := h.ma.gB
  have := (World.ownsRow.lt h.ma.row b rfl).1
  have := h.zB
  have := h.sW
  omega
theorem PT.other {k2 : Nat} {t2 : St} {B2 g2 b2 cap2 s2 r2 : Nat} {ca2 : Option Addr} {cc2 : Nat} {ha2 : Option Addr} {hc2 : Nat} (h : PT z W k t B g b cap s0 r ca cc ha hc) (h2 : PT z W k2 t2 B2 g2 b2 cap2 s2 r2 ca2 cc2 ha2 hc2)
    (q : KG g b r W W') (n1 : g2 ≠ g ∧ g2 ≠ b ∧ b2 ≠ g ∧ b2 ≠ b ∧ r2 ≠ r) : PT z W' k2 t2 B2 g2 b2 cap2 s2 r2 ca2 cc2 ha2 hc2 := by
  have hl := h2.ma.lt
  have bb : ∃ c f, W.heap[b]? = some (.cells c 68 f) := by
    rcases h.ma.row.2 with ⟨ev, h0⟩ | ⟨g', c', cur, ev, _, hh, _⟩
    · exact absurd ev (by simp)
    · simp only [Value.slice.injEq, Option.some.injEq, Addr.mk.injEq] at ev
      obtain ⟨⟨rfl, _⟩, _⟩ := ev
      exact ⟨_, _, hh⟩
  have bb2 : ∃ c f, W.heap[b2]? = some (.cells c 68 f) := by
    rcases h2.ma.row.2 with ⟨ev, h0⟩ | ⟨g', c', cur, ev, _, hh, _⟩
    · exact absurd ev (by simp)
    · simp only [Value.slice.injEq, Option.some.injEq, Addr.mk.injEq] at ev
      obtain ⟨⟨rfl, _⟩, _⟩ := ev
      exact ⟨_, _, hh⟩
  have hr := h.ra.blk
  refine ⟨h2.ma.eq (q.block g2 hl.1 n1.1 n1.2.1 (fun e => ?_)) (q.block b2 hl.2 n1.2.2.1 n1.2.2.2.1 (fun e => ?_)), ?_, h2.nk, h2.sz, h2.es, h2.ok, h2.zB, Nat.le_trans h2.sW q.size⟩
  · subst e; have := h2.ma.blk; rw [hr] at this; simp at this
  · subst e; obtain ⟨c, f, this⟩ := bb2; rw [hr] at this; simp at this
  · have hs := h2.ra.blk
    refine ⟨(q.block r2 h2.ra.lt (fun e => ?_) (fun e => ?_) n1.2.2.2.2).trans hs, ?_, ?_, h2.ra.len⟩
    · subst e; have := h.ma.blk; rw [hs] at this; simp at this
    · subst e; obtain ⟨c, f, this⟩ := bb; rw [hs] at this; simp at this
    · refine owns_same h2.ra.cells (fun x hx => ?_)
      rcases h2.ra.cells.2 with ⟨ev, h0⟩ | ⟨g', c', cur, ev, _, hh, _⟩
      · rw [ev] at hx; cases hx
      · rw [ev] at hx
        simp only [Value.ownBlock, Option.some.injEq] at hx
        subst hx
        refine q.block g' (Array.getElem?_eq_some_iff.1 hh).1 (fun e => ?_) (fun e => ?_) (fun e => ?_)
        · subst e; have := h.ma.blk; rw [hh] at this; simp at this
        · subst e; obtain ⟨c, f, this⟩ := bb; rw [hh] at this; simp at this
        · subst e; rw [hh] at hr; simp at hr
    · refine owns_same h2.ra.hts (fun x hx => ?_)
      rcases h2.ra.hts.2 with ⟨ev, h0⟩ | ⟨g', c', cur, ev, _, hh, _⟩
      · rw [ev] at hx; cases hx
      · rw [ev] at hx
        simp only [Value.ownBlock, Option.some.injEq] at hx
        subst hx
        refine q.block g' (Array.getElem?_eq_some_iff.1 hh).1 (fun e => ?_) (fun e => ?_) (fun e => ?_)
        · subst e; have := h.ma.blk; rw [hh] at this; simp at this
        · subst e; obtain ⟨c, f, this⟩ := bb; rw [hh] at this; simp at this
        · subst e; rw [hh] at hr; simp at hr
end
/-- A table and its twin in a loop. -/
def PL (z : Nat) (w W : World) (k g r : Nat) : Prop := ∃ (t : St) (B b cap s0 : Nat) (ca : Option Addr) (cc : Nat) (ha : Option Addr) (hc : Nat), PT z W k t B g b cap s0 r ca cc ha hc ∧ Below z w W
theorem PL.on {z : Nat} {w W W' : World} {k g r : Nat} (h : PL z w W k g r) (q : Below W.heap.size W W') : PL z w W' k g r := by
  obtain ⟨t, B, b, cap, s0, ca, cc, ha, hc, h1, h2⟩ := h
  exact ⟨t, B, b, cap, s0, ca, cc, ha, hc, h1.below q, h2.trans (q.mono h1.low.2.2.2)⟩
theorem PL.up {z : Nat} {w W : World} {k k' g r : Nat} (h : PL z w W k g r) (hk : k ≤ k') : PL z w W k' g r := by
  obtain ⟨t, B, b, cap, s0, ca, cc, ha, hc, h1, h2⟩ := h
  exact ⟨t, B, b, cap, s0, ca, cc, ha, hc, h1.up hk, h2⟩
theorem PL.bel {z : Nat} {w W : World} {k g r : Nat} (h : PL z w W k g r) : Below z w W := by
  obtain ⟨t, B, b, cap, s0, ca, cc, ha, hc, h1, h2⟩ := h
  exact h2
theorem PL.does {z : Nat} {w W : World} {k g r : Nat} (h : PL z w W k g r) (hk : k ≤ 2900000) (o : OpR) :
    Calls Try.prog 13 #[.pointer (some ⟨g, 0, none⟩), .pointer (some ⟨r, 0, none⟩), opV o] W fun e w' => e = .returned (.bool true) ∧ PL z w w' (k + 1) g r := by
  obtain ⟨t, B, b, cap, s0, ca, cc, ha, hc, h1, h2⟩ := h
  refine Calls.mono (does_any z k t B g b cap s0 r ca cc ha hc o W h1 hk) ?_
  rintro e w' ⟨rfl, t', b', cap', ca', cc', ha', hc', p1, p2, p3⟩
  obtain ⟨l1, l2, l3, l4⟩ := h1.low
  exact ⟨rfl, t', B, b', cap', s0, ca', cc', ha', hc', p1, p2.below h2 l4 l1 l2 l3⟩
theorem PL.looks {z : Nat} {w W : World} {k g r : Nat} (h : PL z w W k g r) (hk : k ≤ 2900000) :
    Calls Try.prog 14 #[.pointer (some ⟨g, 0, none⟩), .pointer (some ⟨r, 0, none⟩)] W fun e w' => e = .returned (.bool true) ∧ Below W.heap.size W w' := by
  obtain ⟨t, B, b, cap, s0, ca, cc, ha, hc, h1, h2⟩ := h
  exact looks_any z k t B g b cap s0 r ca cc ha hc W h1 (by omega)
/-- With a fork of the table beside. -/
def FK (z : Nat) (w W : World) (k g g' r : Nat) : Prop := ∃ (t : St) (B b cap s0 : Nat) (ca : Option Addr) (cc : Nat) (ha : Option Addr) (hc : Nat) (B' b' cap' : Nat), PT z W k t B g b cap s0 r ca cc ha hc ∧ Below z w W ∧ MA B' W g' b' cap' t ∧ z ≤ B' ∧ g' ≠ g ∧ g' ≠ b ∧ b' ≠ g ∧ b' ≠ b
theorem PL.fork {z : Nat} {w W : World} {k g r : Nat} (h : PL z w W k g r) :
    Calls Try.prog 11 #[.pointer (some ⟨g, 0, none⟩)] W fun e w' => ∃ g', e = .returned (.pointer (some ⟨g', 0, none⟩)) ∧ FK z w w' k g g' r := by
  obtain ⟨t, B, b, cap, s0, ca, cc, ha, hc, h1, h2⟩ := h
  refine Calls.mono (fork_any B g b cap t W h1.ma) ?_
  rintro e w' ⟨g', b', cap', rfl, m, q⟩
  obtain ⟨l1, l2, l3, l4⟩ := h1.low
  have hl := h1.ma.lt
  have := m.gB
  have := (World.ownsRow.lt m.row b' rfl).1
  exact ⟨g', rfl, t, B, b, cap, s0, ca, cc, ha, hc, W.heap.size, b', cap', h1.below q, h2.trans (q.mono l4), m, l4, by omega, by omega, by omega, by omega⟩
theorem FK.on {z : Nat} {w W W' : World} {k g g' r : Nat} (h : FK z w W k g g' r) (q : Below W.heap.size W W') : FK z w W' k g g' r := by
  obtain ⟨t, B, b, cap, s0, ca, cc, ha, hc, B', b', cap', h1, h2, h3, h4, h5⟩ := h
  exact ⟨t, B, b, cap, s0, ca, cc, ha, hc, B', b', cap', h1.below q, h2.trans (q.mono h1.low.2.2.2), h3.below q, h4, h5⟩
theorem FK.put {z : Nat} {w W : World} {k g g' r : Nat} (h : FK z w W k g g' r) (hk : k ≤ 2900000) (c : Cl) (hgt : Int) :
    Calls Try.prog 12 #[.pointer (some ⟨g, 0, none⟩), clV c, .int .i64 hgt] W fun e w' => (∃ q : Nat, e = .returned (.int .i64 (q : Nat))) ∧ PL z w w' k g' r := by
  obtain ⟨t, B, b, cap, s0, ca, cc, ha, hc, B', b', cap', h1, h2, h3, h4, n1, n2, n3, n4⟩ := h
  refine Calls.mono (put_any B g b cap t c hgt W h1.ma (by have := h1.nk; omega) h1.sz) ?_
  rintro e w' ⟨rfl, b2, cap2, m2, q, _⟩
  obtain ⟨l1, l2, l3, l4⟩ := h1.low
  have hl := h3.lt
  refine ⟨⟨_, rfl⟩, t, B', b', cap', s0, ca, cc, ha, hc, ⟨h3.eq (q.block g' hl.1 n1 n2) (q.block b' hl.2 n3 n4), h1.ra.km h1.ma q, h1.nk, h1.sz, h1.es, h1.ok, ⟨h4, h1.zB.2⟩, Nat.le_trans h1.sW q.size⟩, (KG.m r q).below h2 l4 l1 l2 l3⟩
end Go.Proofs.Ytdgmjmohfpjlnaa
