/-
  Two tables with their twins, one pair a fork of the other.
-/
import Derived.Test.YtdgmjmohfpjlnaaDoW
namespace Go.Proofs.Ytdgmjmohfpjlnaa
open Go.RowKit Go.Shelf
def PL2 (z : Nat) (w W : World) (k g r g' s : Nat) : Prop :=
  ∃ (t : St) (B b cap s0 : Nat) (ca : Option Addr) (cc : Nat) (ha : Option Addr) (hc : Nat) (t' : St) (B' b' cap' s0' : Nat) (ca' : Option Addr) (cc' : Nat) (ha' : Option Addr) (hc' : Nat),
    PT z W k t B g b cap s0 r ca cc ha hc ∧ PT z W k t' B' g' b' cap' s0' s ca' cc' ha' hc' ∧ Below z w W ∧ (g' ≠ g ∧ g' ≠ b ∧ b' ≠ g ∧ b' ≠ b ∧ s ≠ r)
section
variable {z : Nat} {w W W' : World} {k g r g' s : Nat}
theorem PL2.bel (h : PL2 z w W k g r g' s) : Below z w W := by
  obtain ⟨_, _, _, _, _, _, _, _, _, _, _, _, _, _, _, _, _, _, _, _, h3, _⟩ := h
  exact h3
theorem PL2.on (h : PL2 z w W k g r g' s) (q : Below W.heap.size W W') : PL2 z w W' k g r g' s := by
  obtain ⟨t, B, b, cap, s0, ca, cc, ha, hc, t', B', b', cap', s0', ca', cc', ha', hc', h1, h2, h3, h4⟩ := h
  exact ⟨t, B, b, cap, s0, ca, cc, ha, hc, t', B', b', cap', s0', ca', cc', ha', hc', h1.below q, h2.below q, h3.trans (q.mono h1.low.2.2.2), h4⟩
theorem PL2.up {k' : Nat} (h : PL2 z w W k g r g' s) (hk : k ≤ k') : PL2 z w W k' g r g' s := by
  obtain ⟨t, B, b, cap, s0, ca, cc, ha, hc, t', B', b', cap', s0', ca', cc', ha', hc', h1, h2, h3, h4⟩ := h
  exact ⟨t, B, b, cap, s0, ca, cc, ha, hc, t', B', b', cap', s0', ca', cc', ha', hc', h1.up hk, h2.up hk, h3, h4⟩
theorem PL2.swap (h : PL2 z w W k g r g' s) : PL2 z w W k g' s g r := by
  obtain ⟨t, B, b, cap, s0, ca, cc, ha, hc, t', B', b', cap', s0', ca', cc', ha', hc', h1, h2, h3, h4⟩ := h
  exact ⟨t', B', b', cap', s0', ca', cc', ha', hc', t, B, b, cap, s0, ca, cc, ha, hc, h2, h1, h3, by omega⟩
theorem PL2.does (h : PL2 z w W k g r g' s) (hk : k ≤ 2900000) (o : OpR) :
    Calls Try.prog 13 #[.pointer (some ⟨g, 0, none⟩), .pointer (some ⟨r, 0, none⟩), opV o] W fun e w' => e = .returned (.bool true) ∧ PL2 z w w' (k + 1) g r g' s := by
  obtain ⟨t, B, b, cap, s0, ca, cc, ha, hc, t', B', b', cap', s0', ca', cc', ha', hc', h1, h2, h3, h4⟩ := h
  refine Calls.mono (does_any z k t B g b cap s0 r ca cc ha hc o W h1 hk) ?_
  rintro e w' ⟨rfl, t1, b1, cap1, ca1, cc1, ha1, hc1, p1, p2, p3⟩
  obtain ⟨l1, l2, l3, l4⟩ := h1.low
  have hl := h2.ma.lt
  exact ⟨rfl, t1, B, b1, cap1, s0, ca1, cc1, ha1, hc1, t', B', b', cap', s0', ca', cc', ha', hc', p1, (h1.other h2 p2 h4).up (Nat.le_succ _), p2.below h3 l4 l1 l2 l3, by omega⟩
theorem PL2.does' (h : PL2 z w W k g r g' s) (hk : k ≤ 2900000) (o : OpR) :
    Calls Try.prog 13 #[.pointer (some ⟨g', 0, none⟩), .pointer (some ⟨s, 0, none⟩), opV o] W fun e w' => e = .returned (.bool true) ∧ PL2 z w w' (k + 1) g r g' s :=
  Calls.mono (h.swap.does hk o) (fun _ _ q => ⟨q.1, q.2.swap⟩)
theorem PL2.looks (h : PL2 z w W k g r g' s) (hk : k ≤ 2900000) :
    Calls Try.prog 14 #[.pointer (some ⟨g, 0, none⟩), .pointer (some ⟨r, 0, none⟩)] W fun e w' => e = .returned (.bool true) ∧ Below W.heap.size W w' := by
  obtain ⟨t, B, b, cap, s0, ca, cc, ha, hc, t', B', b', cap', s0', ca', cc', ha', hc', h1, h2, h3, h4⟩ := h
  exact looks_any z k t B g b cap s0 r ca cc ha hc W h1 (by omega)
/-- The twin's fork, behind the table's. -/
theorem FK.fork (h : FK z w W k g g' r) (hk : k ≤ 2900000) :
    Calls Try.prog 15 #[.pointer (some ⟨r, 0, none⟩)] W fun e w' => ∃ s, e = .returned (.pointer (some ⟨s, 0, none⟩)) ∧ PL2 z w w' k g r g' s := by
  obtain ⟨t, B, b, cap, s0, ca, cc, ha, hc, B', b', cap', h1, h2, h3, h4, n1, n2, n3, n4⟩ := h
  refine Calls.mono (rfork_any s0 r _ _ ca cc ha hc W h1.ra (by rw [List.length_map]; have := h1.len; omega)) ?_
  rintro e w' ⟨s, ca', cc', ha', hc', rfl, p1, p2, p3⟩
  obtain ⟨l1, l2, l3, l4⟩ := h1.low
  have hr := h1.ra.lt
  exact ⟨s, rfl, t, B, b, cap, s0, ca, cc, ha, hc, t, B', b', cap', W.heap.size, ca', cc', ha', hc', h1.below p2, ⟨h3.below p2, p1, h1.nk, h1.sz, h1.es, h1.ok, ⟨h4, l4, by omega⟩, p2.size⟩, h2.trans (p2.mono l4), by omega⟩
end
end Go.Proofs.Ytdgmjmohfpjlnaa
