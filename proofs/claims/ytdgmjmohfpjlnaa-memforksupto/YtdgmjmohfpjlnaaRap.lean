/-
  The twin's table in memory; append of what may be nil.
-/
import Derived.Test.YtdgmjmohfpjlnaaRlv
import Derived.Laws.AppendOwnNone
namespace Go.Proofs.Ytdgmjmohfpjlnaa
open Go.RowKit Go.Shelf
def intsV (H : List Nat) : List Value := H.map fun x => .int .i64 ((x : Nat) : Int)
/-- The twin's table. -/
structure RA (s0 : Nat) (W : World) (r : Nat) (L : List Cl) (H : List Nat) (ca : Option Addr) (cc : Nat) (ha : Option Addr) (hc : Nat) : Prop where
  blk : W.heap[r]? = some (.cells #[.slice ca L.length cc, .slice ha L.length hc] 30 (0, 0))
  cells : W.ownsRow s0 33 4 (.slice ca L.length cc) L.length (flC L)
  hts : W.ownsRow s0 3 1 (.slice ha L.length hc) L.length (intsV H)
  len : H.length = L.length
theorem RA.lt {s0 : Nat} {W : World} {r : Nat} {L : List Cl} {H : List Nat} {ca : Option Addr} {cc : Nat} {ha : Option Addr} {hc : Nat} (h : RA s0 W r L H ca cc ha hc) : r < W.heap.size := (Array.getElem?_eq_some_iff.1 h.blk).1
theorem RA.keep {s0 : Nat} {W W' : World} {r : Nat} {L : List Cl} {H : List Nat} {ca : Option Addr} {cc : Nat} {ha : Option Addr} {hc : Nat} (h : RA s0 W r L H ca cc ha hc) (k : ∀ (q : Nat) (o : Obj), W.heap[q]? = some o → (∃ c f, o = Obj.cells c 30 f ∨ o = Obj.cells c 33 f ∨ o = Obj.cells c 3 f) → W'.heap[q]? = some o) : RA s0 W' r L H ca cc ha hc := by
  refine ⟨k r _ h.blk ⟨_, _, .inl rfl⟩, owns_same h.cells (fun g hg => ?_), owns_same h.hts (fun g hg => ?_), h.len⟩
  · rcases h.cells.2 with ⟨ev, _⟩ | ⟨g', cap, cur, ev, _, hh, _⟩
    · rw [ev] at hg; cases hg
    · rw [ev] at hg
      simp only [Value.ownBlock, Option.some.injEq] at hg
      subst hg
      rw [k g' _ hh ⟨_, _, .inr (.inl rfl)⟩, hh]
  · rcases h.hts.2 with ⟨ev, _⟩ | ⟨g', cap, cur, ev, _, hh, _⟩
    · rw [ev] at hg; cases hg
    · rw [ev] at hg
      simp only [Value.ownBlock, Option.some.injEq] at hg
      subst hg
      rw [k g' _ hh ⟨_, _, .inr (.inr rfl)⟩, hh]
theorem RA.below {s0 : Nat} {W W' : World} {r : Nat} {L : List Cl} {H : List Nat} {ca : Option Addr} {cc : Nat} {ha : Option Addr} {hc : Nat} (h : RA s0 W r L H ca cc ha hc) (b : Below W.heap.size W W') : RA s0 W' r L H ca cc ha hc :=
  h.keep (fun q _ ho _ => (b.block q (Array.getElem?_eq_some_iff.1 ho).1).trans ho)
theorem RA.f0 {s0 : Nat} {W : World} {r : Nat} {L : List Cl} {H : List Nat} {ca : Option Addr} {cc : Nat} {ha : Option Addr} {hc : Nat} (h : RA s0 W r L H ca cc ha hc) : W.cell? ⟨r, 0, none⟩ = some (.slice ca L.length cc) ∧ W.cell? ⟨r, 1, none⟩ = some (.slice ha L.length hc) := ⟨cell_of_block h.blk rfl, cell_of_block h.blk rfl⟩
theorem RA.ca {s0 : Nat} {W : World} {r : Nat} {L : List Cl} {H : List Nat} {ca : Option Addr} {cc : Nat} {ha : Option Addr} {hc : Nat} (h : RA s0 W r L H ca cc ha hc) : L.length ≤ cc ∧ CA W.heap.size W ca L := by
  obtain ⟨a, c, e, h1, h2⟩ := ca_row h.cells
  simp only [Value.slice.injEq] at e
  obtain ⟨rfl, _, rfl⟩ := e
  exact ⟨h1, h2⟩
theorem RA.ia {s0 : Nat} {W : World} {r : Nat} {L : List Cl} {H : List Nat} {ca : Option Addr} {cc : Nat} {ha : Option Addr} {hc : Nat} (h : RA s0 W r L H ca cc ha hc) : L.length ≤ hc ∧ IA W ha H := by
  have h1 := h.hts
  rw [← h.len] at h1
  obtain ⟨a, c, e, h2⟩ := ia_of_row h1
  simp only [Value.slice.injEq] at e
  obtain ⟨rfl, e2, rfl⟩ := e
  refine ⟨?_, h2⟩
  rcases h1.2 with ⟨ev, h0⟩ | ⟨g, cap, cur, ev, _, _, hn, _⟩
  · have := h.len
    omega
  · simp only [Value.slice.injEq] at ev
    obtain ⟨_, _, rfl⟩ := ev
    have := h.len
    omega
/-- append onto a row of one's own of what may be nil. -/
theorem wpList_append_any {P : Program} (w : World) {ops : Array Oper} {rest : List Oper} {o : Oper} {a : Act} {Q : Exit → Act → World → Prop} (hgd : o.guard = none) (s x : Operand) (t : TypeId)
    (ho : o.op = .call { callee := .builtin .append, args := #[s, x], argTypes := #[t, t] })
    (base : Nat) (e : TypeId) (i : TypeInfo) (z : Value) (size bytes : Nat) (ht : P.underlying t = some (.slice e)) (hi : P.info? e = some i) (hz : i.zero = some z)
    (hsize : i.size = size) (hby : i.bytes = bytes) (hzs : z.cells.size = size) (hsz : 0 < size)
    (v : Value) (n : Nat) (xs : List Value) (hs : a.eval s = v) (hown : w.ownsRow base e size v n xs)
    (ao : Option Addr) (m c : Nat) (news : List Value) (hx : a.eval x = .slice ao m c) (hno : ao = none → m = 0 ∧ c = 0) (hl : news.length = m * size) (hnews : ∀ ad, ao = some ad → ∀ j u, news[j]? = some u → w.cell? (ad.add j) = some u) (h1 : ∀ u ∈ news, u.oneCell' = true)
    (h63 : n + m ≤ maxLen) (hbytes : (n + m) * bytes ≤ 140737488355328) (hbase : base ≤ w.heap.size)
    (h : ∀ v' w', w'.ownsRow base e size v' (n + m) (xs ++ news) → w.grownBy w' v.ownBlock → wpList P ops Q rest (a.put o.dst v') w') :
    wpList P ops Q (o :: rest) a w := by
  cases ao with
  | none =>
    obtain ⟨rfl, rfl⟩ := hno rfl
    refine wpList_append_own_none hgd s x t ho base e i size ht hi v n xs hs hown hx ?_
    have hn : news = [] := List.eq_nil_of_length_eq_zero (by rw [hl]; omega)
    refine h v w (by rw [hn, List.append_nil]; exact hown) ⟨rfl, rfl, rfl, Nat.le_refl _, fun _ _ _ => rfl⟩
  | some ad => exact wpList_append_own w hgd s x t ho base e i z size bytes ht hi hz hsize hby hzs hsz v n xs hs hown ad m c news hx hl (hnews ad rfl) h1 h63 hbytes hbase (fun v' w' q1 q2 _ => h v' w' q1 q2)
end Go.Proofs.Ytdgmjmohfpjlnaa
