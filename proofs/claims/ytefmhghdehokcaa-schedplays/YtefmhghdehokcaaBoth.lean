/-
  Both loops in memory, and a further task of both.
-/
import Derived.Test.YtefmhghdehokcaaLooks
namespace Go.Proofs.Ytefmhghdehokcaa
open Go.RowKit
structure Both (w : World) (b p x : Nat) (S : LS) : Prop where
  ex : ∃ va vT x0 x1 x2 x4 x5 x6 x7 aL ts, w.heap[b]? = some (.cells #[.pointer (some ⟨p, 0, none⟩), va, .pointer (some ⟨x, 0, none⟩)] 43 (0, 0)) ∧ w.heap[x]? = some (.cells #[x0, x1, x2, vT, x4, x5, x6, x7] 75 (0, 0)) ∧ w.ownsRow (p + 1) 58 1 va S.tks.length aL ∧ w.ownsRow (p + 1) 76 1 vT S.tks.length ts ∧ LA w p S ∧ p < b ∧ p < x
theorem Both.la {w : World} {b p x : Nat} {S : LS} (h : Both w b p x S) : LA w p S := by
  obtain ⟨va, vT, x0, x1, x2, x4, x5, x6, x7, aL, ts, h1, h2, h3, h4, h5, h6⟩ := h.ex
  exact h5
theorem Both.below {w w' : World} {b p x : Nat} {S : LS} (h : Both w b p x S) (k : Below w.heap.size w w') : Both w' b p x S := by
  obtain ⟨va, vT, x0, x1, x2, x4, x5, x6, x7, aL, ts, h1, h2, h3, h4, h5, h6⟩ := h.ex
  exact ⟨⟨va, vT, x0, x1, x2, x4, x5, x6, x7, aL, ts, (k.block b (Array.getElem?_eq_some_iff.1 h1).1).trans h1, (k.block x (Array.getElem?_eq_some_iff.1 h2).1).trans h2, owns_same h3 (fun g e => k.block g (h3.lt g e).2), owns_same h4 (fun g e => k.block g (h4.lt g e).2), h5.below k, h6⟩⟩
/-- What is read of both: where the loop lies. -/
def At43 (w : World) (b p : Nat) : Prop := ∃ v u f, w.heap[b]? = some (.cells #[.pointer (some ⟨p, 0, none⟩), v, u] 43 f)
theorem Both.at43 {w : World} {b p x : Nat} {S : LS} (h : Both w b p x S) : At43 w b p := by
  obtain ⟨va, vT, x0, x1, x2, x4, x5, x6, x7, aL, ts, h1, h2⟩ := h.ex
  exact ⟨_, _, _, h1⟩
theorem At43.lv {w w' : World} {b p q : Nat} (h : At43 w b p) (k : Lv q w w') : At43 w' b p := by
  obtain ⟨v, u, f, h1⟩ := h
  exact ⟨v, u, f, k.t43 _ _ _ h1⟩
theorem At43.below {w w' : World} {b p : Nat} (h : At43 w b p) (k : Below w.heap.size w w') : At43 w' b p := by
  obtain ⟨v, u, f, h1⟩ := h
  exact ⟨v, u, f, (k.block b (Array.getElem?_eq_some_iff.1 h1).1).trans h1⟩
theorem At43.cell {w : World} {b p : Nat} (h : At43 w b p) : w.cell? ⟨b, 0, none⟩ = some (.pointer (some ⟨p, 0, none⟩)) := by
  obtain ⟨v, u, f, h1⟩ := h
  have := cells_of_block h1 0
  simpa using this
theorem add_ge {b p x k : Nat} {va vT : Value} {S : LS} {w : World} {n m : Nat} {xs ys : List Value} (h : LA w p S) (oa : w.ownsRow (p + 1) 58 1 va n xs) (oT : w.ownsRow (p + 1) 76 1 vT m ys) (hpb : p < b) (hpx : p < x) (hf : AddFoot b p x va vT S k) : p ≤ k := by
  rcases hf with e | e | e | e | e | e | e
  · omega
  · omega
  · have := (oa.lt k e).1; omega
  · have := (oT.lt k e).1; omega
  · omega
  · have := (h.tasks.lt k e).1; omega
  · have := (h.waits.lt k e).1; omega
theorem both_add (b p x g0 n c : Nat) (la : List (Int × Int)) (S : LS) (w : World) (h : Both w b p x S) (hn : S.tks.length < 64)
    (hl : la.length = n) (hn0 : 0 < n) (hn1 : n ≤ 100000) (hla : ∀ j y, la[j]? = some y → w.cell? ⟨g0, 2 * j, none⟩ = some (.int .i64 y.1) ∧ w.cell? ⟨g0, 2 * j + 1, none⟩ = some (.int .i64 y.2)) (hg0 : g0 < w.heap.size) :
    Calls Try.prog 10 #[.pointer (some ⟨b, 0, none⟩), .slice (some ⟨g0, 0, none⟩) n c] w fun r w' => r = .returned (.bool true) ∧ ∃ t S', t.acts = la ∧ t.told = [] ∧ S'.tks = S.tks ++ [t] ∧ S'.waits = S.waits ++ [0] ∧ S'.ticks = S.ticks ∧ S'.now = S.now ∧ S'.steps = S.steps ∧ S'.picks = S.picks ∧ S'.draws = S.draws ∧ S'.fu = S.fu ∧ Both w' b p x S' ∧ Below p w w' ∧ (∀ (k : Nat) o v, w.heap[k]? = some (.cells o 54 v) → w'.heap[k]? = some (.cells o 54 v)) := by
  obtain ⟨va, vT, x0, x1, x2, x4, x5, x6, x7, aL, ts, h1, h2, h3, h4, h5, h6, h7⟩ := h.ex
  refine (law_add b p x g0 n c va vT x0 x1 x2 x4 x5 x6 x7 la aL ts S w h1 h2 h3 h4 h5 hn hl hn0 hn1 hla hg0 h6 h7).mono ?_
  rintro r w' ⟨rfl, t, vs', vw', va', vT', y, e1, e2, e3, e4, e5, e6, e7, _, e9⟩
  have keep : ∀ (k : Nat) o v, w.heap[k]? = some (.cells o 54 v) → w'.heap[k]? = some (.cells o 54 v) := fun k o v hk => (e9.block k (Array.getElem?_eq_some_iff.1 hk).1 (fun e => by
    rcases e with e | e | e | e | e | e | e
    · rw [e, h1] at hk; simp at hk
    · rw [e, h2] at hk; simp at hk
    · exact row_type h3 hk (by decide) e
    · exact row_type h4 hk (by decide) e
    · rw [e, h5.hp] at hk; simp at hk
    · exact row_type h5.tasks hk (by decide) e
    · exact row_type h5.waits hk (by decide) e)).trans hk
  have hlen : ({ S with vs := vs', vw := vw', tks := S.tks ++ [t], waits := S.waits ++ [0] } : LS).tks.length = S.tks.length + 1 := by simp
  have B : Both w' b p x { S with vs := vs', vw := vw', tks := S.tks ++ [t], waits := S.waits ++ [0] } := by
    refine ⟨⟨va', vT', x0, x1, x2, x4, x5, x6, x7, aL ++ [.pointer (some ⟨t.q, 0, none⟩)], ts ++ [.pointer (some ⟨y, 0, none⟩)], e4, e5, ?_, ?_, e3, h6, h7⟩⟩
    · rw [hlen]; exact e6
    · rw [hlen]; exact e7
  exact ⟨rfl, t, { S with vs := vs', vw := vw', tks := S.tks ++ [t], waits := S.waits ++ [0] }, e1, e2, rfl, rfl, rfl, rfl, rfl, rfl, rfl, rfl, B, e9.below (Nat.le_of_lt h5.ps) (fun k e => add_ge h5 h3 h4 h6 h7 e), keep⟩
theorem start_both (ap ak ad : Option Addr) (np nk nd cp ck cd : Nat) (picks ticks draws : List Int) (w : World) (hp : Arg w ap np cp (picks.map iV)) (hk : Arg w ak nk ck (ticks.map iV)) (hd : Arg w ad nd cd (draws.map nV)) (hc : chkT picks ticks nd = 0) :
    Calls Try.prog 9 #[.agg #[.slice ap np cp, .slice ak nk ck, .slice ad nd cd]] w fun r w' => ∃ b p x S, r = .returned (.tuple #[.pointer (some ⟨b, 0, none⟩), .bool true]) ∧ S.tks = [] ∧ S.waits = [] ∧ S.ticks = ticks ∧ S.now = 0 ∧ S.steps = 0 ∧ S.picks = picks ∧ S.draws = draws ∧ S.fu = 0 ∧ Both w' b p x S ∧ w.heap.size ≤ p ∧ Below w.heap.size w w' := by
  refine (start_ok ap ak ad np nk nd cp ck cd picks ticks draws w hp hk hd hc).mono ?_
  rintro r w' ⟨b, p, x, vp, vk, vd, rfl, h1, h2, h3, h4, h5, h6, h7⟩
  exact ⟨b, p, x, S0 vp picks vk ticks vd draws, rfl, rfl, rfl, rfl, rfl, rfl, rfl, rfl, rfl, ⟨⟨_, _, _, _, _, _, _, _, _, [], [], h1, h2, World.ownsRow_nil _ _ _ _, World.ownsRow_nil _ _ _ _, h3, h6, h5⟩⟩, h4, h7⟩
end Go.Proofs.Ytefmhghdehokcaa
