/-
  A further task of both loops, of any acts.
-/
import Derived.Test.YtefmhghdehokcaaBoth
import Derived.Test.YtefmhghdehokcaaLadG
import Derived.Test.YtefmhghdehokcaaLadN
namespace Go.Proofs.Ytefmhghdehokcaa
open Go.RowKit
/-- Acts in a slice: none, or a row. -/
def Src (w : World) (v : Value) (la : List (Int × Int)) : Prop := (v = .slice none 0 0 ∧ la = []) ∨ ∃ ad c, v = .slice (some ad) la.length c ∧ ∀ j u, (flA la)[j]? = some u → w.cell? (ad.add j) = some u
theorem both_addG (b p x : Nat) (v : Value) (la : List (Int × Int)) (S : LS) (w : World) (h : Both w b p x S) (hn : S.tks.length < 64) (hl : la.length * 16 ≤ 140737488355328) (hs : Src w v la) :
    Calls Try.prog 10 #[.pointer (some ⟨b, 0, none⟩), v] w fun r w' => r = .returned (.bool true) ∧ ∃ t S', t.acts = la ∧ t.told = [] ∧ S'.tks = S.tks ++ [t] ∧ S'.waits = S.waits ++ [0] ∧ S'.ticks = S.ticks ∧ S'.now = S.now ∧ S'.steps = S.steps ∧ S'.picks = S.picks ∧ S'.draws = S.draws ∧ S'.fu = S.fu ∧ Both w' b p x S' ∧ Below p w w' ∧ (∀ (k : Nat) o v, w.heap[k]? = some (.cells o 54 v) → w'.heap[k]? = some (.cells o 54 v)) := by
  obtain ⟨va, vT, x0, x1, x2, x4, x5, x6, x7, aL, ts, h1, h2, h3, h4, h5, h6, h7⟩ := h.ex
  have fin : ∀ w' : World, (∃ t vs' vw' va' vT' y vsrc, t.acts = la ∧ t.told = [] ∧ LA w' p { S with vs := vs', vw := vw', tks := S.tks ++ [t], waits := S.waits ++ [0] } ∧ w'.heap[b]? = some (.cells #[.pointer (some ⟨p, 0, none⟩), va', .pointer (some ⟨x, 0, none⟩)] 43 (0, 0)) ∧ w'.heap[x]? = some (.cells #[x0, x1, x2, vT', x4, x5, x6, x7] 75 (0, 0)) ∧ w'.ownsRow (p + 1) 58 1 va' (S.tks.length + 1) (aL ++ [.pointer (some ⟨t.q, 0, none⟩)]) ∧ w'.ownsRow (p + 1) 76 1 vT' (S.tks.length + 1) (ts ++ [.pointer (some ⟨y, 0, none⟩)]) ∧ w'.heap[y]? = some (.cells #[vsrc, .int .i64 0, .int .i64 0, .slice none 0 0] 78 (0, 0)) ∧ Kb (AddFoot b p x va vT S) w w') → ∃ t S', t.acts = la ∧ t.told = [] ∧ S'.tks = S.tks ++ [t] ∧ S'.waits = S.waits ++ [0] ∧ S'.ticks = S.ticks ∧ S'.now = S.now ∧ S'.steps = S.steps ∧ S'.picks = S.picks ∧ S'.draws = S.draws ∧ S'.fu = S.fu ∧ Both w' b p x S' ∧ Below p w w' ∧ (∀ (k : Nat) o v, w.heap[k]? = some (.cells o 54 v) → w'.heap[k]? = some (.cells o 54 v)) := by
    rintro w' ⟨t, vs', vw', va', vT', y, vsrc, e1, e2, e3, e4, e5, e6, e7, _, e9⟩
    have keep : ∀ (k : Nat) o v, w.heap[k]? = some (.cells o 54 v) → w'.heap[k]? = some (.cells o 54 v) := fun k o v hk => (e9.block k (Array.getElem?_eq_some_iff.1 hk).1 (fun e => by
      rcases e with e | e | e | e | e | e | e
      · rw [e, h1] at hk; simp at hk
      · rw [e, h2] at hk; simp at hk
      · exact row_type h3 hk (by decide) e
      · exact row_type h4 hk (by decide) e
      · rw [e, h5.hp] at hk; simp at hk
      · exact row_type h5.tasks hk (by decide) e
      · exact row_type h5.waits hk (by decide) e)).trans hk
    have hlen : ({ S with vs := vs', vw := vw', tks := S.tks ++ [t], waits := S.waits ++ [0] } : LS).tks.length = S.tks.length + 1 := by simp
    have B : Both w' b p x { S with vs := vs', vw := vw', tks := S.tks ++ [t], waits := S.waits ++ [0] } := by
      refine ⟨⟨va', vT', x0, x1, x2, x4, x5, x6, x7, aL ++ [.pointer (some ⟨t.q, 0, none⟩)], ts ++ [.pointer (some ⟨y, 0, none⟩)], e4, e5, ?_, ?_, e3, h6, h7⟩⟩
      · rw [hlen]; exact e6
      · rw [hlen]; exact e7
    exact ⟨t, { S with vs := vs', vw := vw', tks := S.tks ++ [t], waits := S.waits ++ [0] }, e1, e2, rfl, rfl, rfl, rfl, rfl, rfl, rfl, rfl, B, e9.below (Nat.le_of_lt h5.ps) (fun k e => add_ge h5 h3 h4 h6 h7 e), keep⟩
  rcases hs with ⟨rfl, rfl⟩ | ⟨ad, c, rfl, hc⟩
  · refine (law_addN b p x va vT x0 x1 x2 x4 x5 x6 x7 aL ts S w h1 h2 h3 h4 h5 hn h6 h7).mono ?_
    rintro r w' ⟨rfl, t, vs', vw', va', vT', y, e⟩
    exact ⟨rfl, fin w' ⟨t, vs', vw', va', vT', y, _, e⟩⟩
  · refine (law_addG b p x ad la.length c va vT x0 x1 x2 x4 x5 x6 x7 la aL ts S w h1 h2 h3 h4 h5 hn rfl hl hc h6 h7).mono ?_
    rintro r w' ⟨rfl, t, vs', vw', va', vT', y, e⟩
    exact ⟨rfl, fin w' ⟨t, vs', vw', va', vT', y, _, e⟩⟩
end Go.Proofs.Ytefmhghdehokcaa
