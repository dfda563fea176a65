/-
  What is handed in, opened: one cell; two moments.
-/
import Derived.Test.YtohamjoiohfoiaaOpens
namespace Go.Proofs.Ytohamjoiohfoiaa
open Go.RowKit Go.Deep Go.ChangeShapes
theorem cell_arg {H : Type} {enc : TypeId × Value → H} {W : World} {cs : List Value} {fuel : Nat} {x : DataW H × List MemPlace} (hf : DataW.trod enc Try.prog W 0 (fun _ => true) true fuel 24 cs = some x) :
    ∃ q : Cl, cs = [.string q.key, .int .u64 (q.seq : Nat), .string q.val, .bool q.gone] := by
  obtain ⟨y0, y1, y2, y3, k, hD, hlen, g0, g1, g2, g3⟩ := Go.Joins.trod_struct4 Try.underlying24 hf
  rw [cells24] at hlen
  match cs, hlen with
  | [v0, v1, v2, v3], _ =>
    simp [cells9, cells22, cells4] at g0 g1 g2 g3
    obtain ⟨a0, e0, _, _⟩ := DataW.trod_string Try.underlying9 g0
    obtain ⟨a1, e1, _, w1⟩ := DataW.trod_int Try.underlying22 g1
    obtain ⟨a2, e2, _, _⟩ := DataW.trod_string Try.underlying9 g2
    obtain ⟨a3, e3, _⟩ := DataW.trod_bool Try.underlying4 g3
    simp at e0 e1 e2 e3
    subst e0 e1 e2 e3
    obtain ⟨sq, rfl, _⟩ := u64_nat w1
    exact ⟨⟨a0, sq, a2, a3⟩, rfl⟩
theorem trod_array2 {H : Type} {enc : TypeId × Value → H} {P : Program} {w : World} {base : Nat} {spare : Nat → Bool} {held : Bool} {t e : TypeId} {fuel : Nat} {c0 c1 : Value} {x : DataW H × List MemPlace} (ht : P.underlying t = some (.array 2 e)) (hce : P.cellsOf e = 1)
    (h : DataW.trod enc P w base spare held fuel t [c0, c1] = some x) :
    ∃ y0 y1 n, x = (.agg [y0.1, y1.1], y0.2 ++ y1.2) ∧ DataW.trod enc P w base spare held n e [c0] = some y0 ∧ DataW.trod enc P w base spare held n e [c1] = some y1 := by
  cases fuel with
  | zero => simp [DataW.trod] at h
  | succ n =>
    unfold DataW.trod at h
    rw [ht] at h
    have r3 : List.range 2 = [0, 1] := rfl
    simp [r3, hce] at h
    obtain ⟨_, h⟩ := h
    cases h0 : DataW.trod enc P w base spare held n e [c0] with
    | none => simp [h0] at h
    | some y0 =>
      cases h1 : DataW.trod enc P w base spare held n e [c1] with
      | none => simp [h0, h1] at h
      | some y1 =>
        simp [h0, h1] at h
        exact ⟨y0, y1, n, h.symm, h0, h1⟩
theorem pair_arg {H : Type} {enc : TypeId × Value → H} {W : World} {c0 c1 : Value} {fuel : Nat} {x : DataW H × List MemPlace} (hf : DataW.trod enc Try.prog W 0 (fun _ => true) true fuel 45 [c0, c1] = some x) :
    ∃ m n : Nat, c0 = .int .u64 (m : Nat) ∧ c1 = .int .u64 (n : Nat) := by
  obtain ⟨y0, y1, k, _, g0, g1⟩ := trod_array2 Try.underlying45 cells22 hf
  obtain ⟨a0, e0, _, w0⟩ := DataW.trod_int Try.underlying22 g0
  obtain ⟨a1, e1, _, w1⟩ := DataW.trod_int Try.underlying22 g1
  simp at e0 e1
  subst e0 e1
  obtain ⟨m, rfl, _⟩ := u64_nat w0
  obtain ⟨n, rfl, _⟩ := u64_nat w1
  exact ⟨m, n, rfl, rfl⟩
theorem okWide_array {P : Program} {w : World} {r : Reach} {base : Nat} {t e : TypeId} {n : Nat} {v : Value} (ht : P.underlying t = some (.array n e)) (h : Value.okWide P w r base t v) : ∃ cs, v = .agg cs ∧ cs.size = P.cellsOf t := by
  simp only [Value.okWide, ht] at h
  obtain ⟨cs, h1, h2, _⟩ := h
  exact ⟨cs, h1, h2⟩
theorem two_of {cs : Array Value} (h : cs.size = 2) : ∃ a b, cs = #[a, b] := by
  obtain ⟨l⟩ := cs
  match l, h with
  | [a, b], _ => exact ⟨a, b, rfl⟩
theorem three_of {cs : Array Value} (h : cs.size = 3) : ∃ a b c, cs = #[a, b, c] := by
  obtain ⟨l⟩ := cs
  match l, h with
  | [a, b, c], _ => exact ⟨a, b, c, rfl⟩
theorem cells45 : Try.prog.cellsOf 45 = 2 := by kernel_rfl
end Go.Proofs.Ytohamjoiohfoiaa
