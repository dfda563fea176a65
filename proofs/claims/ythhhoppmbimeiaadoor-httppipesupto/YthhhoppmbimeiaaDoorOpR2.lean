/-
  What is handed in, opened, where it is small: a request.
-/
import Derived.Test.YthhhoppmbimeiaaDoorOpR
import Derived.Test.YthhhoppmbimeiaaDoorPrH
namespace Go.Proofs.YthhhoppmbimeiaaDoor
open Go.RowKit Go.Deep Go.ChangeShapes
theorem bulks.bound {H : Type} {ds : List (DataW H)} (h : Rows.uptoSmall H ds = true) : Rows.uptoBulkAll ds ≤ 1048576 := of_decide_eq_true h
theorem bulk_fd {H : Type} (f : Fd) : Rows.uptoBulk (fdD (H := H) f) = f.name.size + f.val.size + 3 := by
  simp only [fdD, Rows.uptoBulk, Rows.uptoBulkAll, size_list]
  omega
theorem bulk_fds {H : Type} : ∀ l : List Fd, (l.flatMap fdT).length ≤ 2 * Rows.uptoBulkAll (l.map (fdD (H := H))) ∧ l.length ≤ Rows.uptoBulkAll (l.map (fdD (H := H))) ∧ ∀ f ∈ l, f.name.size + f.val.size ≤ Rows.uptoBulkAll (l.map (fdD (H := H)))
  | [] => ⟨Nat.zero_le _, Nat.zero_le _, fun f hf => by cases hf⟩
  | x :: l => by
    obtain ⟨h1, h2, h3⟩ := bulk_fds (H := H) l
    have hb := bulk_fd (H := H) x
    have hl := fdT_len x
    rw [List.map_cons, Rows.uptoBulkAll, List.flatMap_cons, List.length_append, List.length_cons]
    refine ⟨by omega, by omega, fun f hf => ?_⟩
    rcases List.mem_cons.1 hf with rfl | hf
    · omega
    · have := h3 f hf; omega
theorem req_small {H : Type} {met tar body : ByteArray} {l : List Fd} {shut : Bool} {fd d : DataW H} (hd : (l = [] ∧ fd = .nil) ∨ ∃ sp, fd = .slice (l.map fdD) sp) (he : d = .agg [.lit (.string met.data.toList), .lit (.string tar.data.toList), fd, .lit (.string body.data.toList), .lit (.bool shut)]) {N : Nat} (hsz : Rows.uptoBulk d ≤ N) :
    met.size + tar.size + body.size + (l.flatMap fdT).length ≤ 2 * N ∧ l.length ≤ N ∧ ∀ f ∈ l, f.name.size ≤ N ∧ f.val.size ≤ N := by
  subst he
  simp only [Rows.uptoBulk, Rows.uptoBulkAll, size_list] at hsz
  rcases hd with ⟨rfl, rfl⟩ | ⟨sp, rfl⟩
  · exact ⟨by simp; omega, Nat.zero_le _, fun f hf => by cases hf⟩
  · simp only [Rows.uptoBulk] at hsz
    obtain ⟨h1, h2, h3⟩ := bulk_fds (H := H) l
    exact ⟨by omega, by omega, fun f hf => by have := h3 f hf; omega⟩
theorem hdB_small {met tar : ByteArray} {fs : List Fd} {N : Nat} (h : met.size + tar.size + (fs.flatMap fdT).length ≤ N) : (hdB met tar fs).size ≤ N + 14 := by rw [hdB_size]; omega
theorem fields_nil {H : Type} {enc : TypeId × Value → H} {W : World} {a : Option Addr} {n c : Nat} {fuel : Nat} {x : DataW H × List MemPlace} (hf : DataW.trod enc Tryd.prog W 0 (fun _ => true) true fuel 22 [.slice a n c] = some x) : a = none → c = 0 := by
  rcases open_slice Tryd.underlying22 hf with ⟨hcs, _⟩ | ⟨y, l, c', m, n', D, Pl, hcs, _, hl, hm, hmm, hxd, hx⟩
  · simp at hcs
    exact fun _ => hcs.2.2
  · simp only [List.cons.injEq, and_true, Value.slice.injEq] at hcs
    intro e
    rw [e] at hcs
    cases hcs.1
set_option maxRecDepth 100000 in
theorem req_nil {H : Type} {enc : TypeId × Value → H} {W : World} {met tar body : ByteArray} {a : Option Addr} {n c : Nat} {shut : Bool} {fuel : Nat} {x : DataW H × List MemPlace} (hf : DataW.trod enc Tryd.prog W 0 (fun _ => true) true fuel 24 [.string met, .string tar, .slice a n c, .string body, .bool shut] = some x) : a = none → c = 0 := by
  obtain ⟨y0, y1, y2, y3, y4, k, hD, hlen, g0, g1, g2, g3, g4⟩ := trod_struct5 Tryd.underlying24 hf
  simp [cellsFs] at g2
  exact fields_nil g2
end Go.Proofs.YthhhoppmbimeiaaDoor
