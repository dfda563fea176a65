/-
  Scan of a table that nobody made: nothing comes.
-/
import Derived.Test.YtdgmjmohfpjlnaaNob
namespace Go.Proofs.Ytdgmjmohfpjlnaa
open Go.RowKit Go.Shelf
attribute [local go_sem] Oper.semAt_some
set_option maxRecDepth 20000 in
set_option maxHeartbeats 4000000 in
theorem scan1_nob (l : Nat) (B1 : Nat) (a2 a3 : Option Addr) (p : Option Addr) (W : World) (h : W.cell? ⟨B1, 0, none⟩ = some (.pointer p)) (hn : Nby W p) : Calls Try.prog 40 #[.func (.yield l) #[] #[], .pointer (some ⟨B1, 0, none⟩), .pointer a2, .pointer a3] W fun e W' => (∃ v, e = .returned v) ∧ W' = W.alloc (.cells #[.func (.yield l) #[] #[]] 80) := by
  have hc := cell_kept h (World.grownBy_alloc W (.cells #[.func (.yield l) #[] #[]] 80) none) (fun r e => by cases e)
  have HC : Hid (∀ _ : Unit, _) := fun _ => closed_yes p (W.alloc (.cells #[.func (.yield l) #[] #[]] 80)) (hn.below (below_new _ _))
  clear h hn
  go_enter Try.func40, Try.ntmps40
  go_wp2_with fail
  refine (HC.out ()).mono ?_
  rintro e w1 ⟨rfl, hw1⟩
  rw [hw1]
  clear hw1 w1
  go_wp2_with fail
  refine bodyPost_ret (results_none rfl _ _ _) rfl ?_
  exact ⟨⟨_, rfl⟩, rfl⟩
theorem scan_none (n B1 : Nat) (a2 a3 p : Option Addr) (w : World) (hB : B1 < w.heap.size) (h : w.cell? ⟨B1, 0, none⟩ = some (.pointer p)) (hn : Nby w p) (encs : Cl → Array Value) :
    SeqStopsK Fence.wide n Try.prog 40 #[.pointer (some ⟨B1, 0, none⟩), .pointer a2, .pointer a3] encs (fun _ _ => True) (fun ys => ys = []) (fun _ => False) 0 w := by
  intro l J Jx W hW hJ _ _ h0
  refine callsIn_wide.2 ((scan1_nob l B1 a2 a3 p W ((hW.cell (p := ⟨B1, 0, none⟩) hB).trans h) (hn.below hW)).mono ?_)
  rintro e W' ⟨he, rfl⟩
  exact ⟨he, Or.inl ⟨[], rfl, hJ [] W _ none h0 (World.grownBy_alloc W _ none) (by intro r e; cases e)⟩⟩
end Go.Proofs.Ytdgmjmohfpjlnaa
