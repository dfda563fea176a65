/-
  The walk along a level keeps the contract of an iterator; level, inside a fence.
-/
import Derived.Test.YtdgmjmohfpjlnaaLvl
import Derived.RangeFuncFrom
import Derived.RangeFuncBox
namespace Go.Proofs.Ytdgmjmohfpjlnaa
open Go.RowKit Go.Shelf
attribute [local go_sem] Oper.semAt_some
theorem kc_below {c N : Nat} {A B : World} (h : Below A.heap.size A B) (hN : N ≤ A.heap.size) : Kc c N A B := fun q _ h2 => h.block q (Nat.lt_of_lt_of_le h2 hN)
theorem kc_b {c N : Nat} {w : World} (hn : N ≤ w.heap.size) (W : World) (l : Nat) (o o' : Obj) (hl : w.heap.size ≤ l) (_ : W.heap[l]? = some o) (_ : o.isCells = false) (_ : o.isWalk = false) : Kc c N W (W.putObj l o') :=
  fun q _ h2 => World.putObj_heap_other (by omega)
theorem drew_of {β : Type} {n : Nat} {J : β → World → Prop} (h : AbidesFrom n J) (s : β) (W : World) (q : J s W) : J s W.drew :=
  h s W W.drew none q ⟨rfl, rfl, rfl, Nat.le_refl _, fun _ _ _ => rfl⟩ (by intro r e; cases e)
theorem lv_stops (F : Fence) (n : Nat) (h42 : F.fn 42) (hro : F.round = none) (hn : 1 ≤ n) (c N B g b cap : Nat) (s : St) (k : Nat) (hk : k < 12) (w : World) (hN : N ≤ w.heap.size) (hL : LF c N B w g b cap s k) :
    SeqStopsK F n Try.prog 42 #[.pointer (some ⟨c + 3, 0, none⟩), .pointer (some ⟨c + 1, 0, none⟩), .pointer (some ⟨c + 2, 0, none⟩)] (fun x : Nat => #[Value.int .i64 ((x : Nat) : Int)]) (Kc c N) (fun ys => ys = lvl k s.E) (fun pre => pre <+: lvl k s.E) (lvl k s.E).length w :=
  fun l J Jx W hW hJ _ hY h0 => lv_in F n h42 hro hn l c N B g b cap s k hk J Jx hY (fun pre W q => drew_of hJ pre W q) W (hL.kc (kc_below hW hN)) h0
set_option maxRecDepth 20000 in
set_option maxHeartbeats 4000000 in
theorem level_in (F : Fence) (n : Nat) (h39 : F.fn 39) (hro : F.round = none) (p : Option Addr) (k a : Nat) (w : World) : CallsIn F n Try.prog 39 #[.pointer p, .int .i64 ((k : Nat) : Int), .int .i64 ((a : Nat) : Int)] w fun e w' => e = .returned (.func (.func 42) #[] #[.pointer (some ⟨w.heap.size + 1 + 1, 0, none⟩), .pointer (some ⟨w.heap.size, 0, none⟩), .pointer (some ⟨w.heap.size + 1, 0, none⟩)]) ∧ w' = ((w.alloc (.cells #[.pointer p] 23)).alloc (.cells #[.int .i64 ((k : Nat) : Int)] 3)).alloc (.cells #[.int .i64 ((a : Nat) : Int)] 3) := by
  refine callsIn_of_wp Try.func39 rfl h39 ?_ hro
  simp only [Try.ntmps39, List.size_toArray, List.length_cons, List.length_nil, Nat.reduceAdd, Nat.reduceSub, Array.replicate_succ, Array.replicate_zero, List.push_toArray, List.append_toArray, List.nil_append, List.cons_append]
  gi_wp2
  go_ret
  exact ⟨rfl, rfl⟩
/-- How many stand on each level, from the lowest up to the first that is empty. -/
def levR (E : List En) : List Nat := ((List.range 12).takeWhile (fun k => decide (fsL k E ≠ 0))).map (fun k => (lvl k E).length)
/-- The count's world: a round of the walk counts one more. -/
def CtI (z c : Nat) (w : World) (pre : List Nat) (W : World) : Prop := Boxed W c 3 (.int .i64 ((pre.length : Nat) : Int)) ∧ (∀ q, q ≠ c → q < z → W.heap[q]? = w.heap[q]?) ∧ z ≤ W.heap.size ∧ W.os = w.os ∧ W.tape = w.tape ∧ W.output = w.output
theorem ctI_own {z c : Nat} {w : World} (hc : c < z) : OwnFrom z (CtI z c w) := by
  rintro s W W' row ⟨h1, h2, h3, h4, h5, h6⟩ hg hr
  have hb : ∀ q, q < z → W'.heap[q]? = W.heap[q]? := fun q hq => hg.block q (by omega) (fun e => by
    obtain ⟨h7, _⟩ := hr q e.symm
    omega)
  exact ⟨(hb c hc).trans h1, fun q k1 k2 => (hb q k2).trans (h2 q k1 k2), Nat.le_trans h3 hg.size, hg.os.trans h4, hg.tape.trans h5, hg.output.trans h6⟩
theorem ctI_step {z c : Nat} {w W : World} {pre : List Nat} (h : CtI z c w pre W) (x : Nat) : KeepsOthers W (W.setCell ⟨c, 0, none⟩ (.int .i64 ((pre.length : Nat) + 1 : Int))) ∧ Kc c z W (W.setCell ⟨c, 0, none⟩ (.int .i64 ((pre.length : Nat) + 1 : Int))) ∧ CtI z c w (pre ++ [x]) (W.setCell ⟨c, 0, none⟩ (.int .i64 ((pre.length : Nat) + 1 : Int))) := by
  refine ⟨KeepsOthers.setCell _ _ _, fun q h1 _ => Below.heap_setCell _ _ _ _ h1, ?_, fun q h1 h2 => (Below.heap_setCell _ _ _ _ h1).trans (h.2.1 q h1 h2), ?_, h.2.2.2⟩
  · have := h.1.set (.int .i64 ((pre.length : Nat) + 1 : Int))
    have e : (((pre ++ [x]).length : Nat) : Int) = (pre.length : Int) + 1 := by simp
    rw [e]
    exact this
  · have := (KeepsWalks.setCell W ⟨c, 0, none⟩ (.int .i64 ((pre.length : Nat) + 1 : Int))).size
    exact Nat.le_trans h.2.2.1 this
theorem ctI_start (w : World) (o1 o2 o3 : Obj) : CtI (w.heap.size + 4) w.heap.size ((((w.alloc (.cells #[.int .i64 0] 3)).alloc o1).alloc o2).alloc o3) [] ((((w.alloc (.cells #[.int .i64 0] 3)).alloc o1).alloc o2).alloc o3) :=
  ⟨(((Boxed.new w 3 (.int .i64 0)).alloc o1).alloc o2).alloc o3, fun _ _ _ => rfl, by simp, rfl, rfl, rfl⟩
end Go.Proofs.Ytdgmjmohfpjlnaa
