/-
  A writer in memory, and the contracts of its inner calls: varintWidth, room, groups.
-/
import Derived.Test.YtkebddjndljodaaDoorRead
import Derived.Lib.AppendStr
import Derived.Deep.QuietTactic
import Derived.BigQuiet
namespace Go.Proofs.YtkebddjndljodaaDoor
open Go.RowKit

/-- Bytes as cells. -/
def cellsOf (l : List UInt8) : List Value := l.map fun c => Value.int .u8 c.toNat
theorem cellsOf_length (l : List UInt8) : (cellsOf l).length = l.length := by simp [cellsOf]
theorem cellsOf_append (a b : List UInt8) : cellsOf (a ++ b) = cellsOf a ++ cellsOf b := by simp [cellsOf]
theorem cellsOf_one (l : List UInt8) : ∀ u ∈ cellsOf l, u.oneCell' = true := by
  intro u hu
  simp only [cellsOf, List.mem_map] at hu
  obtain ⟨c, _, rfl⟩ := hu
  rfl

/-- The writer in block b: how many bytes it may have, its bytes (in the row of v, which lies among the blocks from base on), whether it is over. -/
structure WIs (w : World) (base b : Nat) (most : Int) (bs : List UInt8) (over : Bool) (v : Value) : Prop where
  block : w.heap[b]? = some (.cells #[.int .i64 most, v, .bool over] 54 (0, 0))
  row : w.ownsRow base 5 1 v bs.length (cellsOf bs)

/-- The blocks that a writer's calls may turn. -/
def WS (base b : Nat) : Nat → Prop := fun k => k = b ∨ base ≤ k

/-- What a writer's call keeps: all but its own block and rows of bytes from base on. -/
def WR (base b : Nat) (w : World) : Nat → Prop := fun k => k = b ∨ (base ≤ k ∧ ∃ cur, w.heap[k]? = some (.cells cur 5 (0, 0)))
def WKeeps (base b : Nat) (w w' : World) : Prop := Keeps (WR base b w) w w'
theorem WKeeps.refl (base b : Nat) (w : World) : WKeeps base b w w := Keeps.refl _ _
theorem WKeeps.trans {base b : Nat} {u w w' : World} (h : WKeeps base b u w) (k : WKeeps base b w w') : WKeeps base b u w' := by
  refine ⟨k.os.trans h.os, k.tape.trans h.tape, k.output.trans h.output, Nat.le_trans h.size k.size, fun i hi hS => ?_⟩
  have e := h.block i hi hS
  refine (k.block i (Nat.lt_of_lt_of_le hi h.size) (fun s => hS ?_)).trans e
  rcases s with s | ⟨s1, cur, s2⟩
  · exact Or.inl s
  · exact Or.inr ⟨s1, cur, e.symm.trans s2⟩
theorem WKeeps.alloc {base b : Nat} {u w : World} (h : WKeeps base b u w) (o : Obj) : WKeeps base b u (w.alloc o) := Keeps.alloc h o
theorem WKeeps.drewN {base b : Nat} {u w : World} (h : WKeeps base b u w) (q : Nat) : WKeeps base b u (w.drewN q) := Keeps.drewN h q
theorem WKeeps.below {base b : Nat} {w w' : World} {B : Nat} (h : WKeeps base b w w') (hB : B ≤ w.heap.size) (hS : ∀ k, WS base b k → B ≤ k) : Below B w w' :=
  Keeps.below h hB (fun k s => hS k (by rcases s with s | s; exact Or.inl s; exact Or.inr s.1))
theorem WKeeps.row {base b : Nat} {u w : World} {v : Value} {n : Nat} {xs : List Value} (h : WKeeps base b u w) (r : w.ownsRow base 5 1 v n xs) : ∀ i, v.ownBlock = some i → WR base b u i ∨ u.heap.size ≤ i := by
  intro i hi
  by_cases hlt : u.heap.size ≤ i
  · exact Or.inr hlt
  · refine Or.inl (Classical.byContradiction fun hn => hn ?_)
    rcases r.2 with ⟨rfl, _⟩ | ⟨g, cap, cur, rfl, hg, hh, _⟩
    · cases hi
    · cases hi
      exact Or.inr ⟨hg, cur, (h.block g (Nat.lt_of_not_le hlt) hn).symm.trans hh⟩
section
variable {w w' : World} {base b : Nat} {most : Int} {bs : List UInt8} {over : Bool} {v : Value}
theorem WIs.lt (h : WIs w base b most bs over v) : b < w.heap.size := lt_of_block h.block
theorem WIs.c0 (h : WIs w base b most bs over v) : w.cell? ⟨b, 0, none⟩ = some (.int .i64 most) := cell_of_block h.block rfl
theorem WIs.c1 (h : WIs w base b most bs over v) : w.cell? ⟨b, 1, none⟩ = some v := cell_of_block h.block rfl
theorem WIs.c2 (h : WIs w base b most bs over v) : w.cell? ⟨b, 2, none⟩ = some (.bool over) := cell_of_block h.block rfl
theorem WIs.f1 (h : WIs w base b most bs over v) : w.frozen? ⟨b, 1, none⟩ = false := free_of_block h.block 1
theorem WIs.f2 (h : WIs w base b most bs over v) : w.frozen? ⟨b, 2, none⟩ = false := free_of_block h.block 2
theorem row_apart {g : Nat} (hb : w.heap[b]? = some (.cells #[.int .i64 most, v, .bool over] 54 (0, 0))) {v' : Value} {n : Nat} {xs : List Value} (h : w.ownsRow base 5 1 v' n xs) (hg : v'.ownBlock = some g) : g ≠ b := by
  intro e
  rcases h.2 with ⟨rfl, _⟩ | ⟨g', cap, cur, rfl, _, hg', _⟩
  · simp [Value.ownBlock] at hg
  · simp [Value.ownBlock] at hg
    subst hg
    subst e
    rw [hb] at hg'
    simp at hg'
theorem WIs.apart (h : WIs w base b most bs over v) : v.ownBlock ≠ some b := fun e => row_apart h.block h.row e rfl
/-- The writer's row as a value that shows what it is. -/
theorem form_of_row {n : Nat} {xs : List Value} (h : w.ownsRow base 5 1 v n xs) : ∃ a cap, v = .slice a n cap := by
  rcases h.2 with ⟨rfl, hn⟩ | ⟨g, cap, cur, rfl, _⟩
  · exact ⟨none, 0, by rw [hn]⟩
  · exact ⟨_, _, rfl⟩
theorem WIs.form (h : WIs w base b most bs over v) : ∃ a cap, v = .slice a bs.length cap := form_of_row h.row
theorem WIs.lenLe (h : WIs w base b most bs over v) : bs.length ≤ maxLen := by
  rcases h.row.2 with ⟨_, hn⟩ | ⟨g, cap, cur, rfl, _, _, h1, h2, _⟩
  · rw [hn]; exact Nat.zero_le _
  · exact Nat.le_trans h1 h2
theorem ownsRow_kept {e : TypeId} {n : Nat} {xs : List Value} {S : Nat → Prop} (h : w.ownsRow base e 1 v n xs) (k : Keeps S w w') (hS : ∀ i, v.ownBlock = some i → ¬ S i) : w'.ownsRow base e 1 v n xs := by
  refine ⟨h.1, ?_⟩
  rcases h.2 with q | ⟨g, cap, cur, rfl, hg, hh, r⟩
  · exact Or.inl q
  · exact Or.inr ⟨g, cap, cur, rfl, hg, by rw [k.block g (lt_of_block hh) (hS g rfl)]; exact hh, r⟩
theorem WIs.kept {S : Nat → Prop} (h : WIs w base b most bs over v) (k : Keeps S w w') (hb : ¬ S b) (hv : ∀ i, v.ownBlock = some i → ¬ S i) : WIs w' base b most bs over v :=
  ⟨(k.block b h.lt hb).trans h.block, ownsRow_kept h.row k hv⟩
theorem WIs.rowLt (h : WIs w base b most bs over v) : ∀ k, v.ownBlock = some k → base ≤ k ∧ k < w.heap.size := fun k hk => h.row.lt k hk
/-- A writer stays as it is while another one, whose row lies from base' on, is turned. -/
theorem WIs.beside {base' b' : Nat} (h : WIs w base b most bs over v) (k : Keeps (WS base' b') w w') (hb : b ≠ b') (hlt : w.heap.size ≤ base') (hv : v.ownBlock ≠ some b') : WIs w' base b most bs over v :=
  h.kept k (fun s => by rcases s with s | s; exact hb s; have := h.lt; omega) (fun i hi s => by
    rcases s with s | s
    · exact hv (by rw [hi, s])
    · have := (h.rowLt i hi).2; omega)
theorem WIs.alloc (h : WIs w base b most bs over v) (o : Obj) : WIs (w.alloc o) base b most bs over v := h.kept ((Keeps.refl (fun _ => False) w).alloc o) (fun f => f) (fun _ _ f => f)
theorem WIs.drewN (h : WIs w base b most bs over v) (n : Nat) : WIs (w.drewN n) base b most bs over v := h.kept ((Keeps.refl (fun _ => False) w).drewN n) (fun f => f) (fun _ _ f => f)
theorem WIs.none (h : WIs w base b most [] over (.slice none 0 0)) (base' : Nat) : WIs w base' b most [] over (.slice none 0 0) := ⟨h.block, World.ownsRow_nil _ _ _ _⟩
/-- In the world behind an append to the row: the writer's own block. -/
theorem WIs.grown {o : Obj} (h : WIs w base b most bs over v) (hg : (w.alloc o).grownBy w' v.ownBlock) : w'.heap[b]? = some (.cells #[.int .i64 most, v, .bool over] 54 (0, 0)) :=
  (hg.block b (h.alloc o).lt (fun e => h.apart e.symm)).trans (h.alloc o).block
theorem WIs.grown' (h : WIs w base b most bs over v) (hg : w.grownBy w' v.ownBlock) : w'.heap[b]? = some (.cells #[.int .i64 most, v, .bool over] 54 (0, 0)) :=
  (hg.block b h.lt (fun e => h.apart e.symm)).trans h.block
/-- Behind an append to the row, stored into the writer's field. -/
theorem appended {v' : Value} {news : List UInt8} (hb : w'.heap[b]? = some (.cells #[.int .i64 most, v, .bool over] 54 (0, 0))) (hown : w'.ownsRow base 5 1 v' (bs.length + news.length) (cellsOf bs ++ cellsOf news)) :
    WIs (w'.setCell ⟨b, 1, none⟩ v') base b most (bs ++ news) over v' := by
  refine ⟨block_setCell hb 1 _, ?_⟩
  have := ownsRow_setCell_other hown (a := ⟨b, 1, none⟩) (fun e => row_apart hb hown e rfl) v'
  rw [← cellsOf_append] at this
  simpa using this
theorem kept_append {a : World} {o : Obj} {u : Value} (h : WIs w base b most bs over v) (k : WKeeps base b a w) (hg : (w.alloc o).grownBy w' v.ownBlock) : WKeeps base b a (w'.setCell ⟨b, 1, none⟩ u) :=
  Keeps.setCell (Keeps.grown (k.alloc o) hg (k.row h.row)) (Or.inl (Or.inl rfl)) _
theorem kept_append' {a : World} {u : Value} (h : WIs w base b most bs over v) (k : WKeeps base b a w) (hg : w.grownBy w' v.ownBlock) : WKeeps base b a (w'.setCell ⟨b, 1, none⟩ u) :=
  Keeps.setCell (Keeps.grown k hg (k.row h.row)) (Or.inl (Or.inl rfl)) _
end

/-- A varint's bytes. -/
def varint (n : Nat) : List UInt8 := if n < 128 then [UInt8.ofNat n] else UInt8.ofNat (n % 128 + 128) :: varint (n / 128)
termination_by n
theorem varint_small {n : Nat} (h : n < 128) : varint n = [UInt8.ofNat n] := by rw [varint, if_pos h]
theorem varint_big {n : Nat} (h : ¬ n < 128) : varint n = UInt8.ofNat (n % 128 + 128) :: varint (n / 128) := by rw [varint, if_neg h]
theorem bitLen_small : ∀ n : Fin 128, (Lib.bitLen (n.val ||| 1) + 6) / 7 = 1 := by decide +kernel
theorem or1_div (n : Nat) : (n ||| 1) / 128 = n / 128 := by
  apply Nat.eq_of_testBit_eq
  intro i
  have h1 : (128 : Nat) = 2 ^ 7 := by decide
  rw [h1, Nat.testBit_div_two_pow, Nat.testBit_div_two_pow, Nat.testBit_or]
  have : Nat.testBit 1 (i + 7) = false := Nat.testBit_lt_two_pow (Nat.one_lt_two_pow (by omega))
  rw [this, Bool.or_false]
theorem or1_half (n : Nat) : (n ||| 1) / 2 = n / 2 := by
  apply Nat.eq_of_testBit_eq
  intro i
  rw [show (2 : Nat) = 2 ^ 1 by decide, Nat.testBit_div_two_pow, Nat.testBit_div_two_pow, Nat.testBit_or]
  have : Nat.testBit 1 (i + 1) = false := Nat.testBit_lt_two_pow (Nat.one_lt_two_pow (by omega))
  rw [this, Bool.or_false]
theorem or1_ge (n : Nat) : n ≤ n ||| 1 := Nat.left_le_or
theorem or1_lt {n : Nat} (h : n < 18446744073709551616) : n ||| 1 < 18446744073709551616 := Nat.or_lt_two_pow (n := 64) h (by decide)
theorem bitLen_or1 {m : Nat} (h1 : 1 ≤ m) (h : m < 18446744073709551616) : Lib.bitLen (m ||| 1) = Lib.bitLen m := by
  have := or1_ge m
  rw [Lib.bitLen_half (m ||| 1) (by omega) (or1_lt h), Lib.bitLen_half m (by omega) h, or1_half]
theorem varint_len (n : Nat) (h : n < 18446744073709551616) : (varint n).length = (Lib.bitLen (n ||| 1) + 6) / 7 := by
  induction n using Nat.strongRecOn with
  | _ n ih =>
    by_cases hn : n < 128
    · rw [varint_small hn]
      exact (bitLen_small ⟨n, hn⟩).symm
    · rw [varint_big hn, List.length_cons, ih (n / 128) (by omega) (by omega)]
      have h1 := or1_ge n
      have h2 := Lib.bitLen_shift 7 (n ||| 1) (by omega) (or1_lt h)
      rw [show (2 : Nat) ^ 7 = 128 by decide, or1_div] at h2
      rw [h2, bitLen_or1 (by omega) (by omega)]
      omega
theorem varint_le (n : Nat) (h : n < 18446744073709551616) : (varint n).length ≤ 10 := by
  rw [varint_len n h]
  have := Lib.bitLen_le (n ||| 1) 64 (by decide) (or1_lt h)
  omega
theorem varint_pos (n : Nat) : 1 ≤ (varint n).length := by
  by_cases hn : n < 128
  · rw [varint_small hn]; exact Nat.le_refl _
  · rw [varint_big hn]; simp

theorem varintWidth_any (n : Nat) (w : World) (h : n < 18446744073709551616) :
    Calls Tryd.prog 27 #[.int .u64 n] w fun r w' => r = .returned (.int .i64 (varint n).length) ∧ w' = w := by
  have e1 := u64_or_nat n 1 h (by decide)
  have e2 : Hid (((varint n).length : Nat) = (Lib.bitLen (n ||| 1) + 6) / 7) := varint_len n h
  have e3 := Lib.bitLen_le (n ||| 1) 64 (by decide) (or1_lt h)
  have e4 := or1_lt h
  have e5 : bits .or .u64 (n : Int) 1 = ((n ||| 1 : Nat) : Int) := e1
  clear e1
  generalize n ||| 1 = m at *
  go_enter Tryd.func27, Tryd.ntmps27
  go_wp2_with fail
  refine (Tryd.bits_Len64 (m : Int) _ (by omega) (by omega)).mono ?_
  rintro e w' ⟨rfl, rfl⟩
  rw [Int.toNat_natCast]
  go_wp2_with fail
  go_ret
  exact ⟨ret_int (by rw [e2.out]; omega), rfl⟩
end Go.Proofs.YtkebddjndljodaaDoor
