/-
  codec's Reader and Writer in memory, and their inner calls.
-/
import Derived.Test.YtedibkcempcpnaaDoorTWho
import Derived.Test.YtedibkcempcpnaaDoorB64
import Derived.Lib.AppendStr
import Derived.Deep.QuietTactic
import Derived.BigQuiet
namespace Go.Proofs.YtedibkcempcpnaaDoor.T.K
open Go.RowKit
/-- The reader in block b: what is left, and its fault. -/
def RIs (w : World) (b : Nat) (rest : ByteArray) (e : Int) : Prop := w.heap[b]? = some (.cells #[.string rest, .int .i64 e] 79 (0, 0))
theorem RIs.lt {w : World} {b : Nat} {rest : ByteArray} {e : Int} (h : RIs w b rest e) : b < w.heap.size := lt_of_block h
theorem RIs.c0 {w : World} {b : Nat} {rest : ByteArray} {e : Int} (h : RIs w b rest e) : w.cell? ⟨b, 0, none⟩ = some (.string rest) := cell_of_block h rfl
theorem RIs.c1 {w : World} {b : Nat} {rest : ByteArray} {e : Int} (h : RIs w b rest e) : w.cell? ⟨b, 1, none⟩ = some (.int .i64 e) := cell_of_block h rfl
theorem RIs.f0 {w : World} {b : Nat} {rest : ByteArray} {e : Int} (h : RIs w b rest e) : w.frozen? ⟨b, 0, none⟩ = false := free_of_block h 0
theorem RIs.f1 {w : World} {b : Nat} {rest : ByteArray} {e : Int} (h : RIs w b rest e) : w.frozen? ⟨b, 1, none⟩ = false := free_of_block h 1
theorem RIs.set0 {w : World} {b : Nat} {rest : ByteArray} {e : Int} (h : RIs w b rest e) (s : ByteArray) : RIs (w.setCell ⟨b, 0, none⟩ (.string s)) b s e := block_setCell h 0 _
theorem RIs.set1 {w : World} {b : Nat} {rest : ByteArray} {e : Int} (h : RIs w b rest e) (n : Int) : RIs (w.setCell ⟨b, 1, none⟩ (.int .i64 n)) b rest n := block_setCell h 1 _
theorem RIs.kept {w w' : World} {b : Nat} {rest : ByteArray} {e : Int} {S : Nat → Prop} (h : RIs w b rest e) (k : Keeps S w w') (hS : ¬ S b) : RIs w' b rest e := (k.block b h.lt hS).trans h
theorem RIs.drewN {w : World} {b : Nat} {rest : ByteArray} {e : Int} (h : RIs w b rest e) (n : Nat) : RIs (w.drewN n) b rest e := h.kept ((Keeps.refl (fun _ => False) w).drewN n) (fun f => f)
theorem RIs.alloc {w : World} {b : Nat} {rest : ByteArray} {e : Int} (h : RIs w b rest e) (o : Obj) : RIs (w.alloc o) b rest e := h.kept ((Keeps.refl (fun _ => False) w).alloc o) (fun f => f)
theorem newReader_any (s : ByteArray) (w : World) :
    Calls Tryd.prog 39 #[.string s] w fun e w' => e = .returned (.pointer (some ⟨w.heap.size, 0, none⟩)) ∧ RIs w' w.heap.size s 0 ∧ Keeps (fun _ => False) w w' := by
  go_enter Tryd.func39, Tryd.ntmps39
  go_wp2
  go_ret
  exact ⟨rfl, block_alloc_at _ _, (Keeps.refl _ _).alloc _⟩
theorem stuck_any (b : Nat) (s : ByteArray) (n : Int) (w : World) (h : RIs w b s n) :
    Calls Tryd.prog 79 #[.pointer (some ⟨b, 0, none⟩)] w fun e w' => e = .returned (.bool (n != 0)) ∧ w' = w := by
  have h0 := h.c0; have h1 := h.c1
  go_enter Tryd.func79, Tryd.ntmps79
  go_wp2
  go_ret
  exact ⟨rfl, rfl⟩
theorem fail_any (b : Nat) (s : ByteArray) (n m : Int) (w : World) (h : RIs w b s n) :
    Calls Tryd.prog 80 #[.pointer (some ⟨b, 0, none⟩), .int .i64 m] w fun e w' => e = .returned (.tuple #[]) ∧ RIs w' b ByteArray.empty m ∧ Keeps (fun k => k = b) w w' := by
  have h0 := h.c0; have h1 := h.c1; have f0 := h.f0; have f1 := h.f1
  go_enter Tryd.func80, Tryd.ntmps80
  go_wp2
  go_end0
  exact ⟨rfl, (h.set1 m).set0 _, ((Keeps.refl (fun k => k = b) _).setCell (Or.inl rfl) _).setCell (Or.inl rfl) _⟩
/-- What 'take n' gives of a reader: the bytes, what is left, the fault. -/
def rTake (rest : ByteArray) (e : Int) (n : Nat) : ByteArray × ByteArray × Int :=
  if e = 0 then (if rest.size < n then (ByteArray.empty, ByteArray.empty, 20) else (rest.extract 0 n, rest.extract n rest.size, 0)) else (ByteArray.empty, rest, e)
theorem rTake_stuck {rest : ByteArray} {e : Int} (n : Nat) (h : ¬ e = 0) : rTake rest e n = (ByteArray.empty, rest, e) := by simp [rTake, h]
theorem rTake_short {rest : ByteArray} {n : Nat} (h : rest.size < n) : rTake rest 0 n = (ByteArray.empty, ByteArray.empty, 20) := by simp [rTake, h]
theorem rTake_ok {rest : ByteArray} {n : Nat} (h : n ≤ rest.size) : rTake rest 0 n = (rest.extract 0 n, rest.extract n rest.size, 0) := by simp [rTake, Nat.not_lt.2 h]
/-- The number that bytes are, the highest first. -/
def beNat (l : List UInt8) : Nat := l.foldl (fun n c => n * 256 + c.toNat) 0
theorem beNat_snoc (l : List UInt8) (c : UInt8) : beNat (l ++ [c]) = beNat l * 256 + c.toNat := by simp [beNat]
theorem beNat_lt (l : List UInt8) : beNat l < 256 ^ l.length := by
  suffices h : ∀ (r : List UInt8) (n m : Nat), n < 256 ^ m → r.foldl (fun n c => n * 256 + c.toNat) n < 256 ^ (m + r.length) by
    have := h l 0 0 (by decide)
    simpa [beNat] using this
  intro r
  induction r with
  | nil => intro n m h; simpa using h
  | cons c r ih =>
    intro n m h
    have hc := c.toNat_lt
    have := ih (n * 256 + c.toNat) (m + 1) (by rw [Nat.pow_succ]; omega)
    simpa [Nat.add_assoc, Nat.add_comm 1] using this
theorem width64 (w : World) : Calls Tryd.prog 66 #[] w fun e w' => e = .returned (.int .i64 8) ∧ w' = w := by
  have e0 : bits BinOp.xor IntKind.u64 IntKind.u64.max 0 = 18446744073709551615 := by decide +kernel
  go_enter Tryd.func66, Tryd.ntmps66
  go_wp2_with fail
  refine (Tryd.bits_Len64 18446744073709551615 _ (by decide) (by decide)).mono ?_
  rintro e w' ⟨rfl, rfl⟩
  rw [show ((Lib.bitLen (Int.toNat 18446744073709551615) : Nat) : Int) = 64 from by decide +kernel]
  go_wp2
  go_ret
  exact ⟨rfl, rfl⟩
theorem take_any (b n : Nat) (s : ByteArray) (e : Int) (w : World) (h : RIs w b s e) (hs : s.size ≤ maxLen) (_hlt : n < 18446744073709551616) :
    Calls Tryd.prog 69 #[.pointer (some ⟨b, 0, none⟩), .int .u64 n] w fun r w' => r = .returned (.string (rTake s e n).1) ∧ RIs w' b (rTake s e n).2.1 (rTake s e n).2.2 ∧ Keeps (fun k => k = b) w w' := by
  unfold maxLen at hs
  have h0 := h.c0; have h1 := h.c1; have f0 := h.f0; have f1 := h.f1
  by_cases he : e = 0
  · subst he
    by_cases hn : n ≤ s.size
    · rw [rTake_ok hn]
      go_enter Tryd.func69, Tryd.ntmps69
      go_wp2_with fail
      refine (stuck_any b s 0 _ h).mono ?_
      rintro e' w' ⟨rfl, rfl⟩
      go_wp2_with fail
      go_ret
      exact ⟨rfl, h.set0 _, (Keeps.refl (fun k => k = b) _).setCell (Or.inl rfl) _⟩
    · have hn' : s.size < n := by omega
      rw [rTake_short hn']
      clear hn
      go_enter Tryd.func69, Tryd.ntmps69
      go_wp2_with fail
      refine (stuck_any b s 0 _ h).mono ?_
      rintro e' w' ⟨rfl, rfl⟩
      go_wp2_with fail
      refine (fail_any b s 0 20 _ h).mono ?_
      rintro e' w1 ⟨rfl, h', hk⟩
      go_wp2_with fail
      go_ret
      exact ⟨rfl, h', hk⟩
  · rw [rTake_stuck n he]
    have hb : (e != 0) = true := by simpa using he
    have HE : Hid (¬ e = 0) := he
    clear he
    go_enter Tryd.func69, Tryd.ntmps69
    go_wp2_with fail
    refine (stuck_any b s e _ h).mono ?_
    rintro e' w' ⟨rfl, rfl⟩
    go_wp2_with fail
    go_ret
    exact ⟨rfl, h, Keeps.refl _ _⟩
theorem rTake_size (s : ByteArray) (e : Int) (n : Nat) : (rTake s e n).1.size ≤ n := by
  unfold rTake
  split
  · split
    · exact Nat.zero_le _
    · simp; omega
  · exact Nat.zero_le _
theorem or_byte {x : Nat} (h : x < 72057594037927936) (c : UInt8) : bits .or .u64 ((x : Int) * 256) (IntKind.u64.wrap (c.toNat : Int)) = ((x * 256 + c.toNat : Nat) : Int) := by
  have hc := c.toNat_lt
  have hw : IntKind.u64.wrap (c.toNat : Int) = c.toNat := by simp [IntKind.wrap, IntKind.bits, IntKind.signed]; omega
  rw [hw]
  have e1 := u64_or_nat (x * 256) c.toNat (by omega) (by omega)
  have e2 : x * 256 ||| c.toNat = x * 256 + c.toNat := by
    have := Nat.two_pow_add_eq_or_of_lt (i := 8) (b := c.toNat) (by omega) x
    rw [Nat.mul_comm x 256]
    exact this.symm
  rw [e2] at e1
  rw [← e1]
  simp
set_option maxHeartbeats 400000 in
theorem get64 (b : Nat) (s : ByteArray) (e : Int) (w : World) (h : RIs w b s e) (hs : s.size ≤ maxLen) :
    Calls Tryd.prog 56 #[.pointer (some ⟨b, 0, none⟩)] w fun r w' => r = .returned (.int .u64 (beNat (rTake s e 8).1.data.toList)) ∧ RIs w' b (rTake s e 8).2.1 (rTake s e 8).2.2 ∧ Keeps (fun k => k = b) w w' := by
  have ht := rTake_size s e 8
  have HT : Hid _ := fun w h => take_any b 8 s e w h hs (by decide)
  obtain ⟨t, s', e1, hq⟩ : ∃ t s' e1, rTake s e 8 = (t, s', e1) := ⟨_, _, _, rfl⟩
  rw [hq] at HT ht ⊢
  clear hq
  go_enter Tryd.func56, Tryd.ntmps56
  go_wp2_with (go_at_call 66; refine (width64 _).mono ?_; rintro e w' ⟨rfl, rfl⟩)
  refine (HT.out _ h).mono ?_
  rintro e' w' ⟨rfl, h', hk⟩
  replace ht : t.size ≤ 8 := ht
  go_wp2_with fail
  go_loop [4, 12] (fun n i => ∃ k x : Nat, k ≤ t.size ∧ i = .int .i64 k ∧ x < 256 ^ k ∧ Hid (x = beNat (t.data.toList.take k)) ∧ n = .int .u64 x) (fun _ i => t.size - (intOf i).toNat)
  case atStart => exact ⟨0, 0, by omega, rfl, by decide, rfl, rfl⟩
  case round =>
    obtain ⟨k, x, hk', rfl, hx, HX, rfl⟩ := hrel
    by_cases hlt : k < t.size
    · have hx7 : x < 72057594037927936 := by
        have := Nat.pow_le_pow_right (n := 256) (by decide) (show k ≤ 7 by omega)
        omega
      have HT : Hid (t.data.toList.take (k + 1) = t.data.toList.take k ++ [t[k]]) := take_snoc t k hlt
      have hor := or_byte hx7 t[k]
      have HB : Hid (x * 256 + t[k].toNat < 256 ^ (k + 1)) := by
        have := t[k].toNat_lt
        rw [Hid, Nat.pow_succ]; omega
      clear hx
      go_wp2
      go_round
      case rel => exact ⟨k + 1, x * 256 + t[k].toNat, by omega, by go_num, HB.out, by rw [HT.out, beNat_snoc, ← HX.out]; rfl, by first | rfl | (rw [hor])⟩
      case measure => simp [intOf]; omega
    · have HF : Hid (x = beNat t.data.toList) := by
        have h2 := HX.out
        rw [List.take_of_length_le (by simp; omega)] at h2
        exact h2
      have hxb : x < 18446744073709551616 := by
        have := Nat.pow_le_pow_right (n := 256) (by decide) (show k ≤ 8 by omega)
        omega
      clear hx HX
      go_wp2
      go_ret
      exact ⟨ret_int (by rw [← HF.out]), h', hk⟩
theorem u64_any (b : Nat) (s : ByteArray) (e : Int) (w : World) (h : RIs w b s e) (hs : s.size ≤ maxLen) :
    Calls Tryd.prog 40 #[.pointer (some ⟨b, 0, none⟩)] w fun r w' => r = .returned (.int .u64 (beNat (rTake s e 8).1.data.toList)) ∧ RIs w' b (rTake s e 8).2.1 (rTake s e 8).2.2 ∧ Keeps (fun k => k = b) w w' := by
  go_enter Tryd.func40, Tryd.ntmps40
  go_wp2_with fail
  refine (get64 b s e _ h hs).mono ?_
  rintro e' w' ⟨rfl, h', hk⟩
  go_wp2_with fail
  go_ret
  exact ⟨rfl, h', hk⟩
/-- Bytes as cells. -/
def cellsOf (l : List UInt8) : List Value := l.map fun c => Value.int .u8 c.toNat
theorem cellsOf_length (l : List UInt8) : (cellsOf l).length = l.length := by simp [cellsOf]
theorem cellsOf_append (a b : List UInt8) : cellsOf (a ++ b) = cellsOf a ++ cellsOf b := by simp [cellsOf]
theorem cellsOf_one (l : List UInt8) : ∀ u ∈ cellsOf l, u.oneCell' = true := by
  intro u hu
  simp only [cellsOf, List.mem_map] at hu
  obtain ⟨c, _, rfl⟩ := hu
  rfl
/-- The writer in block b: how many bytes it may have, its bytes (in the row of v, which lies among the blocks from base on), whether it is over. -/
structure WIs (w : World) (base b : Nat) (most : Int) (bs : List UInt8) (over : Bool) (v : Value) : Prop where
  block : w.heap[b]? = some (.cells #[.int .i64 most, v, .bool over] 74 (0, 0))
  row : w.ownsRow base 5 1 v bs.length (cellsOf bs)
/-- The blocks that a writer's calls may turn. -/
def WS (base b : Nat) : Nat → Prop := fun k => k = b ∨ base ≤ k
/-- What a writer's call keeps: all but its own block and rows of bytes from base on. -/
def WR (base b : Nat) (w : World) : Nat → Prop := fun k => k = b ∨ (base ≤ k ∧ ∃ cur, w.heap[k]? = some (.cells cur 5 (0, 0)))
def WKeeps (base b : Nat) (w w' : World) : Prop := Keeps (WR base b w) w w'
theorem WKeeps.refl (base b : Nat) (w : World) : WKeeps base b w w := Keeps.refl _ _
theorem WKeeps.trans {base b : Nat} {u w w' : World} (h : WKeeps base b u w) (k : WKeeps base b w w') : WKeeps base b u w' := by
  refine ⟨k.os.trans h.os, k.tape.trans h.tape, k.output.trans h.output, Nat.le_trans h.size k.size, fun i hi hS => ?_⟩
  have e := h.block i hi hS
  refine (k.block i (Nat.lt_of_lt_of_le hi h.size) (fun s => hS ?_)).trans e
  rcases s with s | ⟨s1, cur, s2⟩
  · exact Or.inl s
  · exact Or.inr ⟨s1, cur, e.symm.trans s2⟩
theorem WKeeps.alloc {base b : Nat} {u w : World} (h : WKeeps base b u w) (o : Obj) : WKeeps base b u (w.alloc o) := Keeps.alloc h o
theorem WKeeps.drewN {base b : Nat} {u w : World} (h : WKeeps base b u w) (q : Nat) : WKeeps base b u (w.drewN q) := Keeps.drewN h q
theorem WKeeps.below {base b : Nat} {w w' : World} {B : Nat} (h : WKeeps base b w w') (hB : B ≤ w.heap.size) (hS : ∀ k, WS base b k → B ≤ k) : Below B w w' :=
  Keeps.below h hB (fun k s => hS k (by rcases s with s | s; exact Or.inl s; exact Or.inr s.1))
theorem WKeeps.row {base b : Nat} {u w : World} {v : Value} {n : Nat} {xs : List Value} (h : WKeeps base b u w) (r : w.ownsRow base 5 1 v n xs) : ∀ i, v.ownBlock = some i → WR base b u i ∨ u.heap.size ≤ i := by
  intro i hi
  by_cases hlt : u.heap.size ≤ i
  · exact Or.inr hlt
  · refine Or.inl (Classical.byContradiction fun hn => hn ?_)
    rcases r.2 with ⟨rfl, _⟩ | ⟨g, cap, cur, rfl, hg, hh, _⟩
    · cases hi
    · cases hi
      exact Or.inr ⟨hg, cur, (h.block g (Nat.lt_of_not_le hlt) hn).symm.trans hh⟩
section
variable {w w' : World} {base b : Nat} {most : Int} {bs : List UInt8} {over : Bool} {v : Value}
theorem WIs.lt (h : WIs w base b most bs over v) : b < w.heap.size := lt_of_block h.block
theorem WIs.c0 (h : WIs w base b most bs over v) : w.cell? ⟨b, 0, none⟩ = some (.int .i64 most) := cell_of_block h.block rfl
theorem WIs.c1 (h : WIs w base b most bs over v) : w.cell? ⟨b, 1, none⟩ = some v := cell_of_block h.block rfl
theorem WIs.c2 (h : WIs w base b most bs over v) : w.cell? ⟨b, 2, none⟩ = some (.bool over) := cell_of_block h.block rfl
theorem WIs.f1 (h : WIs w base b most bs over v) : w.frozen? ⟨b, 1, none⟩ = false := free_of_block h.block 1
theorem WIs.f2 (h : WIs w base b most bs over v) : w.frozen? ⟨b, 2, none⟩ = false := free_of_block h.block 2
theorem row_apart {g : Nat} (hb : w.heap[b]? = some (.cells #[.int .i64 most, v, .bool over] 74 (0, 0))) {v' : Value} {n : Nat} {xs : List Value} (h : w.ownsRow base 5 1 v' n xs) (hg : v'.ownBlock = some g) : g ≠ b := by
  intro e
  rcases h.2 with ⟨rfl, _⟩ | ⟨g', cap, cur, rfl, _, hg', _⟩
  · simp [Value.ownBlock] at hg
  · simp [Value.ownBlock] at hg
    subst hg
    subst e
    rw [hb] at hg'
    simp at hg'
theorem WIs.apart (h : WIs w base b most bs over v) : v.ownBlock ≠ some b := fun e => row_apart h.block h.row e rfl
/-- The writer's row as a value that shows what it is. -/
theorem form_of_row {n : Nat} {xs : List Value} (h : w.ownsRow base 5 1 v n xs) : ∃ a cap, v = .slice a n cap := by
  rcases h.2 with ⟨rfl, hn⟩ | ⟨g, cap, cur, rfl, _⟩
  · exact ⟨none, 0, by rw [hn]⟩
  · exact ⟨_, _, rfl⟩
theorem WIs.form (h : WIs w base b most bs over v) : ∃ a cap, v = .slice a bs.length cap := form_of_row h.row
theorem WIs.lenLe (h : WIs w base b most bs over v) : bs.length ≤ maxLen := by
  rcases h.row.2 with ⟨_, hn⟩ | ⟨g, cap, cur, rfl, _, _, h1, h2, _⟩
  · rw [hn]; exact Nat.zero_le _
  · exact Nat.le_trans h1 h2
theorem ownsRow_kept {e : TypeId} {n : Nat} {xs : List Value} {S : Nat → Prop} (h : w.ownsRow base e 1 v n xs) (k : Keeps S w w') (hS : ∀ i, v.ownBlock = some i → ¬ S i) : w'.ownsRow base e 1 v n xs := by
  refine ⟨h.1, ?_⟩
  rcases h.2 with q | ⟨g, cap, cur, rfl, hg, hh, r⟩
  · exact Or.inl q
  · exact Or.inr ⟨g, cap, cur, rfl, hg, by rw [k.block g (lt_of_block hh) (hS g rfl)]; exact hh, r⟩
theorem WIs.kept {S : Nat → Prop} (h : WIs w base b most bs over v) (k : Keeps S w w') (hb : ¬ S b) (hv : ∀ i, v.ownBlock = some i → ¬ S i) : WIs w' base b most bs over v :=
  ⟨(k.block b h.lt hb).trans h.block, ownsRow_kept h.row k hv⟩
theorem WIs.rowLt (h : WIs w base b most bs over v) : ∀ k, v.ownBlock = some k → base ≤ k ∧ k < w.heap.size := fun k hk => h.row.lt k hk
/-- A writer stays as it is while another one, whose row lies from base' on, is turned. -/
theorem WIs.beside {base' b' : Nat} (h : WIs w base b most bs over v) (k : Keeps (WS base' b') w w') (hb : b ≠ b') (hlt : w.heap.size ≤ base') (hv : v.ownBlock ≠ some b') : WIs w' base b most bs over v :=
  h.kept k (fun s => by rcases s with s | s; exact hb s; have := h.lt; omega) (fun i hi s => by
    rcases s with s | s
    · exact hv (by rw [hi, s])
    · have := (h.rowLt i hi).2; omega)
theorem WIs.alloc (h : WIs w base b most bs over v) (o : Obj) : WIs (w.alloc o) base b most bs over v := h.kept ((Keeps.refl (fun _ => False) w).alloc o) (fun f => f) (fun _ _ f => f)
theorem WIs.drewN (h : WIs w base b most bs over v) (n : Nat) : WIs (w.drewN n) base b most bs over v := h.kept ((Keeps.refl (fun _ => False) w).drewN n) (fun f => f) (fun _ _ f => f)
theorem WIs.none (h : WIs w base b most [] over (.slice none 0 0)) (base' : Nat) : WIs w base' b most [] over (.slice none 0 0) := ⟨h.block, World.ownsRow_nil _ _ _ _⟩
/-- In the world behind an append to the row: the writer's own block. -/
theorem WIs.grown {o : Obj} (h : WIs w base b most bs over v) (hg : (w.alloc o).grownBy w' v.ownBlock) : w'.heap[b]? = some (.cells #[.int .i64 most, v, .bool over] 74 (0, 0)) :=
  (hg.block b (h.alloc o).lt (fun e => h.apart e.symm)).trans (h.alloc o).block
theorem WIs.grown' (h : WIs w base b most bs over v) (hg : w.grownBy w' v.ownBlock) : w'.heap[b]? = some (.cells #[.int .i64 most, v, .bool over] 74 (0, 0)) :=
  (hg.block b h.lt (fun e => h.apart e.symm)).trans h.block
/-- Behind an append to the row, stored into the writer's field. -/
theorem appended {v' : Value} {news : List UInt8} (hb : w'.heap[b]? = some (.cells #[.int .i64 most, v, .bool over] 74 (0, 0))) (hown : w'.ownsRow base 5 1 v' (bs.length + news.length) (cellsOf bs ++ cellsOf news)) :
    WIs (w'.setCell ⟨b, 1, none⟩ v') base b most (bs ++ news) over v' := by
  refine ⟨block_setCell hb 1 _, ?_⟩
  have := ownsRow_setCell_other hown (a := ⟨b, 1, none⟩) (fun e => row_apart hb hown e rfl) v'
  rw [← cellsOf_append] at this
  simpa using this
theorem kept_append {a : World} {o : Obj} {u : Value} (h : WIs w base b most bs over v) (k : WKeeps base b a w) (hg : (w.alloc o).grownBy w' v.ownBlock) : WKeeps base b a (w'.setCell ⟨b, 1, none⟩ u) :=
  Keeps.setCell (Keeps.grown (k.alloc o) hg (k.row h.row)) (Or.inl (Or.inl rfl)) _
theorem kept_append' {a : World} {u : Value} (h : WIs w base b most bs over v) (k : WKeeps base b a w) (hg : w.grownBy w' v.ownBlock) : WKeeps base b a (w'.setCell ⟨b, 1, none⟩ u) :=
  Keeps.setCell (Keeps.grown k hg (k.row h.row)) (Or.inl (Or.inl rfl)) _
end
theorem newWriter_any (n : Int) (w : World) :
    Calls Tryd.prog 34 #[.int .i64 n] w fun e w' => e = .returned (.pointer (some ⟨w.heap.size, 0, none⟩)) ∧ WIs w' 0 w.heap.size (max n 0) [] false (.slice none 0 0) ∧ Keeps (fun _ => False) w w' := by
  go_enter Tryd.func34, Tryd.ntmps34
  go_wp2
  go_ret
  exact ⟨rfl, ⟨block_alloc_at _ _, World.ownsRow_nil _ _ _ _⟩, (Keeps.refl _ _).alloc _⟩
section
variable {base b : Nat} {most : Int} {bs : List UInt8} {v : Value} {w : World}
theorem room_yes (n : Int) (h : WIs w base b most bs false v) (hm : 0 ≤ most) (hm' : most ≤ 9223372036854775807) (hr : n ≤ most - bs.length) :
    Calls Tryd.prog 67 #[.pointer (some ⟨b, 0, none⟩), .int .i64 n] w fun r w' => r = .returned (.bool true) ∧ ∃ q, w' = w.drewN q := by
  have hl := h.lenLe
  unfold maxLen at hl
  obtain ⟨a, cap, hv⟩ := h.form
  have h0 := h.c0; have h1 := h.c1; have h2 := h.c2
  rw [hv] at h1
  clear hv
  go_enter Tryd.func67, Tryd.ntmps67
  go_wp2
  go_quiet (fail)
  go_wp2
  go_ret
  exact ⟨rfl, _, rfl⟩
end
theorem one_cell (W : World) (u : Value) (t : TypeId) : ∀ j x, [u][j]? = some x → (W.alloc (.cells #[u] t)).cell? ((⟨W.heap.size, 0, none⟩ : Addr).add j) = some x := by
  intro j x hj
  match j, hj with
  | 0, hj => simp at hj; subst hj; simp [Addr.add]
section
variable {base b : Nat} {most : Int} {bs : List UInt8} {v : Value} {w : World}
/-- The bytes of a row as a string. -/
theorem conv_row {W : World} {a : Option Addr} {cap : Nat} (h : W.ownsRow base 5 1 (.slice a bs.length cap) bs.length (cellsOf bs)) :
    (convert 37 9 (.slice a bs.length cap)).run Tryd.prog W = .ok (.string ⟨bs.toArray⟩) W := by
  rcases h.2 with ⟨hv, hn⟩ | ⟨g, cap', cur, hv, _⟩
  · have hb : bs = [] := List.eq_nil_of_length_eq_zero hn
    subst hb
    simp only [Value.slice.injEq] at hv
    obtain ⟨rfl, _, rfl⟩ := hv
    exact run_convert_bytes_nil W 37 5 Tryd.underlying37 Tryd.underlying5 0 0 9 Tryd.underlying9
  · simp only [Value.slice.injEq] at hv
    obtain ⟨rfl, _, rfl⟩ := hv
    refine run_convert_bytes_back W 37 9 5 _ _ bs Tryd.underlying37 Tryd.underlying5 Tryd.underlying9 (fun j hj => ?_)
    exact h.cells rfl j _ (by simp [cellsOf, hj])
theorem wdone_ok (h : WIs w base b most bs false v) : Calls Tryd.prog 36 #[.pointer (some ⟨b, 0, none⟩)] w fun r w' => r = .returned (.tuple #[.string ⟨bs.toArray⟩, .int .i64 0]) ∧ w' = w := by
  obtain ⟨a, cap, rfl⟩ := h.form
  have h0 := h.c0; have h1 := h.c1; have h2 := h.c2
  have hc := conv_row h.row
  go_enter Tryd.func36, Tryd.ntmps36
  go_wp2
  go_ret2
  exact ⟨rfl, rfl⟩
end
end Go.Proofs.YtedibkcempcpnaaDoor.T.K
