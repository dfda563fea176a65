/-
  The contracts of eight and padding.
-/
import Derived.Test.YtedibkcempcpnaaDoorWrite
import Derived.Laws.BytesString
import Derived.Laws.MakeOwn
import Derived.Deep.OwnRows
namespace Go.Proofs.YtedibkcempcpnaaDoor
open Go.RowKit
/-- The i-th of a number's eight bytes, the highest first. -/
def e8 (x i : Nat) : Nat := x / 2 ^ (56 - 8 * i) % 256
def be8 (x : Nat) : List UInt8 := (List.range 8).map fun i => UInt8.ofNat (e8 x i)
theorem e8_0 (x : Nat) : (x : Int) / 72057594037927936 % 256 = ((e8 x 0 : Nat) : Int) := by unfold e8; rw [show 2 ^ (56 - 8 * 0) = 72057594037927936 from by decide]; omega
theorem e8_1 (x : Nat) : (x : Int) / 281474976710656 % 256 = ((e8 x 1 : Nat) : Int) := by unfold e8; rw [show 2 ^ (56 - 8 * 1) = 281474976710656 from by decide]; omega
theorem e8_2 (x : Nat) : (x : Int) / 1099511627776 % 256 = ((e8 x 2 : Nat) : Int) := by unfold e8; rw [show 2 ^ (56 - 8 * 2) = 1099511627776 from by decide]; omega
theorem e8_3 (x : Nat) : (x : Int) / 4294967296 % 256 = ((e8 x 3 : Nat) : Int) := by unfold e8; rw [show 2 ^ (56 - 8 * 3) = 4294967296 from by decide]; omega
theorem e8_4 (x : Nat) : (x : Int) / 16777216 % 256 = ((e8 x 4 : Nat) : Int) := by unfold e8; rw [show 2 ^ (56 - 8 * 4) = 16777216 from by decide]; omega
theorem e8_5 (x : Nat) : (x : Int) / 65536 % 256 = ((e8 x 5 : Nat) : Int) := by unfold e8; rw [show 2 ^ (56 - 8 * 5) = 65536 from by decide]; omega
theorem e8_6 (x : Nat) : (x : Int) / 256 % 256 = ((e8 x 6 : Nat) : Int) := by unfold e8; rw [show 2 ^ (56 - 8 * 6) = 256 from by decide]; omega
theorem e8_7 (x : Nat) : (x : Int) % 256 = ((e8 x 7 : Nat) : Int) := by unfold e8; rw [show 2 ^ (56 - 8 * 7) = 1 from by decide]; omega
theorem blk_b_set {w : World} {g n : Nat} {t : TypeId} {f : Nat → Nat} (h : w.heap[g]? = some (.cells (bcells f n).toArray t (0, 0))) (i x : Nat) : (w.setCell ⟨g, i, none⟩ (.int .u8 (x : Int))).heap[g]? = some (.cells (bcells (upd f i x) n).toArray t (0, 0)) := by
  rw [block_setCell h, List.setIfInBounds_toArray, bcells_set]
theorem blk_b_cell {w : World} {g n : Nat} {t : TypeId} {f : Nat → Nat} (h : w.heap[g]? = some (.cells (bcells f n).toArray t (0, 0))) {i : Nat} (hi : i < n) : w.cell? ⟨g, i, none⟩ = some (.int .u8 (f i : Int)) :=
  cell_of_block h (by rw [List.getElem?_toArray]; exact bcells_get hi)
def upTo (f : Nat → Nat) (k : Nat) : Nat → Nat := fun i => if i < k then f i else 0
theorem upTo_succ (f : Nat → Nat) (k : Nat) : upd (upTo f k) k (f k) = upTo f (k + 1) := by
  funext i
  unfold upd upTo
  by_cases h : i = k
  · subst h; simp
  · by_cases h2 : i < k
    · rw [if_neg h, if_pos h2, if_pos (by omega)]
    · rw [if_neg h, if_neg h2, if_neg (by omega)]
theorem conv_block {w : World} {g n : Nat} {t : TypeId} {f : Nat → Nat} (h : w.heap[g]? = some (.cells (bcells f n).toArray t (0, 0))) (hf : ∀ i, f i < 256) (cap : Nat) :
    (convert 37 9 (.slice (some ⟨g, 0, none⟩) n cap)).run Tryd.prog w = .ok (.string ⟨((List.range n).map fun i => UInt8.ofNat (f i)).toArray⟩) w := by
  have := run_convert_bytes_back w 37 9 5 ⟨g, 0, none⟩ cap ((List.range n).map fun i => UInt8.ofNat (f i)) Tryd.underlying37 Tryd.underlying5 Tryd.underlying9 (fun j hj => by
    simp only [List.length_map, List.length_range] at hj
    rw [add_off, Nat.zero_add, blk_b_cell h hj]
    simp [Nat.mod_eq_of_lt (hf j)])
  simpa using this
theorem slice59 (w : World) (b : Nat) : Sem.run Tryd.prog (Instr.sliceAt 100 (.pointer (some ⟨b, 0, none⟩)) none none none) w = .ok (.slice (some ⟨b, 0, none⟩) 8 8) w := by
  simp [Instr.sliceAt, Instr.sureAddr, run_underlying Tryd.underlying100, Instr.sliceBounds, go_sem]
theorem be8_upTo (x : Nat) : ((List.range 8).map fun i => UInt8.ofNat (upTo (e8 x) 8 i)) = be8 x := by
  unfold be8
  apply List.map_congr_left
  intro i hi
  have := List.mem_range.1 hi
  rw [upTo, if_pos this]
set_option maxRecDepth 20000 in
set_option maxHeartbeats 2000000 in
theorem eight_any (x : Nat) (w : World) : Calls Tryd.prog 71 #[.int .u64 x] w fun e w' => e = .returned (.string ⟨(be8 x).toArray⟩) ∧ Below w.heap.size w w' := by
  go_enter Tryd.func71, Tryd.ntmps71
  go_wp2_with (refine wpList_alloc_row rfl 100 rfl _ _ zero59 ?_)
  go_loopw [5] (fun i wr => ∃ k : Nat, k ≤ 8 ∧ i = .int .i64 k ∧ wr.heap[w.heap.size]? = some (.cells (bcells (upTo (e8 x) k) 8).toArray 100 (0, 0)) ∧ Below w.heap.size w wr) (fun i _ => 8 - (intOf i).toNat)
  case atStart => exact ⟨0, by omega, rfl, block_alloc_at _ _, (Below.refl _ _).alloc (Nat.le_refl _) _⟩
  case round =>
    obtain ⟨k, hk, rfl, h3, hbel⟩ := hrel
    by_cases hlt : k < 8
    · have c3 := blk_b_cell h3 hlt
      have f3 := free_of_block h3 k
      have hn := upTo_succ (e8 x) k
      have HN : Hid _ := hn
      clear hn
      have hc : k = 0 ∨ k = 1 ∨ k = 2 ∨ k = 3 ∨ k = 4 ∨ k = 5 ∨ k = 6 ∨ k = 7 := by omega
      rcases hc with rfl | rfl | rfl | rfl | rfl | rfl | rfl | rfl
      · go_wp2_with fail
        rw [e8_0]
        exact ⟨⟨1, by omega, rfl, by rw [← HN.out]; exact blk_b_set h3 0 _, hbel.setCell (Nat.le_refl _) _⟩, by simp [intOf]⟩
      · go_wp2_with fail
        rw [e8_1]
        exact ⟨⟨2, by omega, rfl, by rw [← HN.out]; exact blk_b_set h3 1 _, hbel.setCell (Nat.le_refl _) _⟩, by simp [intOf]⟩
      · go_wp2_with fail
        rw [e8_2]
        exact ⟨⟨3, by omega, rfl, by rw [← HN.out]; exact blk_b_set h3 2 _, hbel.setCell (Nat.le_refl _) _⟩, by simp [intOf]⟩
      · go_wp2_with fail
        rw [e8_3]
        exact ⟨⟨4, by omega, rfl, by rw [← HN.out]; exact blk_b_set h3 3 _, hbel.setCell (Nat.le_refl _) _⟩, by simp [intOf]⟩
      · go_wp2_with fail
        rw [e8_4]
        exact ⟨⟨5, by omega, rfl, by rw [← HN.out]; exact blk_b_set h3 4 _, hbel.setCell (Nat.le_refl _) _⟩, by simp [intOf]⟩
      · go_wp2_with fail
        rw [e8_5]
        exact ⟨⟨6, by omega, rfl, by rw [← HN.out]; exact blk_b_set h3 5 _, hbel.setCell (Nat.le_refl _) _⟩, by simp [intOf]⟩
      · go_wp2_with fail
        rw [e8_6]
        exact ⟨⟨7, by omega, rfl, by rw [← HN.out]; exact blk_b_set h3 6 _, hbel.setCell (Nat.le_refl _) _⟩, by simp [intOf]⟩
      · go_wp2_with fail
        rw [e8_7]
        exact ⟨⟨8, by omega, rfl, by rw [← HN.out]; exact blk_b_set h3 7 _, hbel.setCell (Nat.le_refl _) _⟩, by simp [intOf]⟩
    · obtain rfl : k = 8 := by omega
      have hconv := conv_block h3 (fun i => by unfold upTo e8; split; exact Nat.mod_lt _ (by decide); decide) 8
      have hsl := slice59 wr w.heap.size
      go_wp2_with fail
      go_ret
      refine ⟨?_, hbel⟩
      exact congrArg (fun l : List UInt8 => Ending.returned (.string ⟨l.toArray⟩)) (be8_upTo x)
theorem zeros_conv (w : World) (g n : Nat) (cap : Nat) (t : TypeId) (h : w.heap[g]? = some (.cells (bcells (fun _ => 0) n).toArray t (0, 0))) :
    (convert 37 9 (.slice (some ⟨g, 0, none⟩) n cap)).run Tryd.prog w = .ok (.string ⟨(List.replicate n (0 : UInt8)).toArray⟩) w := by
  rw [conv_block h (fun _ => by decide) cap]
  congr 4
  apply List.ext_getElem?
  intro i
  by_cases hi : i < n
  · simp [hi]
  · simp [hi]
theorem info5 : (Tryd.prog.info? 5).map (fun i => (i.zero, i.size, i.bytes)) = some (some (.int .u8 0), 1, 1) := by kernel_rfl
theorem made_zeros (n : Nat) : madeCells #[.int .u8 0] n = (bcells (fun _ => 0) n).toArray := by
  apply Array.ext_getElem?
  intro i
  by_cases hi : i < n
  · simp [madeCells, bcells, hi, Nat.mod_one]
  · simp [madeCells, bcells, hi]
theorem pad_str (z y : Nat) : (⟨#[128]⟩ : ByteArray) ++ ⟨Array.replicate z 0⟩ ++ ⟨(be8 y).toArray⟩ = ⟨(128 :: (List.replicate z 0 ++ be8 y)).toArray⟩ := by
  apply ByteArray.ext
  simp [ByteArray.data_append]
theorem pad_below1 {w w1 : World} {o : Obj} (B : Below (w.alloc o).drew.heap.size (w.alloc o).drew w1) : Below w.heap.size w w1 :=
  ((Below.refl _ w).alloc (Nat.le_refl _) o).trans (Below.mono (⟨B.os, B.tape, B.output, B.size, B.block⟩ : Below (w.alloc o).heap.size (w.alloc o) w1) (by simp))
theorem pad_conv {w w1 : World} {z : Nat} (B : Below (w.alloc (.cells (bcells (fun _ => 0) z).toArray 5)).drew.heap.size (w.alloc (.cells (bcells (fun _ => 0) z).toArray 5)).drew w1) :
    (convert 37 9 (.slice (some ⟨w.heap.size, 0, none⟩) z z)).run Tryd.prog w1 = .ok (.string ⟨(List.replicate z (0 : UInt8)).toArray⟩) w1 :=
  zeros_conv _ _ _ _ 5 ((B.block _ (by simp)).trans (block_alloc_at w _))
set_option maxRecDepth 20000 in
set_option maxHeartbeats 2000000 in
theorem padding_any (n : Nat) (w : World) (hn : n ≤ 9223372036854775807) : Calls Tryd.prog 62 #[.int .i64 n] w fun e w' => e = .returned (.string ⟨(128 :: (List.replicate ((119 - n % 64) % 64) 0 ++ be8 (8 * n % 18446744073709551616))).toArray⟩) ∧ Below w.heap.size w w' := by
  obtain ⟨o, ho⟩ : ∃ o, n % 64 = o := ⟨_, rfl⟩
  have h1 : (n : Int).tmod 64 = (o : Int) := by rw [Int.tmod_eq_emod_of_nonneg (by omega)]; omega
  obtain ⟨z, hz⟩ : ∃ z, (119 - o) % 64 = z := ⟨_, rfl⟩
  have hol : o < 64 := by omega
  have hzl : z < 64 := by omega
  have h2 : (119 - (o : Int)).tmod 64 = (z : Int) := by rw [Int.tmod_eq_emod_of_nonneg (by omega)]; omega
  rw [ho, hz]
  clear ho hz
  have hmk : ∀ W : World, (Instr.makeSlice 37 (.int .i64 (z : Int)) (.int .i64 (z : Int))).run Tryd.prog W = .ok (.slice (some ⟨W.heap.size, 0, none⟩) z z) (W.alloc (.cells (bcells (fun _ => 0) z).toArray 5)) := fun W => by
    rw [← made_zeros]
    exact run_make_row' 37 5 (.int .u8 0) 1 Tryd.underlying37 info5 rfl .i64 .i64 z (by omega) (by omega) W
  have hcv : ∀ W : World, (convert 37 9 (.slice (some ⟨W.heap.size, 0, none⟩) z z)).run Tryd.prog (W.alloc (.cells (bcells (fun _ => 0) z).toArray 5)) = .ok (.string ⟨(List.replicate z (0 : UInt8)).toArray⟩) (W.alloc (.cells (bcells (fun _ => 0) z).toArray 5)) := fun W => zeros_conv _ _ _ _ 5 (block_alloc_at _ _)
  obtain ⟨y, hy⟩ : ∃ y, 8 * n % 18446744073709551616 = y := ⟨_, rfl⟩
  have hw8 : IntKind.u64.wrap (8 * IntKind.u64.wrap (n : Int)) = (y : Int) := by rw [IntKind.wrap_u64, IntKind.wrap_u64]; omega
  rw [hy]
  clear hy
  have hc1 : (convert 37 9 (.slice (some ⟨w.heap.size, 0, none⟩) z z)).run Tryd.prog (w.alloc (.cells (bcells (fun _ => 0) z).toArray 5)).drew = .ok (.string ⟨(List.replicate z (0 : UInt8)).toArray⟩) (w.alloc (.cells (bcells (fun _ => 0) z).toArray 5)).drew := zeros_conv _ _ _ _ 5 (block_alloc_at w _)
  have hb8 : (be8 y).length = 8 := by simp [be8]
  go_enter Tryd.func62, Tryd.ntmps62
  go_wp2_with fail
  go_region_with (first
    | (go_at_call 71; refine (eight_any _ _).mono ?_; rintro e1 w1 ⟨rfl, B1⟩; have hB1 : Hid (Below w.heap.size w w1) := pad_below1 B1; have hc2 := pad_conv B1; clear B1)
    | (go_at_call 71; refine (eight_any _ _).mono ?_; rintro e1 w1 ⟨rfl, B1⟩; have hB1 : Hid (Below w.heap.size w w1) := ⟨B1.os, B1.tape, B1.output, B1.size, B1.block⟩; clear B1))
  all_goals
    go_wp2_with fail
    go_ret
    refine ⟨congrArg (fun s => Ending.returned (.string s)) (pad_str z y), ?_⟩
    first
      | exact hB1.out
      | exact hB1.out.alloc hB1.out.size _
end Go.Proofs.YtedibkcempcpnaaDoor
