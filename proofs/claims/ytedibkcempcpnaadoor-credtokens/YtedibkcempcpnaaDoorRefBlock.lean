/-
  The twin's constants and block.
-/
import Derived.Test.YtedibkcempcpnaaDoorSum
import Derived.Deep.RegionHeld3
namespace Go.Proofs.YtedibkcempcpnaaDoor
open Go.RowKit
set_option maxRecDepth 20000 in
set_option maxHeartbeats 1000000 in
theorem constants_any (w : World) : Calls Tryd.prog 73 #[] w fun e w' => e = .returned (.agg (wcells Kc 64).toArray) ∧ Below w.heap.size w w' := by
  go_enter Tryd.func73, Tryd.ntmps73
  go_wp2_with (first
    | refine wpList_alloc_row rfl 87 rfl _ _ zero53 ?_
    | refine wpList_build_eq rfl 87 _ rfl (wcells Kc 64).toArray (by kernel_rfl) ?_
    | refine wpList_store_mid rfl 87 (.tmp 0) (.tmp 1) rfl w.heap.size 0 (wcells Kc 64) rfl rfl 87 [] (wcells (fun _ => 0) 64) [] (by rw [List.nil_append, List.append_nil]; exact block_alloc_at _ _) rfl (by rw [wcells_length]; exact size53) (by rw [wcells_length, wcells_length]) (wcells_one _ _) ?_)
  rw [List.nil_append, List.append_nil]
  have h5 := setRow_heap (w.alloc (.cells (wcells (fun _ => 0) 64).toArray 87)) w.heap.size _ (wcells Kc 64).toArray 87 (0, 0) (block_alloc_at _ _)
  refine bodyPost_ret (v := .agg (wcells Kc 64).toArray) (results_cell_row rfl _ _ w.heap.size 87 _ (0, 0) _ rfl h5 Tryd.underlying87 rfl (by rw [List.size_toArray, wcells_length]; exact size53)) rfl ⟨rfl, ?_⟩
  exact below_setRow ((Below.refl _ _).alloc (Nat.le_refl _) _) (Nat.le_refl _) _
/-- A word of four bytes. -/
def word4 (B : Nat → Nat) (k : Nat) : Nat := ((B (4 * k) * 16777216 % 4294967296 ||| B (4 * k + 1) * 65536 % 4294967296) ||| B (4 * k + 2) * 256 % 4294967296) ||| B (4 * k + 3)
def x1 (B : Nat → Nat) : Nat → Nat → Nat
  | 0 => fun _ => 0
  | k + 1 => upd (x1 B k) k (word4 B k)
theorem word4_lt {B : Nat → Nat} (hB : ∀ i, B i < 256) (k : Nat) : word4 B k < 4294967296 :=
  Nat.or_lt_two_pow (n := 32) (Nat.or_lt_two_pow (n := 32) (Nat.or_lt_two_pow (n := 32) (Nat.mod_lt _ (by decide)) (Nat.mod_lt _ (by decide))) (Nat.mod_lt _ (by decide))) (Nat.lt_trans (hB _) (by decide))
theorem x1_small {B : Nat → Nat} (hB : ∀ i, B i < 256) : ∀ k, Small (x1 B k)
  | 0 => fun _ => (by decide : 0 < 4294967296)
  | k + 1 => (x1_small hB k).upd (word4_lt hB k)
theorem word4_form {a b c d : Nat} (hd : d < 256) : bits BinOp.or IntKind.u32 (bits BinOp.or IntKind.u32 (bits BinOp.or IntKind.u32 ((a : Int) * 16777216 % 4294967296) ((b : Int) * 65536 % 4294967296)) ((c : Int) * 256 % 4294967296)) (d : Int) = (((((a * 16777216 % 4294967296 ||| b * 65536 % 4294967296) ||| c * 256 % 4294967296) ||| d : Nat)) : Int) := by
  have e1 : (a : Int) * 16777216 % 4294967296 = ((a * 16777216 % 4294967296 : Nat) : Int) := by omega
  have e2 : (b : Int) * 65536 % 4294967296 = ((b * 65536 % 4294967296 : Nat) : Int) := by omega
  have e3 : (c : Int) * 256 % 4294967296 = ((c * 256 % 4294967296 : Nat) : Int) := by omega
  have l1 : a * 16777216 % 4294967296 < 4294967296 := Nat.mod_lt _ (by decide)
  have l2 : b * 65536 % 4294967296 < 4294967296 := Nat.mod_lt _ (by decide)
  have l3 : c * 256 % 4294967296 < 4294967296 := Nat.mod_lt _ (by decide)
  rw [e1, e2, e3, u32_or_nat _ _ l1 l2, u32_or_nat _ _ (Nat.or_lt_two_pow (n := 32) l1 l2) l3, u32_or_nat _ _ (Nat.or_lt_two_pow (n := 32) (Nat.or_lt_two_pow (n := 32) l1 l2) l3) (by omega)]
/-- A text's i-th byte. -/
def byteAt (s : ByteArray) (i : Nat) : Nat := (s.data.toList.getD i 0).toNat
theorem byteAt_lt (s : ByteArray) (i : Nat) : byteAt s i < 256 := (s.data.toList.getD i 0).toNat_lt
theorem run_byte (s : ByteArray) {i : Nat} {z : Int} (hz : z = (i : Int)) (hi : i < s.size) (W : World) : (Instr.index 9 (.string s) (.int .i64 z)).run Tryd.prog W = .ok (.int .u8 (byteAt s i : Int)) W := by
  subst hz
  rw [run_index_string W 9 _ .i64 (i : Int) Tryd.underlying9, dif_pos ⟨by omega, by omega⟩]
  have : s.data.toList.getD i 0 = s[i] := by
    rw [List.getD_eq_getElem?_getD, List.getElem?_eq_getElem (by simpa using hi)]
    rfl
  simp only [byteAt, this, Int.toNat_natCast]
theorem xrow (v1 : World) : (((v1.alloc (.cells (wcells (fun _ => 0) 64).toArray 87)).setRow v1.heap.size (wcells Kc 64).toArray).alloc (.cells (wcells (fun _ => 0) 8).toArray 81)).heap[v1.heap.size + 1]? = some (.cells (wcells (fun _ => 0) 8).toArray 81 (0, 0)) := by
  have := block_alloc_at ((v1.alloc (.cells (wcells (fun _ => 0) 64).toArray 87)).setRow v1.heap.size (wcells Kc 64).toArray) (.cells (wcells (fun _ => 0) 8).toArray 81)
  simpa using this
theorem sum4_form' (a b c d : Nat) : ((((a : Int) + (b : Int)) % 4294967296 + (c : Int)) % 4294967296 + (d : Int)) % 4294967296 = (((a + b + c + d) % 4294967296 : Nat) : Int) := by omega
theorem modb (s : ByteArray) (i : Nat) : (byteAt s i : Int) % 4294967296 = (byteAt s i : Int) := by have := byteAt_lt s i; omega
theorem ch_form' {e f g : Nat} (he : e < 4294967296) (hf : f < 4294967296) (hg : g < 4294967296) : bits BinOp.xor IntKind.u32 (bits BinOp.and IntKind.u32 (e : Int) (f : Int)) (bits BinOp.and IntKind.u32 (bits BinOp.xor IntKind.u32 IntKind.u32.max (e : Int)) (g : Int)) = ((chN e f g : Nat) : Int) := by
  have := ch_form he hf hg
  rw [if_neg (by decide)] at this
  exact this
theorem built42 (z0 z1 z2 z3 z4 z5 z6 z7 : Int) : Tryd.prog.built 81 [(0, .int .u32 z0), (1, .int .u32 z1), (2, .int .u32 z2), (3, .int .u32 z3), (4, .int .u32 z4), (5, .int .u32 z5), (6, .int .u32 z6), (7, .int .u32 z7)] = some #[.int .u32 z0, .int .u32 z1, .int .u32 z2, .int .u32 z3, .int .u32 z4, .int .u32 z5, .int .u32 z6, .int .u32 z7] := by
  kernel_rfl
structure XW (v : World) (gk ws : Nat) (x G h : Nat → Nat) : Prop where
  hx : v.heap[gk + 1]? = some (.cells (wcells x 8).toArray 81 (0, 0))
  hk : v.heap[gk]? = some (.cells (wcells Kc 64).toArray 87 (0, 0))
  hw : v.heap[ws + 1 + 1]? = some (.cells (wcells G 64).toArray 87 (0, 0))
  hh : v.heap[ws]? = some (.cells (wcells h 8).toArray 81 (0, 0))
  hr : v.heap[ws + 1]? = some (.cells (wcells (fun _ => 0) 8).toArray 81 (0, 0))
set_option maxRecDepth 20000 in
set_option maxHeartbeats 4000000 in
theorem xblock_any (hv : Nat → Nat) (hh : Small hv) (s : ByteArray) (hs : s.size = 64) (w : World) :
    Calls Tryd.prog 64 #[.agg (wcells hv 8).toArray, .string s] w fun e w' => e = .returned (.agg (wcells (addTo hv (rds Kc (w2 (x1 (byteAt s) 16) 48) hv 64) 8) 8).toArray) ∧ Below w.heap.size w w' := by
  have HH : Hid _ := hh
  clear hh
  go_enter Tryd.func64, Tryd.ntmps64
  go_wp2_with (first
    | refine wpList_alloc_row rfl 81 rfl _ _ zero42 ?_
    | refine wpList_alloc_row rfl 87 rfl _ _ zero53 ?_)
  go_loopw [6] (fun i wr => ∃ k : Nat, k ≤ 16 ∧ i = .int .i64 k ∧ wr.heap[w.heap.size + 1 + 1]? = some (.cells (wcells (x1 (byteAt s) k) 64).toArray 87 (0, 0)) ∧ wr.heap[w.heap.size]? = some (.cells (wcells hv 8).toArray 81 (0, 0)) ∧ wr.heap[w.heap.size + 1]? = some (.cells (wcells (fun _ => 0) 8).toArray 81 (0, 0)) ∧ Below w.heap.size w wr) (fun i _ => 16 - (intOf i).toNat)
  case atStart => exact ⟨0, by omega, rfl, show _ = some (Obj.cells (wcells (fun _ => 0) 64).toArray 87 (0, 0)) by simpa using block_alloc_at ((w.alloc (.cells (wcells hv 8).toArray 81)).alloc (.cells (wcells (fun _ => 0) 8).toArray 81)) (.cells (wcells (fun _ => 0) 64).toArray 87), blk_old (blk_old (block_alloc_at _ _) _) _, by simpa using blk_old (block_alloc_at (w.alloc (.cells (wcells hv 8).toArray 81)) (.cells (wcells (fun _ => 0) 8).toArray 81)) _, (((Below.refl _ _).alloc (Nat.le_refl _) _).alloc (by simp) _).alloc (by simp; omega) _⟩
  case round =>
    obtain ⟨k, hk, rfl, h5, h2, h4, hbel⟩ := hrel
    by_cases hlt : k < 16
    · have c5 := blk_arr_cell h5 (i := k) (by omega)
      have f5 := free_of_block h5 k
      have r0 := fun W => run_byte s (i := 4 * k) (z := 4 * (k : Int)) (by omega) (by omega) W
      have r1 := fun W => run_byte s (i := 4 * k + 1) (z := 4 * (k : Int) + 1) (by omega) (by omega) W
      have r2 := fun W => run_byte s (i := 4 * k + 2) (z := 4 * (k : Int) + 2) (by omega) (by omega) W
      have r3 := fun W => run_byte s (i := 4 * k + 3) (z := 4 * (k : Int) + 3) (by omega) (by omega) W
      go_wp2_with fail
      go_region
      go_wp2_with fail
      rw [modb, modb, modb, modb, word4_form (byteAt_lt s _)]
      refine ⟨⟨k + 1, by omega, by go_num, ?_, ?_, ?_, ?_⟩, by simp [intOf]; omega⟩
      · exact blk_arr_set h5 k (word4 (byteAt s) k)
      · show (wr.setCell _ _).heap[w.heap.size]? = _
        rw [Below.heap_setCell _ _ _ _ (by simp; omega)]; exact h2
      · show (wr.setCell _ _).heap[w.heap.size + 1]? = _
        rw [Below.heap_setCell _ _ _ _ (by simp)]; exact h4
      · have := hbel.setCell (p := ⟨w.heap.size + 1 + 1, k, none⟩) (by simp; omega) (.int .u32 (word4 (byteAt s) k : Int))
        exact ⟨this.os, this.tape, this.output, this.size, this.block⟩
    · obtain rfl : k = 16 := by omega
      have HF : Hid (Small (x1 (byteAt s) 16)) := x1_small (byteAt_lt s) 16
      obtain ⟨F, hF⟩ : ∃ F, x1 (byteAt s) 16 = F := ⟨_, rfl⟩
      rw [hF] at h5 HF
      have HFF : Hid (x1 (byteAt s) 16 = F) := hF
      clear hF
      rw [show ((16 : Nat) : Int) = 16 from rfl]
      go_wp2_with fail
      go_loopw [7] (fun i wr => ∃ k : Nat, k ≤ 48 ∧ i = .int .i64 ((16 + k : Nat) : Int) ∧ wr.heap[w.heap.size + 1 + 1]? = some (.cells (wcells (w2 F k) 64).toArray 87 (0, 0)) ∧ wr.heap[w.heap.size]? = some (.cells (wcells hv 8).toArray 81 (0, 0)) ∧ wr.heap[w.heap.size + 1]? = some (.cells (wcells (fun _ => 0) 8).toArray 81 (0, 0)) ∧ Below w.heap.size w wr) (fun i _ => 64 - (intOf i).toNat)
      case atStart => exact ⟨0, by omega, rfl, h5, h2, h4, hbel⟩
      case round =>
        clear h5 h2 h4 hbel
        obtain ⟨k, hk, rfl, h5, h2, h4, hbel⟩ := hrel
        obtain ⟨G, hG⟩ : ∃ G, w2 F k = G := ⟨_, rfl⟩
        have HG : Hid (Small G) := by rw [← hG]; exact w2_small HF.out k
        have HGG : Hid (w2 F k = G) := hG
        rw [hG] at h5
        clear hG
        by_cases hlt : k < 48
        · have c15 := blk_arr_cell h5 (i := 16 + k - 15) (by omega)
          have c2 := blk_arr_cell h5 (i := 16 + k - 2) (by omega)
          go_wp2_with fail
          go_quiet (fail)
          obtain ⟨a7, ha7⟩ : ∃ a7, 16 + k - 7 = a7 := ⟨_, rfl⟩
          have l7 : (a7 : Int) < 64 := by omega
          have lk : (k : Int) < 64 := by omega
          have l16 : 16 + (k : Int) < 64 := by omega
          have g16 : (0 : Int) ≤ 16 + (k : Int) := by omega
          have ct : (16 + (k : Int)).toNat = 16 + k := by omega
          have j7 : IntKind.i64.wrap (16 + (k : Int) - 7) = (a7 : Int) := by rw [IntKind.wrap_i64]; omega
          have j16 : IntKind.i64.wrap (16 + (k : Int) - 16) = (k : Int) := by rw [IntKind.wrap_i64]; omega
          have c7 := blk_arr_cell h5 (i := a7) (by omega)
          have HA7 : Hid _ := ha7
          have hne7 : a7 ≠ 16 + k := by omega
          clear ha7
          have c0 := blk_arr_cell h5 (i := 16 + k) (by omega)
          have f0 := free_of_block h5 (16 + k)
          have c16k := blk_arr_cell h5 (i := k) (by omega)
          go_wp2_with fail
          go_region_held3 (fun W => W.cell? ⟨w.heap.size + 1 + 1, a7, none⟩ = some (.int .u32 (G a7 : Int)) ∧ W.cell? ⟨w.heap.size + 1 + 1, k, none⟩ = some (.int .u32 (G k : Int)))
            (first | (simp [*]; done) | (refine ⟨?_, ?_⟩ <;> (rw [World.cell?_setCell_other _ _ _ _ (by intro e; injection e with _ e2; omega)]; simp [*])))
            (first
            | (go_at_call_of 72 (Value.int .i64 17); refine (xror17 (HG.out _) _).mono ?_; rintro e1 v1 ⟨rfl, m1, rfl⟩)
            | (go_at_call_of 72 (Value.int .i64 19); refine (xror19 (HG.out _) _).mono ?_; rintro e1 v1 ⟨rfl, m1, rfl⟩)
            | (go_at_call_of 72 (Value.int .i64 7); refine (xror7 (HG.out _) _).mono ?_; rintro e1 v1 ⟨rfl, m1, rfl⟩)
            | (go_at_call_of 72 (Value.int .i64 18); refine (xror18 (HG.out _) _).mono ?_; rintro e1 v1 ⟨rfl, m1, rfl⟩))
          all_goals go_wp2_with fail
          rw [sig0_form (HG.out _), sig1_form (HG.out _), sum4_form']
          have hnx : (sig1 (G (16 + k - 2)) + G a7 + sig0 (G (16 + k - 15)) + G k) % 4294967296 = nextW G (16 + k) := by rw [nextW, Nat.add_sub_cancel_left, HA7.out]
          rw [hnx]
          refine ⟨⟨k + 1, by omega, by go_num, ?_, ?_, ?_, ?_⟩, by simp [intOf]; omega⟩
          · rw [w2, HGG.out]
            exact blk_arr_set (w := wr.drewN _) h5 _ _
          · rw [Below.heap_setCell _ _ _ _ (by simp; omega)]
            exact h2
          · rw [Below.heap_setCell _ _ _ _ (by simp)]
            exact h4
          · exact Below.setCell (w := wr.drewN _) ⟨hbel.os, hbel.tape, hbel.output, hbel.size, hbel.block⟩ (by simp; omega) _
        · obtain rfl : k = 48 := by omega
          have h2lt := (Array.getElem?_eq_some_iff.1 h2).1
          rw [show ((16 + 48 : Nat) : Int) = 64 from rfl]
          go_wp2_with fail
          refine (constants_any wr).mono ?_
          rintro e1 v1 ⟨rfl, B1⟩
          have h5' := (B1.block _ (Array.getElem?_eq_some_iff.1 h5).1).trans h5
          have h2' := (B1.block _ h2lt).trans h2
          have h4' := (B1.block _ (Array.getElem?_eq_some_iff.1 h4).1).trans h4
          go_wp2_with (first
            | refine wpList_alloc_row rfl 81 rfl _ _ zero42 ?_
            | refine wpList_alloc_row rfl 87 rfl _ _ zero53 ?_
            | refine wpList_load_mid rfl 81 (.tmp 2) rfl _ 0 rfl _ [] (wcells hv 8) [] _ _ (by rw [List.nil_append, List.append_nil, setRow_other _ _ _ _ (by have := B1.size; omega)]; exact blk_old h2' _) rfl Tryd.underlying81 rfl (by rw [wcells_length]; exact size42) ?_
            | refine wpList_store_mid rfl 87 (.tmp 10) (.tmp 94) rfl v1.heap.size 0 (wcells Kc 64) rfl rfl 87 [] (wcells (fun _ => 0) 64) [] (by rw [List.nil_append, List.append_nil]; exact block_alloc_at _ _) rfl (by rw [wcells_length]; exact size53) (by rw [wcells_length, wcells_length]) (wcells_one _ _) ?_
            | (refine wpList_store_mid rfl 81 (.tmp 11) (.tmp 95) rfl (v1.heap.size + 1) 0 (wcells hv 8) ?hx ?hy 81 [] (wcells (fun _ => 0) 8) [] ?hg rfl (by rw [wcells_length]; exact size42) (by rw [wcells_length, wcells_length]) (wcells_one _ _) ?_; (case hx => first | rfl | (simp [Act.eval]; rfl)); (case hy => rfl); (case hg => simp only [List.nil_append, List.append_nil]; exact xrow v1)))
          have s1 := B1.size
          have hX := setRow_heap (((v1.alloc (.cells (wcells (fun _ => 0) 64).toArray 87)).setRow v1.heap.size (wcells Kc 64).toArray).alloc (.cells (wcells (fun _ => 0) 8).toArray 81)) (v1.heap.size + 1) _ (wcells hv 8).toArray 81 (0, 0) (xrow v1)
          have hKk : ((((v1.alloc (.cells (wcells (fun _ => 0) 64).toArray 87)).setRow v1.heap.size (wcells Kc 64).toArray).alloc (.cells (wcells (fun _ => 0) 8).toArray 81)).setRow (v1.heap.size + 1) (wcells hv 8).toArray).heap[v1.heap.size]? = some (.cells (wcells Kc 64).toArray 87 (0, 0)) := by
            rw [setRow_other _ _ _ _ (by omega)]
            exact blk_old (setRow_heap (v1.alloc (.cells (wcells (fun _ => 0) 64).toArray 87)) v1.heap.size _ (wcells Kc 64).toArray 87 (0, 0) (block_alloc_at _ _)) _
          have hold : ∀ (q : Nat) (x : Obj), v1.heap[q]? = some x → ((((v1.alloc (.cells (wcells (fun _ => 0) 64).toArray 87)).setRow v1.heap.size (wcells Kc 64).toArray).alloc (.cells (wcells (fun _ => 0) 8).toArray 81)).setRow (v1.heap.size + 1) (wcells hv 8).toArray).heap[q]? = some x := by
            intro q x hq
            have hlt := (Array.getElem?_eq_some_iff.1 hq).1
            rw [setRow_other _ _ _ _ (by omega)]
            refine blk_old ?_ _
            rw [setRow_other _ _ _ _ (by omega)]
            exact blk_old hq _
          have q5 := hold _ _ h5'
          have q2 := hold _ _ h2'
          have q4 := hold _ _ h4'
          have hbX : Below w.heap.size w ((((v1.alloc (.cells (wcells (fun _ => 0) 64).toArray 87)).setRow v1.heap.size (wcells Kc 64).toArray).alloc (.cells (wcells (fun _ => 0) 8).toArray 81)).setRow (v1.heap.size + 1) (wcells hv 8).toArray) := by
            have b0 : Below w.heap.size w v1 := hbel.trans (B1.mono (by omega))
            refine below_setRow (Below.alloc (below_setRow (b0.alloc b0.size _) (by have := b0.size; omega) _) (by simp; have := b0.size; omega) _) (by have := b0.size; omega) _
          have hgx : w.heap.size + 1 + 1 < v1.heap.size := (Array.getElem?_eq_some_iff.1 h5').1
          try simp only [List.nil_append, List.append_nil]
          clear hold h5 h2 h4 h5' h2' h4' hbel B1 s1
          generalize hgk : v1.heap.size = gk at *
          generalize ((((v1.alloc (.cells (wcells (fun _ => 0) 64).toArray 87)).setRow gk (wcells Kc 64).toArray).alloc (.cells (wcells (fun _ => 0) 8).toArray 81)).setRow (gk + 1) (wcells hv 8).toArray) = v2 at *
          go_wp2_with fail
          go_loopw [12] (fun i wr => ∃ k : Nat, ∃ x, k ≤ 64 ∧ i = .int .i64 k ∧ Hid (x = rds Kc G hv k) ∧ XW wr gk w.heap.size x G hv ∧ Below w.heap.size w wr) (fun i _ => 64 - (intOf i).toNat)
          case atStart => exact ⟨0, hv, by omega, rfl, rfl, ⟨hX, hKk, q5, q2, q4⟩, hbX⟩
          case round =>
            clear hX hKk q5 q2 q4 hbX
            obtain ⟨k, x, hk, rfl, HX, hall, hbX⟩ := hrel
            have HSx : Hid (Small x) := by rw [HX.out]; exact rds_small HH.out k
            by_cases hlt : k < 64
            · have cx0 := blk_arr_cell hall.hx (i := 0) (by omega)
              have cx4 := blk_arr_cell hall.hx (i := 4) (by omega)
              go_wp2_with fail
              go_quiet (fail)
              obtain ⟨v3, hv3⟩ : ∃ v3, wr.drewN nq = v3 := ⟨_, rfl⟩
              have hall3 : XW v3 gk w.heap.size x G hv := by rw [← hv3]; exact ⟨hall.hx, hall.hk, hall.hw, hall.hh, hall.hr⟩
              have hb3 : Below w.heap.size w v3 := by rw [← hv3]; exact ⟨hbX.os, hbX.tape, hbX.output, hbX.size, hbX.block⟩
              rw [hv3]
              clear hv3 nq hall hbX cx0 cx4 wr
              have cx5 := blk_arr_cell hall3.hx (i := 5) (by omega)
              have cx6 := blk_arr_cell hall3.hx (i := 6) (by omega)
              have cx7 := blk_arr_cell hall3.hx (i := 7) (by omega)
              have cW := blk_arr_cell hall3.hw (i := k) hlt
              have cK := blk_arr_cell hall3.hk (i := k) hlt
              go_wp2_with fail
              go_quiet (first
                | (go_at_call_of 72 (Value.int .i64 6); exact Calls.quiet_of (xror6 (HSx.out 4) _))
                | (go_at_call_of 72 (Value.int .i64 11); exact Calls.quiet_of (xror11 (HSx.out 4) _))
                | (go_at_call_of 72 (Value.int .i64 25); exact Calls.quiet_of (xror25 (HSx.out 4) _)))
              obtain ⟨v4, hv4⟩ : ∃ v4, v3.drewN nq = v4 := ⟨_, rfl⟩
              have hall4 : XW v4 gk w.heap.size x G hv := by rw [← hv4]; exact ⟨hall3.hx, hall3.hk, hall3.hw, hall3.hh, hall3.hr⟩
              have hb4 : Below w.heap.size w v4 := by rw [← hv4]; exact ⟨hb3.os, hb3.tape, hb3.output, hb3.size, hb3.block⟩
              rw [hv4]
              clear hv4 nq hall3 hb3 cx5 cx6 cx7 cW cK v3
              have cx1 := blk_arr_cell hall4.hx (i := 1) (by omega)
              have cx2 := blk_arr_cell hall4.hx (i := 2) (by omega)
              go_wp2_with fail
              go_quiet (first
                | (go_at_call_of 72 (Value.int .i64 2); exact Calls.quiet_of (xror2 (HSx.out 0) _))
                | (go_at_call_of 72 (Value.int .i64 13); exact Calls.quiet_of (xror13 (HSx.out 0) _))
                | (go_at_call_of 72 (Value.int .i64 22); exact Calls.quiet_of (xror22 (HSx.out 0) _)))
              obtain ⟨v5, hv5⟩ : ∃ v5, v4.drewN nq = v5 := ⟨_, rfl⟩
              have hall5 : XW v5 gk w.heap.size x G hv := by rw [← hv5]; exact ⟨hall4.hx, hall4.hk, hall4.hw, hall4.hh, hall4.hr⟩
              have hb5 : Below w.heap.size w v5 := by rw [← hv5]; exact ⟨hb4.os, hb4.tape, hb4.output, hb4.size, hb4.block⟩
              rw [hv5]
              clear hv5 nq hall4 hb4 cx1 cx2 v4
              rw [S1_form (HSx.out 4), S0_form (HSx.out 0), ch_form' (HSx.out 4) (HSx.out 5) (HSx.out 6), maj_form (HSx.out 0) (HSx.out 1) (HSx.out 2), sum5_form, sum2_form (bigS0 (x 0)), tOne_eq, tTwo_eq]
              obtain ⟨T1, hT1⟩ : ∃ T1, tOne (Kc k) (G k) x = T1 := ⟨_, rfl⟩
              obtain ⟨T2, hT2⟩ : ∃ T2, tTwo x = T2 := ⟨_, rfl⟩
              rw [hT1, hT2]
              have HN : Hid ([.int .u32 (((T1 : Int) + (T2 : Int)) % 4294967296), .int .u32 (x 0 : Int), .int .u32 (x 1 : Int), .int .u32 (x 2 : Int), .int .u32 (((x 3 : Int) + (T1 : Int)) % 4294967296), .int .u32 (x 4 : Int), .int .u32 (x 5 : Int), .int .u32 (x 6 : Int)] = wcells (rnd (Kc k) (G k) x) 8) := by
                rw [Hid, sum2_form, sum2_form, ← hT1, ← hT2, rnd0, rnd4, ← rnd1 (Kc k) (G k) x, ← rnd2 (Kc k) (G k) x, ← rnd3 (Kc k) (G k) x, ← rnd5 (Kc k) (G k) x, ← rnd6 (Kc k) (G k) x, ← rnd7 (Kc k) (G k) x]
                rfl
              clear hT1 hT2
              have cx0 := blk_arr_cell hall5.hx (i := 0) (by omega)
              have cx1 := blk_arr_cell hall5.hx (i := 1) (by omega)
              have cx2 := blk_arr_cell hall5.hx (i := 2) (by omega)
              have cx3 := blk_arr_cell hall5.hx (i := 3) (by omega)
              have cx4 := blk_arr_cell hall5.hx (i := 4) (by omega)
              have cx5 := blk_arr_cell hall5.hx (i := 5) (by omega)
              have cx6 := blk_arr_cell hall5.hx (i := 6) (by omega)
              go_wp2_with (first
                | refine wpList_build_eq rfl 81 _ rfl #[.int .u32 (((T1 : Int) + (T2 : Int)) % 4294967296), .int .u32 (x 0 : Int), .int .u32 (x 1 : Int), .int .u32 (x 2 : Int), .int .u32 (((x 3 : Int) + (T1 : Int)) % 4294967296), .int .u32 (x 4 : Int), .int .u32 (x 5 : Int), .int .u32 (x 6 : Int)] (by kernel_rfl) ?_
                | (refine wpList_store_mid rfl 81 (.tmp 11) (.tmp 177) rfl (gk + 1) 0 [.int .u32 (((T1 : Int) + (T2 : Int)) % 4294967296), .int .u32 (x 0 : Int), .int .u32 (x 1 : Int), .int .u32 (x 2 : Int), .int .u32 (((x 3 : Int) + (T1 : Int)) % 4294967296), .int .u32 (x 4 : Int), .int .u32 (x 5 : Int), .int .u32 (x 6 : Int)] rfl rfl 81 [] (wcells x 8) [] (by rw [List.nil_append, List.append_nil]; exact hall5.hx) rfl size42 (by rw [wcells_length]; rfl) (by rw [HN.out]; exact wcells_one _ _) ?_))
              have HNa : Hid ((#[.int .u32 (((T1 : Int) + (T2 : Int)) % 4294967296), .int .u32 (x 0 : Int), .int .u32 (x 1 : Int), .int .u32 (x 2 : Int), .int .u32 (((x 3 : Int) + (T1 : Int)) % 4294967296), .int .u32 (x 4 : Int), .int .u32 (x 5 : Int), .int .u32 (x 6 : Int)] : Array Value) = (wcells (rnd (Kc k) (G k) x) 8).toArray) := congrArg List.toArray HN.out
              rw [HNa.out]
              refine ⟨⟨k + 1, rnd (Kc k) (G k) x, by omega, by go_num, ?_, ⟨setRow_heap v5 (gk + 1) _ _ 81 (0, 0) hall5.hx, by rw [setRow_other _ _ _ _ (by omega)]; exact hall5.hk, by rw [setRow_other _ _ _ _ (by omega)]; exact hall5.hw, by rw [setRow_other _ _ _ _ (by omega)]; exact hall5.hh, by rw [setRow_other _ _ _ _ (by omega)]; exact hall5.hr⟩, below_setRow hb5 (by omega) _⟩, by simp [intOf]; omega⟩
              show _ = _
              rw [rds, ← HX.out]
            · obtain rfl : k = 64 := by omega
              rw [show ((64 : Nat) : Int) = 64 from rfl]
              have hx0 := hall.hx
              have hh0 := hall.hh
              have hr0 := hall.hr
              clear hall
              go_wp2_with fail
              go_loopw [178] (fun i wr => ∃ k : Nat, k ≤ 8 ∧ i = .int .i64 k ∧ wr.heap[w.heap.size]? = some (.cells (wcells (addTo hv x k) 8).toArray 81 (0, 0)) ∧ wr.heap[gk + 1]? = some (.cells (wcells x 8).toArray 81 (0, 0)) ∧ wr.heap[w.heap.size + 1]? = some (.cells (wcells (fun _ => 0) 8).toArray 81 (0, 0)) ∧ Below w.heap.size w wr) (fun i _ => 8 - (intOf i).toNat)
              case atStart => exact ⟨0, by omega, rfl, hh0, hx0, hr0, hbX⟩
              case round =>
                clear hh0 hx0 hr0 hbX
                obtain ⟨k, hk, rfl, b2, bX, b4, hbel⟩ := hrel
                by_cases hlt : k < 8
                · have c2 := blk_arr_cell b2 (i := k) hlt
                  have f2 := free_of_block b2 k
                  have cX := blk_arr_cell bX (i := k) hlt
                  have hne : gk + 1 ≠ w.heap.size := by omega
                  go_wp2_with fail
                  go_region
                  go_wp2_with fail
                  rw [sum2_form]
                  refine ⟨⟨k + 1, by omega, by go_num, ?_, ?_, ?_, ?_⟩, by simp [intOf]; omega⟩
                  · exact blk_arr_set b2 k ((addTo hv x k k + x k) % 4294967296)
                  · show (wr.setCell _ _).heap[gk + 1]? = _
                    rw [Below.heap_setCell _ _ _ _ (by simp; omega)]; exact bX
                  · show (wr.setCell _ _).heap[w.heap.size + 1]? = _
                    rw [Below.heap_setCell _ _ _ _ (by simp)]; exact b4
                  · have := hbel.setCell (p := ⟨w.heap.size, k, none⟩) (by simp) (.int .u32 (((addTo hv x k k + x k) % 4294967296 : Nat) : Int))
                    exact ⟨this.os, this.tape, this.output, this.size, this.block⟩
                · obtain rfl : k = 8 := by omega
                  obtain ⟨R, hR⟩ : ∃ R, addTo hv x 8 = R := ⟨_, rfl⟩
                  rw [hR] at b2
                  rw [show ((8 : Nat) : Int) = 8 from rfl]
                  go_wp2_with (first
                    | refine wpList_load_mid rfl 81 (.tmp 2) rfl _ 0 rfl _ [] (wcells R 8) [] _ _ (by rw [List.nil_append, List.append_nil]; exact b2) rfl Tryd.underlying81 rfl (by rw [wcells_length]; exact size42) ?_
                    | refine wpList_store_mid rfl 81 (.tmp 4) (.tmp 190) rfl _ 0 (wcells R 8) rfl rfl _ [] _ [] (by rw [List.nil_append, List.append_nil]; exact b4) rfl (by rw [wcells_length]; exact size42) (by simp [wcells_length]) (wcells_one _ _) ?_)
                  rw [List.nil_append, List.append_nil]
                  have h5 := setRow_heap wr (w.heap.size + 1) _ (wcells R 8).toArray 81 (0, 0) b4
                  refine bodyPost_ret (v := .agg (wcells R 8).toArray) (results_cell_row rfl _ _ (w.heap.size + 1) 81 _ (0, 0) _ rfl h5 Tryd.underlying81 rfl (by rw [List.size_toArray, wcells_length]; exact size42)) rfl ⟨?_, ?_⟩
                  · rw [← hR, HX.out, ← HGG.out, ← HFF.out]
                  · exact below_setRow hbel (by omega) _
theorem or_plus {x y i : Nat} (h : y < 2 ^ i) : x * 2 ^ i ||| y = x * 2 ^ i + y := by
  rw [Nat.mul_comm, Nat.two_pow_add_eq_or_of_lt h]
theorem word_chain {a b c d : Nat} (ha : a < 256) (hb : b < 256) (hc : c < 256) (hd : d < 256) :
    ((((0 * 256 % 4294967296 ||| a) * 256 % 4294967296 ||| b) * 256 % 4294967296 ||| c) * 256 % 4294967296 ||| d) = (((a * 16777216 % 4294967296 ||| b * 65536 % 4294967296) ||| c * 256 % 4294967296) ||| d) := by
  have e1 : 0 * 256 % 4294967296 ||| a = a := by simp
  have e2 : a * 256 % 4294967296 ||| b = a * 256 + b := by rw [Nat.mod_eq_of_lt (by omega)]; exact or_plus (i := 8) hb
  have e3 : (a * 256 + b) * 256 % 4294967296 ||| c = (a * 256 + b) * 256 + c := by rw [Nat.mod_eq_of_lt (by omega)]; exact or_plus (i := 8) hc
  have e4 : ((a * 256 + b) * 256 + c) * 256 % 4294967296 ||| d = ((a * 256 + b) * 256 + c) * 256 + d := by rw [Nat.mod_eq_of_lt (by omega)]; exact or_plus (i := 8) hd
  rw [e1, e2, e3, e4]
  have f1 : a * 16777216 % 4294967296 ||| b * 65536 % 4294967296 = a * 16777216 + b * 65536 := by
    rw [Nat.mod_eq_of_lt (by omega), Nat.mod_eq_of_lt (by omega)]; exact or_plus (x := a) (i := 24) (by omega)
  have f2 : (a * 16777216 + b * 65536) ||| c * 256 % 4294967296 = a * 16777216 + b * 65536 + c * 256 := by
    rw [Nat.mod_eq_of_lt (by omega), show a * 16777216 + b * 65536 = (a * 256 + b) * 2 ^ 16 by omega]; exact or_plus (i := 16) (by omega)
  have f3 : (a * 16777216 + b * 65536 + c * 256) ||| d = a * 16777216 + b * 65536 + c * 256 + d := by
    rw [show a * 16777216 + b * 65536 + c * 256 = (a * 65536 + b * 256 + c) * 2 ^ 8 by omega]; exact or_plus (i := 8) hd
  rw [f1, f2, f3]
  omega
theorem upd_upd (f : Nat → Nat) (i x y : Nat) : upd (upd f i x) i y = upd f i y := by
  funext j
  unfold upd
  split <;> simp_all
theorem x1_zero (B : Nat → Nat) : ∀ k j, k ≤ j → x1 B k j = 0
  | 0, _, _ => rfl
  | k + 1, j, h => by rw [x1, upd_other (by omega)]; exact x1_zero B k j (by omega)
theorem w1_x1 {B : Nat → Nat} (hB : ∀ i, B i < 256) : ∀ k, w1 B (4 * k) = x1 B k
  | 0 => rfl
  | k + 1 => by
    have ih := w1_x1 hB k
    rw [show 4 * (k + 1) = 4 * k + 3 + 1 by omega, w1, show (4 * k + 3) / 4 = k by omega, w1, show (4 * k + 2) / 4 = k by omega, w1, show (4 * k + 1) / 4 = k by omega, w1, show (4 * k) / 4 = k by omega]
    simp only [upd_same, upd_upd]
    rw [ih, x1_zero B k k (Nat.le_refl _), x1]
    congr 1
    exact word_chain (hB _) (hB _) (hB _) (hB _)
/-- The twin's block is the state behind a block. -/
theorem refBlock_any (st : Nat → Nat) (hst : Small st) (s : ByteArray) (hs : s.size = 64) (w : World) :
    Calls Tryd.prog 64 #[.agg (wcells st 8).toArray, .string s] w fun e w' => e = .returned (.agg (wcells (comp st (byteAt s)) 8).toArray) ∧ Below w.heap.size w w' := by
  rw [comp, wordsOf, show (64 : Nat) = 4 * 16 from rfl, w1_x1 (byteAt_lt s)]
  exact xblock_any st hst s hs w
end Go.Proofs.YtedibkcempcpnaaDoor
