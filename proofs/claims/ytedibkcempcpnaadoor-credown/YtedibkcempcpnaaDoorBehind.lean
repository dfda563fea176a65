/-
  The contract of behind: the state behind a block with these words.
-/
import Derived.Test.YtedibkcempcpnaaDoorSpread
namespace Go.Proofs.YtedibkcempcpnaaDoor
open Go.RowKit
def bigS1 (e : Nat) : Nat := rorN 6 e ^^^ rorN 11 e ^^^ rorN 25 e
def bigS0 (a : Nat) : Nat := rorN 2 a ^^^ rorN 13 a ^^^ rorN 22 a
def chN (e f g : Nat) : Nat := (e &&& f) ^^^ ((4294967295 ^^^ e) &&& g)
def majN (a b c : Nat) : Nat := (a &&& b) ^^^ (a &&& c) ^^^ (b &&& c)
def tOne (kt wt : Nat) (s : Nat → Nat) : Nat := (s 7 + bigS1 (s 4) + chN (s 4) (s 5) (s 6) + kt + wt) % 4294967296
def tTwo (s : Nat → Nat) : Nat := (bigS0 (s 0) + majN (s 0) (s 1) (s 2)) % 4294967296
/-- A round. -/
def rnd (kt wt : Nat) (s : Nat → Nat) : Nat → Nat := fun j =>
  if j = 0 then (tOne kt wt s + tTwo s) % 4294967296 else if j = 4 then (s 3 + tOne kt wt s) % 4294967296 else s (j - 1)
theorem rnd_small {kt wt : Nat} {s : Nat → Nat} (h : Small s) : Small (rnd kt wt s) := by
  intro i
  unfold rnd
  split
  · exact Nat.mod_lt _ (by decide)
  · split
    · exact Nat.mod_lt _ (by decide)
    · exact h _
section
variable (kt wt : Nat) (s : Nat → Nat)
theorem tOne_eq : (s 7 + bigS1 (s 4) + chN (s 4) (s 5) (s 6) + kt + wt) % 4294967296 = tOne kt wt s := by simp only [tOne]
theorem tTwo_eq : (bigS0 (s 0) + majN (s 0) (s 1) (s 2)) % 4294967296 = tTwo s := by simp only [tTwo]
theorem rnd0 : (tOne kt wt s + tTwo s) % 4294967296 = rnd kt wt s 0 := by unfold rnd; rw [if_pos rfl]
theorem rnd4 : (s 3 + tOne kt wt s) % 4294967296 = rnd kt wt s 4 := by unfold rnd; rw [if_neg (by decide), if_pos rfl]
theorem rnd1 : rnd kt wt s 1 = s 0 := by unfold rnd; rw [if_neg (by decide), if_neg (by decide)]
theorem rnd2 : rnd kt wt s 2 = s 1 := by unfold rnd; rw [if_neg (by decide), if_neg (by decide)]
theorem rnd3 : rnd kt wt s 3 = s 2 := by unfold rnd; rw [if_neg (by decide), if_neg (by decide)]
theorem rnd5 : rnd kt wt s 5 = s 4 := by unfold rnd; rw [if_neg (by decide), if_neg (by decide)]
theorem rnd6 : rnd kt wt s 6 = s 5 := by unfold rnd; rw [if_neg (by decide), if_neg (by decide)]
theorem rnd7 : rnd kt wt s 7 = s 6 := by unfold rnd; rw [if_neg (by decide), if_neg (by decide)]
end
def rds (K W : Nat → Nat) (s : Nat → Nat) : Nat → Nat → Nat
  | 0 => s
  | k + 1 => rnd (K k) (W k) (rds K W s k)
theorem rds_small {K W s : Nat → Nat} (h : Small s) : ∀ k, Small (rds K W s k)
  | 0 => h
  | k + 1 => rnd_small (rds_small h k)
def addTo (s x : Nat → Nat) : Nat → Nat → Nat
  | 0 => s
  | k + 1 => upd (addTo s x k) k ((addTo s x k k + x k) % 4294967296)
section
variable {a b c e f g : Nat}
theorem S1_form (h : e < 4294967296) : bits BinOp.xor IntKind.u32 (bits BinOp.xor IntKind.u32 (rorN 6 e : Int) (rorN 11 e : Int)) (rorN 25 e : Int) = ((bigS1 e : Nat) : Int) := by
  rw [u32_xor_nat _ _ (rorN_lt h) (rorN_lt h), u32_xor_nat _ _ (Nat.xor_lt_two_pow (n := 32) (rorN_lt h) (rorN_lt h)) (rorN_lt h)]
  rfl
theorem S0_form (h : a < 4294967296) : bits BinOp.xor IntKind.u32 (bits BinOp.xor IntKind.u32 (rorN 2 a : Int) (rorN 13 a : Int)) (rorN 22 a : Int) = ((bigS0 a : Nat) : Int) := by
  rw [u32_xor_nat _ _ (rorN_lt h) (rorN_lt h), u32_xor_nat _ _ (Nat.xor_lt_two_pow (n := 32) (rorN_lt h) (rorN_lt h)) (rorN_lt h)]
  rfl
theorem and_lt (h : a < 4294967296) : a &&& b < 4294967296 := Nat.lt_of_le_of_lt Nat.and_le_left h
theorem ch_form (he : e < 4294967296) (hf : f < 4294967296) (hg : g < 4294967296) : bits BinOp.xor IntKind.u32 (bits BinOp.and IntKind.u32 (e : Int) (f : Int)) (bits BinOp.and IntKind.u32 (bits BinOp.xor IntKind.u32 (if IntKind.u32.signed = true then -1 else IntKind.u32.max) (e : Int)) (g : Int)) = ((chN e f g : Nat) : Int) := by
  have em : (if IntKind.u32.signed = true then -1 else IntKind.u32.max) = ((4294967295 : Nat) : Int) := by decide
  rw [em, u32_xor_nat 4294967295 e (by decide) he, u32_and_nat _ _ he hf, u32_and_nat _ _ (Nat.xor_lt_two_pow (n := 32) (by decide) he) hg, u32_xor_nat _ _ (and_lt he) (and_lt (Nat.xor_lt_two_pow (n := 32) (by decide) he))]
  rfl
theorem maj_form (ha : a < 4294967296) (hb : b < 4294967296) (hc : c < 4294967296) : bits BinOp.xor IntKind.u32 (bits BinOp.xor IntKind.u32 (bits BinOp.and IntKind.u32 (a : Int) (b : Int)) (bits BinOp.and IntKind.u32 (a : Int) (c : Int))) (bits BinOp.and IntKind.u32 (b : Int) (c : Int)) = ((majN a b c : Nat) : Int) := by
  rw [u32_and_nat _ _ ha hb, u32_and_nat _ _ ha hc, u32_and_nat _ _ hb hc, u32_xor_nat _ _ (and_lt ha) (and_lt ha), u32_xor_nat _ _ (Nat.xor_lt_two_pow (n := 32) (and_lt ha) (and_lt ha)) (and_lt hb)]
  rfl
theorem sum5_form (a b c d e : Nat) : ((a : Int) + (b : Int) + (c : Int) + (d : Int) + (e : Int)) % 4294967296 = (((a + b + c + d + e) % 4294967296 : Nat) : Int) := by omega
theorem sum2_form (a b : Nat) : ((a : Int) + (b : Int)) % 4294967296 = (((a + b) % 4294967296 : Nat) : Int) := by omega
end
set_option maxRecDepth 20000 in
set_option maxHeartbeats 2000000 in
theorem behind_any (s W Kc : Nat → Nat) (hs : Small s) (w : World) (hgb : 0 < w.heap.size) (hK : ∀ i, i < 64 → w.cell? ⟨0, i, none⟩ = some (.int .u32 (Kc i : Int))) :
    Calls Tryd.prog 59 #[.agg (wcells s 8).toArray, .agg (wcells W 64).toArray] w fun e w' => e = .returned (.agg (wcells (addTo s (rds Kc W s 64) 8) 8).toArray) ∧ Below w.heap.size w w' := by
  have HK : Hid _ := hK
  clear hK
  have HS : Hid _ := hs
  clear hs
  go_enter Tryd.func59, Tryd.ntmps59
  go_wp2_with (first
    | refine wpList_alloc_row rfl 82 rfl _ _ zero48 ?_)
  have b2 : ((((w.alloc (.cells (wcells s 8).toArray 82)).alloc (.cells (wcells W 64).toArray 87)).alloc (.cells (wcells (fun _ => 0) 8).toArray 82))).heap[w.heap.size]? = some (.cells (wcells s 8).toArray 82 (0, 0)) := blk_old (blk_old (block_alloc_at _ _) _) _
  have q0 := blk_arr_cell b2 (i := 0) (by omega)
  have q1 := blk_arr_cell b2 (i := 1) (by omega)
  have q2 := blk_arr_cell b2 (i := 2) (by omega)
  have q3 := blk_arr_cell b2 (i := 3) (by omega)
  have q4 := blk_arr_cell b2 (i := 4) (by omega)
  have q5 := blk_arr_cell b2 (i := 5) (by omega)
  have q6 := blk_arr_cell b2 (i := 6) (by omega)
  have q7 := blk_arr_cell b2 (i := 7) (by omega)
  go_quiet (fail)
  go_wp2_with fail
  have b3 : ((((w.alloc (.cells (wcells s 8).toArray 82)).alloc (.cells (wcells W 64).toArray 87)).alloc (.cells (wcells (fun _ => 0) 8).toArray 82))).heap[w.heap.size + 1]? = some (.cells (wcells W 64).toArray 87 (0, 0)) := by simpa using blk_old (block_alloc_at (w.alloc (.cells (wcells s 8).toArray 82)) (.cells (wcells W 64).toArray 87)) _
  have b4 : ((((w.alloc (.cells (wcells s 8).toArray 82)).alloc (.cells (wcells W 64).toArray 87)).alloc (.cells (wcells (fun _ => 0) 8).toArray 82))).heap[w.heap.size + 1 + 1]? = some (.cells (wcells (fun _ => 0) 8).toArray 82 (0, 0)) := by simpa using block_alloc_at ((w.alloc (.cells (wcells s 8).toArray 82)).alloc (.cells (wcells W 64).toArray 87)) (.cells (wcells (fun _ => 0) 8).toArray 82)
  have hb0 : Below w.heap.size w (((w.alloc (.cells (wcells s 8).toArray 82)).alloc (.cells (wcells W 64).toArray 87)).alloc (.cells (wcells (fun _ => 0) 8).toArray 82)) := (((Below.refl _ _).alloc (Nat.le_refl _) _).alloc (by simp) _).alloc (by simp; omega) _
  clear q0 q1 q2 q3 q4 q5 q6 q7
  go_loopw [5, 6, 7, 8, 9, 10, 11, 12, 34] (fun v0 v1 v2 v3 v4 v5 v6 v7 i wr => ∃ k : Nat, ∃ x : Nat → Nat, k ≤ 64 ∧ i = .int .i64 k ∧ Hid (x = rds Kc W s k) ∧ v0 = .int .u32 (x 0) ∧ v1 = .int .u32 (x 1) ∧ v2 = .int .u32 (x 2) ∧ v3 = .int .u32 (x 3) ∧ v4 = .int .u32 (x 4) ∧ v5 = .int .u32 (x 5) ∧ v6 = .int .u32 (x 6) ∧ v7 = .int .u32 (x 7) ∧
    wr.heap[w.heap.size]? = some (.cells (wcells s 8).toArray 82 (0, 0)) ∧ wr.heap[w.heap.size + 1]? = some (.cells (wcells W 64).toArray 87 (0, 0)) ∧ wr.heap[w.heap.size + 1 + 1]? = some (.cells (wcells (fun _ => 0) 8).toArray 82 (0, 0)) ∧ Below w.heap.size w wr) (fun _ _ _ _ _ _ _ _ i _ => 64 - (intOf i).toNat)
  case atStart => exact ⟨0, s, by omega, rfl, rfl, rfl, rfl, rfl, rfl, rfl, rfl, rfl, rfl, b2, b3, b4, ⟨hb0.os, hb0.tape, hb0.output, hb0.size, hb0.block⟩⟩
  case round =>
    clear b2 b3 b4 hb0
    obtain ⟨k, x, hk, rfl, HX, rfl, rfl, rfl, rfl, rfl, rfl, rfl, rfl, b2, b3, b4, hbel⟩ := hrel
    have HSx : Hid (Small x) := by rw [HX.out]; exact rds_small HS.out k
    by_cases hlt : k < 64
    · have cW := blk_arr_cell b3 (i := k) hlt
      have cK := (hbel.cell (p := ⟨0, k, none⟩) hgb).trans (HK.out k hlt)
      go_wp2_with fail
      go_quiet (first
        | (go_at_call_of 70 (Value.int .i64 6); exact Calls.quiet_of_same (ror6 (HSx.out 4) _))
        | (go_at_call_of 70 (Value.int .i64 11); exact Calls.quiet_of_same (ror11 (HSx.out 4) _))
        | (go_at_call_of 70 (Value.int .i64 25); exact Calls.quiet_of_same (ror25 (HSx.out 4) _)))
      go_wp2_with (first
        | (go_at_call_of 70 (Value.int .i64 2); refine (ror2 (HSx.out 0) _).mono ?_; rintro e w' ⟨rfl, rfl⟩)
        | (go_at_call_of 70 (Value.int .i64 13); refine (ror13 (HSx.out 0) _).mono ?_; rintro e w' ⟨rfl, rfl⟩)
        | (go_at_call_of 70 (Value.int .i64 22); refine (ror22 (HSx.out 0) _).mono ?_; rintro e w' ⟨rfl, rfl⟩))
      rw [S1_form (HSx.out 4), S0_form (HSx.out 0), ch_form (HSx.out 4) (HSx.out 5) (HSx.out 6), maj_form (HSx.out 0) (HSx.out 1) (HSx.out 2), sum5_form, sum2_form (bigS0 (x 0))]
      rw [tOne_eq, tTwo_eq, sum2_form, sum2_form, rnd0, rnd4]
      refine ⟨⟨k + 1, rnd (Kc k) (W k) x, by omega, by go_num, ?_, rfl, by rw [rnd1], by rw [rnd2], by rw [rnd3], rfl, by rw [rnd5], by rw [rnd6], by rw [rnd7], b2, b3, b4, ⟨hbel.os, hbel.tape, hbel.output, hbel.size, hbel.block⟩⟩, by simp [intOf]; omega⟩
      show _ = _
      rw [rds, ← HX.out]
    · obtain rfl : k = 64 := by omega
      rw [show ((64 : Nat) : Int) = 64 from rfl]
      go_wp2_with fail
      rw [show (#[.int .u32 (x 0 : Int), .int .u32 (x 1 : Int), .int .u32 (x 2 : Int), .int .u32 (x 3 : Int), .int .u32 (x 4 : Int), .int .u32 (x 5 : Int), .int .u32 (x 6 : Int), .int .u32 (x 7 : Int)] : Array Value) = (wcells x 8).toArray from rfl]
      go_loopw [106] (fun i wr => ∃ k : Nat, k ≤ 8 ∧ i = .int .i64 k ∧ wr.heap[w.heap.size]? = some (.cells (wcells (addTo s x k) 8).toArray 82 (0, 0)) ∧ wr.heap[w.heap.size + 1 + 1]? = some (.cells (wcells (fun _ => 0) 8).toArray 82 (0, 0)) ∧ Below w.heap.size w wr) (fun i _ => 8 - (intOf i).toNat)
      case atStart => exact ⟨0, by omega, rfl, b2, b4, hbel⟩
      case round =>
        clear b2 b3 b4 hbel
        obtain ⟨k, hk, rfl, b2, b4, hbel⟩ := hrel
        by_cases hlt : k < 8
        · have c2 := blk_arr_cell b2 (i := k) hlt
          have f2 := free_of_block b2 k
          have hv := run_index42 wr (wcells x 8).toArray k (.int .u32 (x k : Int)) hlt (by rw [List.getElem?_toArray]; exact wcells_get hlt)
          go_wp2_with fail
          rw [sum2_form]
          exact ⟨⟨k + 1, by omega, by go_num, blk_arr_set b2 _ _, by rw [Below.heap_setCell _ _ _ _ (by simp; omega)]; exact b4, hbel.setCell (by simp) _⟩, by simp [intOf]; omega⟩
        · obtain rfl : k = 8 := by omega
          obtain ⟨G, hG⟩ : ∃ G, addTo s x 8 = G := ⟨_, rfl⟩
          rw [hG] at b2
          go_wp2_with (first
            | refine wpList_load_mid rfl 82 (.tmp 2) rfl _ 0 rfl _ [] (wcells G 8) [] _ _ (by rw [List.nil_append, List.append_nil]; exact b2) rfl Tryd.underlying82 rfl (by rw [wcells_length]; exact size48) ?_
            | refine wpList_store_mid rfl 82 (.tmp 4) (.tmp 117) rfl _ 0 (wcells G 8) rfl rfl _ [] _ [] (by rw [List.nil_append, List.append_nil]; exact b4) rfl (by rw [wcells_length]; exact size48) (by simp [wcells_length]) (wcells_one _ _) ?_)
          rw [List.nil_append, List.append_nil]
          have h5 := setRow_heap wr (w.heap.size + 1 + 1) _ (wcells G 8).toArray 82 (0, 0) b4
          refine bodyPost_ret (v := .agg (wcells G 8).toArray) (results_cell_row rfl _ _ (w.heap.size + 1 + 1) 82 _ (0, 0) _ rfl h5 Tryd.underlying82 rfl (by rw [List.size_toArray, wcells_length]; exact size48)) rfl ⟨?_, ?_⟩
          · rw [← HX.out, hG]
          · exact below_setRow hbel (by omega) _
end Go.Proofs.YtedibkcempcpnaaDoor
