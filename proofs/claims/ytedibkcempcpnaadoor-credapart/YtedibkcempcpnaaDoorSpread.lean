/-
  The contract of spread: a block's words W(0) to W(63).
-/
import Derived.Test.YtedibkcempcpnaaDoorWhole
import Derived.Deep.RegionWith
import Derived.BigRegion
namespace Go.Proofs.YtedibkcempcpnaaDoor
open Go.RowKit
def Small (f : Nat → Nat) : Prop := ∀ i, f i < 4294967296
theorem Small.upd {f : Nat → Nat} (h : Small f) {i x : Nat} (hx : x < 4294967296) : Small (upd f i x) := by
  intro j
  unfold YtedibkcempcpnaaDoor.upd
  split
  · exact hx
  · exact h j
/-- The words behind i bytes. -/
def w1 (B : Nat → Nat) : Nat → Nat → Nat
  | 0 => fun _ => 0
  | i + 1 => upd (w1 B i) (i / 4) ((w1 B i (i / 4)) * 256 % 4294967296 ||| B i)
theorem w1_small {B : Nat → Nat} (hB : ∀ i, B i < 256) : ∀ i, Small (w1 B i)
  | 0 => fun _ => (by decide : 0 < 4294967296)
  | i + 1 => (w1_small hB i).upd (Nat.or_lt_two_pow (n := 32) (Nat.mod_lt _ (by decide)) (Nat.lt_trans (hB i) (by decide)))
def sig0 (x : Nat) : Nat := rorN 7 x ^^^ rorN 18 x ^^^ x / 8
def sig1 (x : Nat) : Nat := rorN 17 x ^^^ rorN 19 x ^^^ x / 1024
theorem sig0_lt {x : Nat} (h : x < 4294967296) : sig0 x < 4294967296 :=
  Nat.xor_lt_two_pow (n := 32) (Nat.xor_lt_two_pow (n := 32) (rorN_lt h) (rorN_lt h)) (Nat.lt_of_le_of_lt (Nat.div_le_self _ _) h)
theorem sig1_lt {x : Nat} (h : x < 4294967296) : sig1 x < 4294967296 :=
  Nat.xor_lt_two_pow (n := 32) (Nat.xor_lt_two_pow (n := 32) (rorN_lt h) (rorN_lt h)) (Nat.lt_of_le_of_lt (Nat.div_le_self _ _) h)
/-- The next word. -/
def nextW (F : Nat → Nat) (t : Nat) : Nat := (sig1 (F (t - 2)) + F (t - 7) + sig0 (F (t - 15)) + F (t - 16)) % 4294967296
/-- The words behind k further ones. -/
def w2 (F : Nat → Nat) : Nat → Nat → Nat
  | 0 => F
  | k + 1 => upd (w2 F k) (16 + k) (nextW (w2 F k) (16 + k))
theorem w2_small {F : Nat → Nat} (hF : Small F) : ∀ k, Small (w2 F k)
  | 0 => hF
  | k + 1 => (w2_small hF k).upd (Nat.mod_lt _ (by decide))
def wordsOf (B : Nat → Nat) : Nat → Nat := w2 (w1 B 64) 48
theorem in_word {x b : Nat} (_hx : x < 4294967296) (hb : b < 256) : bits BinOp.or IntKind.u32 ((x : Int) * 256 % 4294967296) ((b : Int) % 4294967296) = ((x * 256 % 4294967296 ||| b : Nat) : Int) := by
  have e1 : (x : Int) * 256 % 4294967296 = ((x * 256 % 4294967296 : Nat) : Int) := by omega
  have e2 : (b : Int) % 4294967296 = ((b : Nat) : Int) := by omega
  rw [e1, e2, u32_or_nat _ _ (Nat.mod_lt _ (by decide)) (by omega)]
theorem sig0_form {x : Nat} (h : x < 4294967296) : bits BinOp.xor IntKind.u32 (bits BinOp.xor IntKind.u32 (rorN 7 x : Int) (rorN 18 x : Int)) ((x : Int) / 8) = ((sig0 x : Nat) : Int) := by
  have e : (x : Int) / 8 = ((x / 8 : Nat) : Int) := by omega
  rw [e, u32_xor_nat _ _ (rorN_lt h) (rorN_lt h), u32_xor_nat _ _ (Nat.xor_lt_two_pow (n := 32) (rorN_lt h) (rorN_lt h)) (by omega)]
  rfl
theorem sig1_form {x : Nat} (h : x < 4294967296) : bits BinOp.xor IntKind.u32 (bits BinOp.xor IntKind.u32 (rorN 17 x : Int) (rorN 19 x : Int)) ((x : Int) / 1024) = ((sig1 x : Nat) : Int) := by
  have e : (x : Int) / 1024 = ((x / 1024 : Nat) : Int) := by omega
  rw [e, u32_xor_nat _ _ (rorN_lt h) (rorN_lt h), u32_xor_nat _ _ (Nat.xor_lt_two_pow (n := 32) (rorN_lt h) (rorN_lt h)) (by omega)]
  rfl
theorem sum4_form (a b c d : Nat) : ((a : Int) + (b : Int) + (c : Int) + (d : Int)) % 4294967296 = (((a + b + c + d) % 4294967296 : Nat) : Int) := by omega
theorem blk_arr_cell {w : World} {g n : Nat} {t : TypeId} {f : Nat → Nat} (h : w.heap[g]? = some (.cells (wcells f n).toArray t (0, 0))) {i : Nat} (hi : i < n) : w.cell? ⟨g, i, none⟩ = some (.int .u32 (f i : Int)) :=
  cell_of_block h (by rw [List.getElem?_toArray]; exact wcells_get hi)
theorem blk_arr_set {w : World} {g n : Nat} {t : TypeId} {f : Nat → Nat} (h : w.heap[g]? = some (.cells (wcells f n).toArray t (0, 0))) (i x : Nat) : (w.setCell ⟨g, i, none⟩ (.int .u32 (x : Int))).heap[g]? = some (.cells (wcells (upd f i x) n).toArray t (0, 0)) := by
  rw [block_setCell h, List.setIfInBounds_toArray, wcells_set]
theorem below_setRow {b : Nat} {w w' : World} (h : Below b w w') {g : Nat} (hg : b ≤ g) (c : Array Value) : Below b w (w'.setRow g c) :=
  ⟨h.os, h.tape, h.output, by simpa using h.size, fun k hk => by rw [setRow_other _ _ _ _ (by omega)]; exact h.block k hk⟩
set_option maxRecDepth 20000 in
set_option maxHeartbeats 1000000 in
theorem spread_any (B : Nat → Nat) (hB : ∀ i, B i < 256) (w : World) :
    Calls Tryd.prog 60 #[.agg (bcells B 64).toArray] w fun e w' => e = .returned (.agg (wcells (wordsOf B) 64).toArray) ∧ Below w.heap.size w w' := by
  go_enter Tryd.func60, Tryd.ntmps60
  go_wp2_with (first
    | refine wpList_alloc_row rfl 87 rfl _ _ zero53 ?_
    | refine wpList_load_mid rfl 83 (.tmp 1) rfl _ 0 rfl _ [] (bcells B 64) [] _ _ (by rw [List.nil_append, List.append_nil]; exact blk_old (blk_old (block_alloc_at _ _) _) _) rfl Tryd.underlying83 rfl (by rw [bcells_length]; exact size49) ?_)
  go_loopw [12] (fun i wr => ∃ k : Nat, k ≤ 64 ∧ i = .int .i64 k ∧ wr.heap[w.heap.size + 1 + 1]? = some (.cells (wcells (w1 B k) 64).toArray 87 (0, 0)) ∧ wr.heap[w.heap.size + 1]? = some (.cells (wcells (fun _ => 0) 64).toArray 87 (0, 0)) ∧ Below w.heap.size w wr) (fun i _ => 64 - (intOf i).toNat)
  case atStart => exact ⟨0, by omega, rfl, show _ = some (Obj.cells (wcells (fun _ => 0) 64).toArray 87 (0, 0)) by simpa [go_sem] using block_alloc_at ((w.alloc (.cells (bcells B 64).toArray 83)).alloc (.cells (wcells (fun _ => 0) 64).toArray 87)) (.cells (wcells (fun _ => 0) 64).toArray 87), by simpa using blk_old (block_alloc_at (w.alloc _) _) _, (((Below.refl _ _).alloc (Nat.le_refl _) _).alloc (by simp) _).alloc (by simp; omega) _⟩
  case round =>
    obtain ⟨k, hk, rfl, h3, h2, hbel⟩ := hrel
    by_cases hlt : k < 64
    · have c3 := blk_arr_cell h3 (i := k / 4) (by omega)
      have f3 := free_of_block h3 (k / 4)
      have hv := run_index49 wr (bcells B 64).toArray k (.int .u8 (B k : Int)) hlt (by rw [List.getElem?_toArray]; exact bcells_get hlt)
      go_wp2_with fail
      rw [in_word (w1_small hB k _) (hB k)]
      exact ⟨⟨k + 1, by omega, by go_num, blk_arr_set h3 _ _, by rw [Below.heap_setCell _ _ _ _ (by simp)]; exact h2, hbel.setCell (by simp; omega) _⟩, by simp [intOf]; omega⟩
    · obtain rfl : k = 64 := by omega
      have HF : Hid (Small (w1 B 64)) := w1_small hB 64
      obtain ⟨F, hF⟩ : ∃ F, w1 B 64 = F := ⟨_, rfl⟩
      rw [hF] at h3 HF
      have HFF : Hid (wordsOf B = w2 F 48) := by show _ = _; rw [wordsOf, hF]
      clear hF
      rw [show ((64 : Nat) : Int) = 64 from rfl]
      go_wp2_with fail
      go_loopw [6] (fun i wr => ∃ k : Nat, k ≤ 48 ∧ i = .int .i64 ((16 + k : Nat) : Int) ∧ wr.heap[w.heap.size + 1 + 1]? = some (.cells (wcells (w2 F k) 64).toArray 87 (0, 0)) ∧ wr.heap[w.heap.size + 1]? = some (.cells (wcells (fun _ => 0) 64).toArray 87 (0, 0)) ∧ Below w.heap.size w wr) (fun i _ => 64 - (intOf i).toNat)
      case atStart => exact ⟨0, by omega, rfl, h3, h2, hbel⟩
      case round =>
        clear h3 h2 hbel
        obtain ⟨k, hk, rfl, h3, h2, hbel⟩ := hrel
        obtain ⟨G, hG⟩ : ∃ G, w2 F k = G := ⟨_, rfl⟩
        have HG : Hid (Small G) := by rw [← hG]; exact w2_small HF.out k
        have HGG : Hid (w2 F k = G) := hG
        rw [hG] at h3
        clear hG
        by_cases hlt : k < 48
        · have c15 := blk_arr_cell h3 (i := 16 + k - 15) (by omega)
          have c2 := blk_arr_cell h3 (i := 16 + k - 2) (by omega)
          go_wp2_with fail
          go_quiet (fail)
          go_wp2_with (first
            | (go_at_call_of 70 (Value.int .i64 7); refine (ror7 (HG.out _) _).mono ?_; rintro e w' ⟨rfl, rfl⟩)
            | (go_at_call_of 70 (Value.int .i64 18); refine (ror18 (HG.out _) _).mono ?_; rintro e w' ⟨rfl, rfl⟩)
            | (go_at_call_of 70 (Value.int .i64 17); refine (ror17 (HG.out _) _).mono ?_; rintro e w' ⟨rfl, rfl⟩)
            | (go_at_call_of 70 (Value.int .i64 19); refine (ror19 (HG.out _) _).mono ?_; rintro e w' ⟨rfl, rfl⟩))
          have c7 := blk_arr_cell h3 (i := 16 + k - 7) (by omega)
          have c16 := blk_arr_cell h3 (i := 16 + k - 16) (by omega)
          have c16k := blk_arr_cell h3 (i := k) (by omega)
          have c0 := blk_arr_cell h3 (i := 16 + k) (by omega)
          have f0 := free_of_block h3 (16 + k)
          go_region
          go_wp2_with fail
          rw [sig0_form (HG.out _), sig1_form (HG.out _), sum4_form]
          have hnx : (sig1 (G (16 + k - 2)) + G (16 + k - 7) + sig0 (G (16 + k - 15)) + G k) % 4294967296 = nextW G (16 + k) := by rw [nextW, Nat.add_sub_cancel_left]
          rw [hnx]
          refine ⟨⟨k + 1, by omega, by go_num, ?_, ?_, ?_⟩, by simp [intOf]; omega⟩
          · rw [w2, HGG.out]
            exact blk_arr_set (w := wr.drewN (nq + 1)) h3 _ _
          · rw [Below.heap_setCell _ _ _ _ (by simp)]
            exact h2
          · exact Below.setCell (w := wr.drewN (nq + 1)) ⟨hbel.os, hbel.tape, hbel.output, hbel.size, hbel.block⟩ (by simp; omega) _
        · obtain rfl : k = 48 := by omega
          go_wp2_with (first
            | refine wpList_load_mid rfl 87 (.tmp 3) rfl _ 0 rfl _ [] (wcells G 64) [] _ _ (by rw [List.nil_append, List.append_nil]; exact h3) rfl Tryd.underlying87 rfl (by rw [wcells_length]; exact size53) ?_
            | refine wpList_store_mid rfl 87 (.tmp 2) (.tmp 71) rfl _ 0 (wcells G 64) rfl rfl _ [] _ [] (by rw [List.nil_append, List.append_nil]; exact h2) rfl (by rw [wcells_length]; exact size53) (by simp [wcells_length]) (wcells_one _ _) ?_)
          rw [List.nil_append, List.append_nil]
          have h5 := setRow_heap wr (w.heap.size + 1) _ (wcells G 64).toArray 87 (0, 0) h2
          refine bodyPost_ret (v := .agg (wcells G 64).toArray) (results_cell_row rfl _ _ (w.heap.size + 1) 87 _ (0, 0) _ rfl h5 Tryd.underlying87 rfl (by rw [List.size_toArray, wcells_length]; exact size53)) rfl ⟨?_, ?_⟩
          · rw [HFF.out, HGG.out]
          · exact below_setRow hbel (by omega) _
end Go.Proofs.YtedibkcempcpnaaDoor
