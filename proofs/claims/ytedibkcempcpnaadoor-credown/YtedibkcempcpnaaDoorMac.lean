/-
  The contracts of masked and Mac.
-/
import Derived.Test.YtedibkcempcpnaaDoorHex
namespace Go.Proofs.YtedibkcempcpnaaDoor
open Go.RowKit
theorem sha_len (s : ByteArray) : (sha s).length = 32 := by rw [sha, sumOf, outOf_len]
/-- A key's bytes, with noughts behind them. -/
def keyAt (l : List UInt8) (i : Nat) : Nat := (l.getD i 0).toNat
theorem keyAt_lt (l : List UInt8) (i : Nat) : keyAt l i < 256 := (l.getD i 0).toNat_lt
/-- The bytes exclusive or a mask. -/
def maskFrom (m : Nat) (f : Nat → Nat) : Nat → Nat → Nat
  | 0 => f
  | k + 1 => upd (maskFrom m f k) k (maskFrom m f k k ^^^ m)
theorem maskFrom_lt {m : Nat} (hm : m < 256) {f : Nat → Nat} (hf : ∀ i, f i < 256) : ∀ k i, maskFrom m f k i < 256
  | 0, i => hf i
  | k + 1, i => by
    rw [maskFrom, upd]
    split
    · exact Nat.xor_lt_two_pow (n := 8) (maskFrom_lt hm hf k k) hm
    · exact maskFrom_lt hm hf k i
def maskB (m : Nat) (l : List UInt8) : List UInt8 := (List.range 64).map fun i => UInt8.ofNat (maskFrom m (keyAt l) 64 i)
theorem slice49_all (w : World) (b : Nat) : Sem.run Tryd.prog (Instr.sliceAt 83 (.pointer (some ⟨b, 0, none⟩)) none none none) w = .ok (.slice (some ⟨b, 0, none⟩) 64 64) w := by
  simp [Instr.sliceAt, Instr.sureAddr, run_underlying Tryd.underlying83, Instr.sliceBounds, go_sem]
theorem key_cells (s : ByteArray) (n : Nat) (hn : n = Nat.min s.size 64) : (bcells (fun _ => 0) 64).take 0 ++ ((bys s).take n).map bval ++ (bcells (fun _ => 0) 64).drop (0 + n) = if s.size ≤ 64 then bcells (keyAt s.data.toList) 64 else (bcells (fun _ => 0) 64).take 0 ++ ((bys s).take n).map bval ++ (bcells (fun _ => 0) 64).drop (0 + n) := by
  split
  · rename_i hle
    have hn' : n = s.size := by rw [hn]; exact Nat.min_eq_left hle
    subst hn'
    apply List.ext_getElem?
    intro k
    rw [List.take_zero, List.nil_append, Nat.zero_add]
    have hlen : ((bys s).take s.size).length = s.size := by rw [List.length_take, bys_length]; omega
    have hdl : s.data.toList.length = s.size := by simp
    by_cases hk : k < s.size
    · rw [List.getElem?_append_left (by rw [List.length_map]; omega), bcells_get (by omega), List.getElem?_map, List.getElem?_take_of_lt hk]
      simp only [bys, List.getElem?_map, keyAt, List.getD_eq_getElem?_getD]
      rw [List.getElem?_eq_getElem (by omega)]
      rfl
    · rw [List.getElem?_append_right (by rw [List.length_map]; omega), List.length_map, hlen, List.getElem?_drop, show s.size + (k - s.size) = k by omega]
      by_cases h64 : k < 64
      · rw [bcells_get h64, bcells_get h64]
        simp only [keyAt, List.getD_eq_getElem?_getD]
        rw [List.getElem?_eq_none (by omega)]
        rfl
      · simp [bcells, h64]
  · rfl
set_option maxRecDepth 20000 in
set_option maxHeartbeats 2000000 in
theorem masked_any (s : ByteArray) (m : Nat) (hm : m < 256) (hs : s.size ≤ 64) (w : World) : Calls Tryd.prog 49 #[.string s, .int .u8 m] w fun e w' => e = .returned (.string ⟨(maskB m s.data.toList).toArray⟩) ∧ Below w.heap.size w w' := by
  obtain ⟨n, hn⟩ : ∃ n, n = Nat.min s.size 64 := ⟨_, rfl⟩
  have hn1 : n ≤ 64 := by rw [hn]; exact Nat.min_le_right _ _
  have HN : Hid _ := hn
  clear hn
  have hsl := fun W => slice49_all W w.heap.size
  have hcp := run_copy_str (P := Tryd.prog) (w.alloc (.cells (bcells (fun _ => 0) 64).toArray 83)) 37 9 3 5 w.heap.size 0 64 64 s (bcells (fun _ => 0) 64) 83 n Tryd.underlying37 size5 (block_alloc_at _ _) HN.out (by rw [bcells_length]; omega)
  rw [key_cells s n HN.out, if_pos hs] at hcp
  have h1 : ((w.alloc (.cells (bcells (fun _ => 0) 64).toArray 83)).setRow w.heap.size (bcells (keyAt s.data.toList) 64).toArray).heap[w.heap.size]? = some (.cells (bcells (keyAt s.data.toList) 64).toArray 83 (0, 0)) := setRow_heap _ _ _ _ 83 (0, 0) (block_alloc_at _ _)
  have B1 : Below w.heap.size w ((w.alloc (.cells (bcells (fun _ => 0) 64).toArray 83)).setRow w.heap.size (bcells (keyAt s.data.toList) 64).toArray) := below_setRow ((Below.refl _ _).alloc (Nat.le_refl _) _) (Nat.le_refl _) _
  go_enter Tryd.func49, Tryd.ntmps49
  go_wp2_with (refine wpList_alloc_row rfl 83 rfl _ _ zero49 ?_)
  clear hcp
  generalize (w.alloc (.cells (bcells (fun _ => 0) 64).toArray 83)).setRow w.heap.size (bcells (keyAt s.data.toList) 64).toArray = w1 at *
  go_loopw [10] (fun i wr => ∃ k : Nat, k ≤ 64 ∧ i = .int .i64 k ∧ wr.heap[w.heap.size]? = some (.cells (bcells (maskFrom m (keyAt s.data.toList) k) 64).toArray 83 (0, 0)) ∧ Below w.heap.size w wr) (fun i _ => 64 - (intOf i).toNat)
  case atStart => exact ⟨0, by omega, rfl, h1, B1⟩
  case round =>
    clear h1 B1
    obtain ⟨k, hk, rfl, h3, hbel⟩ := hrel
    have HL := fun i => maskFrom_lt hm (keyAt_lt s.data.toList) k i
    obtain ⟨G, hG⟩ : ∃ G, maskFrom m (keyAt s.data.toList) k = G := ⟨_, rfl⟩
    have HG : Hid (maskFrom m (keyAt s.data.toList) k = G) := hG
    rw [hG] at h3 HL
    have HL' : Hid (∀ i, G i < 256) := HL
    clear hG HL
    by_cases hlt : k < 64
    · have c3 := blk_b_cell h3 hlt
      have f3 := free_of_block h3 k
      have hx : bits BinOp.xor IntKind.u8 (G k : Int) (m : Int) = ((G k ^^^ m : Nat) : Int) := u8_xor_nat (G k) m (HL'.out k) hm
      obtain ⟨y, hy⟩ : ∃ y, G k ^^^ m = y := ⟨_, rfl⟩
      rw [hy] at hx
      have HY : Hid _ := hy
      clear hy
      go_wp2_with fail
      exact ⟨⟨k + 1, by omega, by go_num, by rw [maskFrom, HG.out, HY.out]; exact blk_b_set h3 k y, hbel.setCell (Nat.le_refl _) _⟩, by simp [intOf]; omega⟩
    · obtain rfl : k = 64 := by omega
      have hcv := conv_block h3 HL'.out 64
      have HC : Hid (((List.range 64).map fun i => UInt8.ofNat (G i)) = maskB m s.data.toList) := by show _ = _; rw [maskB, HG.out]
      rw [HC.out] at hcv
      go_wp2_with fail
      go_ret
      exact ⟨rfl, hbel⟩
/-- HMAC, of a key of at most 64 bytes. -/
def macB (k : List UInt8) (text : ByteArray) : List UInt8 := sha (⟨(maskB 92 k).toArray⟩ ++ ⟨(sumOf (absorbAll (absorbAll fresh (bys ⟨(maskB 54 k).toArray⟩)) (bys text))).toArray⟩)
theorem maskB_len (m : Nat) (l : List UInt8) : (maskB m l).length = 64 := by simp [maskB]
theorem sumOf_len (h : HS) : (sumOf h).length = 32 := by rw [sumOf, outOf_len]
theorem mk_size (l : List UInt8) : (⟨l.toArray⟩ : ByteArray).size = l.length := by simp [ByteArray.size]
theorem mac_len (k : List UInt8) (text : ByteArray) : (macB k text).length = 32 := by rw [macB, sha_len]
set_option maxRecDepth 20000 in
set_option maxHeartbeats 2000000 in
theorem mac_short (key text : ByteArray) (w : World) (hK : GK w) (hk : key.size ≤ 64) (ht : text.size ≤ 140737488355328) :
    Calls Tryd.prog 25 #[.string key, .string text] w fun e w' => e = .returned (.string ⟨(macB key.data.toList text).toArray⟩) ∧ Below w.heap.size w w' := by
  have HK : Hid (GK w) := hK
  clear hK
  have hpos := HK.out.1
  go_enter Tryd.func25, Tryd.ntmps25
  go_wp2_with fail
  refine (new_any w).mono ?_
  rintro e1 w1 ⟨rfl, q1, k1⟩
  have HK1 : Hid (GK w1) := HK.out.kept k1 (fun f => f)
  have z1 := k1.size
  go_wp2_with fail
  refine (masked_any key 54 (by decide) hk w1).mono ?_
  rintro e2 w2 ⟨rfl, B2⟩
  have q2 := below_his' q1 B2 q1.lt
  have HK2 : Hid (GK w2) := HK1.out.below B2
  have z2 := B2.size
  go_wp2_with fail
  refine (write_any _ fresh w.heap.size w2 q2 (by omega) HK2.out (by rw [mk_size, maskB_len]; decide)).mono ?_
  rintro e3 w3 ⟨rfl, q3, k3⟩
  have HK3 : Hid (GK w3) := HK2.out.kept k3 (by omega)
  have z3 := k3.size
  go_wp2_with fail
  refine (write_any text _ w.heap.size w3 q3 (by omega) HK3.out (by rw [absorbAll_z, bys_length, mk_size, maskB_len]; show 0 + 64 + text.size ≤ _; omega)).mono ?_
  rintro e4 w4 ⟨rfl, q4, k4⟩
  have HK4 : Hid (GK w4) := HK3.out.kept k4 (by omega)
  have z4 := k4.size
  have B4 : Below w.heap.size w w4 := (((k1.below (Nat.le_refl _) (fun _ f => f.elim)).trans (B2.mono (by omega))).trans (k3.below (by omega) (fun i hi => by rw [hi]; exact Nat.le_refl _))).trans (k4.below (by omega) (fun i hi => by rw [hi]; exact Nat.le_refl _))
  clear q1 q2 q3 k1 k3 k4 B2
  go_wp2_with fail
  refine (masked_any key 92 (by decide) hk w4).mono ?_
  rintro e5 w5 ⟨rfl, B5⟩
  have q5 := below_his' q4 B5 q4.lt
  have HK5 : Hid (GK w5) := HK4.out.below B5
  have z5 := B5.size
  go_wp2_with fail
  refine (hsum_any w.heap.size _ w5 q5 HK5.out (by rw [absorbAll_z, absorbAll_z, bys_length, bys_length, mk_size, maskB_len]; show 0 + 64 + text.size + 200 ≤ _; omega)).mono ?_
  rintro e6 w6 ⟨rfl, B6⟩
  have HK6 : Hid (GK w6) := HK5.out.below B6
  have z6 := B6.size
  have hl1 := maskB_len 92 key.data.toList
  have hl2 := sumOf_len (absorbAll (absorbAll fresh (bys ⟨(maskB 54 key.data.toList).toArray⟩)) (bys text))
  go_wp2_with fail
  refine (sum_any _ w6 HK6.out (by rw [ByteArray.size_append, mk_size, mk_size, hl1, hl2]; decide)).mono ?_
  rintro e7 w7 ⟨rfl, B7⟩
  have HB : Hid (Below w.heap.size w w7) := ((B4.trans (B5.mono (by omega))).trans (B6.mono (by omega))).trans (B7.mono (by omega))
  go_wp2_with fail
  go_ret
  exact ⟨rfl, HB.out⟩
end Go.Proofs.YtedibkcempcpnaaDoor
