/-
  The contract of the twin's Sum: a text's SHA-256.
-/
import Derived.Test.YtedibkcempcpnaaDoorRefNum
namespace Go.Proofs.YtedibkcempcpnaaDoor
open Go.RowKit
theorem hrow (w : World) : (((w.alloc (.cells (wcells (fun _ => 0) 8).toArray 81)).setRow w.heap.size (wcells h0 8).toArray)).heap[w.heap.size]? = some (.cells (wcells h0 8).toArray 81 (0, 0)) :=
  setRow_heap _ _ _ _ 81 (0, 0) (block_alloc_at _ _)
theorem set8 {w : World} {g : Nat} {st R : Nat → Nat} (h : w.heap[g]? = some (.cells (wcells st 8).toArray 81 (0, 0))) : ((((((((w.setCell ⟨g, 0, none⟩ (.int .u32 (R 0 : Int))).setCell ⟨g, 1, none⟩ (.int .u32 (R 1 : Int))).setCell ⟨g, 2, none⟩ (.int .u32 (R 2 : Int))).setCell ⟨g, 3, none⟩ (.int .u32 (R 3 : Int))).setCell ⟨g, 4, none⟩ (.int .u32 (R 4 : Int))).setCell ⟨g, 5, none⟩ (.int .u32 (R 5 : Int))).setCell ⟨g, 6, none⟩ (.int .u32 (R 6 : Int))).setCell ⟨g, 7, none⟩ (.int .u32 (R 7 : Int))).heap[g]? = some (.cells (wcells R 8).toArray 81 (0, 0)) :=
  (blk_arr_set (blk_arr_set (blk_arr_set (blk_arr_set (blk_arr_set (blk_arr_set (blk_arr_set (blk_arr_set h 0 (R 0)) 1 (R 1)) 2 (R 2)) 3 (R 3)) 4 (R 4)) 5 (R 5)) 6 (R 6)) 7 (R 7))
theorem bel8 {b g : Nat} {a w : World} {R : Nat → Nat} (hb : Below b a w) (hg : b ≤ g) : Below b a ((((((((w.setCell ⟨g, 0, none⟩ (.int .u32 (R 0 : Int))).setCell ⟨g, 1, none⟩ (.int .u32 (R 1 : Int))).setCell ⟨g, 2, none⟩ (.int .u32 (R 2 : Int))).setCell ⟨g, 3, none⟩ (.int .u32 (R 3 : Int))).setCell ⟨g, 4, none⟩ (.int .u32 (R 4 : Int))).setCell ⟨g, 5, none⟩ (.int .u32 (R 5 : Int))).setCell ⟨g, 6, none⟩ (.int .u32 (R 6 : Int))).setCell ⟨g, 7, none⟩ (.int .u32 (R 7 : Int))) :=
  (Below.setCell (Below.setCell (Below.setCell (Below.setCell (Below.setCell (Below.setCell (Below.setCell (Below.setCell hb (p := ⟨g, 0, none⟩) hg (.int .u32 (R 0 : Int))) (p := ⟨g, 1, none⟩) hg (.int .u32 (R 1 : Int))) (p := ⟨g, 2, none⟩) hg (.int .u32 (R 2 : Int))) (p := ⟨g, 3, none⟩) hg (.int .u32 (R 3 : Int))) (p := ⟨g, 4, none⟩) hg (.int .u32 (R 4 : Int))) (p := ⟨g, 5, none⟩) hg (.int .u32 (R 5 : Int))) (p := ⟨g, 6, none⟩) hg (.int .u32 (R 6 : Int))) (p := ⟨g, 7, none⟩) hg (.int .u32 (R 7 : Int)))
theorem w1_congr {B B' : Nat → Nat} : ∀ n, (∀ i, i < n → B i = B' i) → w1 B n = w1 B' n
  | 0, _ => rfl
  | n + 1, h => by rw [w1, w1, w1_congr n (fun i hi => h i (by omega)), h n (by omega)]
theorem comp_congr {st B B' : Nat → Nat} (h : ∀ i, i < 64 → B i = B' i) : comp st B = comp st B' := by
  unfold comp wordsOf
  rw [w1_congr 64 h]
theorem absorb_block {A : ByteArray} {k : Nat} (h : 64 * k + 64 ≤ A.size) {st : Nat → Nat} (hst : st = (absorbAll fresh ((bys A).take (64 * k))).st) :
    comp st (byteAt (A.extract (64 * k) (64 * k + 64))) = (absorbAll fresh ((bys A).take (64 * (k + 1)))).st := by
  obtain ⟨l, hl⟩ : ∃ l, ((bys A).drop (64 * k)).take 64 = l := ⟨_, rfl⟩
  have hbl := bys_length A
  have hll : l.length = 64 := by rw [← hl, List.length_take, List.length_drop]; omega
  have e1 : (bys A).take (64 * (k + 1)) = (bys A).take (64 * k) ++ l := by
    rw [← hl, show 64 * (k + 1) = 64 * k + 64 by omega, List.take_add]
  rw [e1, absorbAll_append]
  generalize hX : absorbAll fresh ((bys A).take (64 * k)) = X at *
  have hXz : X.z = 64 * k := by
    rw [← hX, absorbAll_z, List.length_take]
    show 0 + _ = _
    omega
  rw [absorb_fill l X (by omega) (by intro e; rw [e] at hll; simp at hll)]
  show _ = if (X.z + l.length) % 64 = 0 then comp X.st (put X.bl (X.z % 64) l) else X.st
  rw [if_pos (by omega), hst, show X.z % 64 = 0 by omega]
  apply comp_congr
  intro i hi
  rw [put_get, if_pos (by omega), Nat.sub_zero, ← hl, byteAt]
  rw [ByteArray.data_extract, Array.toList_extract, List.extract_eq_take_drop, show 64 * k + 64 - 64 * k = 64 by omega, bys]
  rw [← List.map_drop, ← List.map_take, List.getD_eq_getElem?_getD, List.getD_eq_getElem?_getD, List.getElem?_map]
  cases (((A.data.toList.drop (64 * k)).take 64)[i]?) <;> rfl
theorem sha_all {s A : ByteArray} (h : A.data.toList = s.data.toList ++ padBytes s.size) : outOf (absorbAll fresh (bys A)).st 8 = sha s := by
  rw [sha, sumOf, absorbAll_z, bys_length, show fresh.z + s.size = s.size from Nat.zero_add _, ← absorbAll_append]
  congr 3
  simp only [bys, h, List.map_append]
theorem below_undrew' {w w' : World} (B : Below w.drew.heap.size w.drew w') : Below w.heap.size w w' := ⟨B.os, B.tape, B.output, B.size, B.block⟩
set_option maxRecDepth 20000 in
set_option maxHeartbeats 2000000 in
theorem refSum_any (s : ByteArray) (w : World) (hs : s.size ≤ 140737488355264) :
    Calls Tryd.prog 51 #[.string s] w fun e w' => e = .returned (.string ⟨(sha s).toArray⟩) ∧ Below w.heap.size w w' := by
  obtain ⟨i0, hi, hz0, hz1, hz2⟩ := info_parts info5
  have hcv : ∀ W, _ := fun W => Lib.run_convert_string_bytes (P := Tryd.prog) W 9 37 5 s Tryd.underlying9 Tryd.underlying37 Tryd.underlying5
  have HO : Hid (OwnZ (Lib.bytesWorld ((w.alloc (.cells (wcells (fun _ => 0) 8).toArray 81)).setRow w.heap.size (wcells h0 8).toArray) 5 s) (w.heap.size + 1) (w.heap.size + 1) (grownCap ((w.alloc (.cells (wcells (fun _ => 0) 8).toArray 81)).setRow w.heap.size (wcells h0 8).toArray) s.size 0 5) s.data.toList) := by
    have := OwnZ.new ((w.alloc (.cells (wcells (fun _ => 0) 8).toArray 81)).setRow w.heap.size (wcells h0 8).toArray) s (by unfold maxLen; omega)
    rw [show (((w.alloc (.cells (wcells (fun _ => 0) 8).toArray 81)).setRow w.heap.size (wcells h0 8).toArray)).heap.size = w.heap.size + 1 by simp] at this
    exact this
  have HB1 : Hid (Below w.heap.size w (Lib.bytesWorld ((w.alloc (.cells (wcells (fun _ => 0) 8).toArray 81)).setRow w.heap.size (wcells h0 8).toArray) 5 s)) := (below_setRow ((Below.refl _ w).alloc (Nat.le_refl _) _) (Nat.le_refl _) _).trans ((bytes_below ((w.alloc (.cells (wcells (fun _ => 0) 8).toArray 81)).setRow w.heap.size (wcells h0 8).toArray) s).mono (by simp))
  have HS1 : Hid ((Lib.bytesWorld ((w.alloc (.cells (wcells (fun _ => 0) 8).toArray 81)).setRow w.heap.size (wcells h0 8).toArray) 5 s).heap.size = w.heap.size + 1 + 1) := by rw [Hid, Lib.bytesWorld_size]; simp
  have HH : Hid ((Lib.bytesWorld ((w.alloc (.cells (wcells (fun _ => 0) 8).toArray 81)).setRow w.heap.size (wcells h0 8).toArray) 5 s).heap[w.heap.size]? = some (.cells (wcells h0 8).toArray 81 (0, 0))) := by
    rw [Hid, Lib.bytesWorld_at_old _ _ _ _ (by simp)]; exact hrow w
  have hkl : s.data.toList.length = s.size := by simp
  have HKL : Hid _ := hkl
  clear hkl
  go_enter Tryd.func51, Tryd.ntmps51
  go_wp2_with (first
    | refine wpList_build_eq rfl 81 _ rfl (wcells h0 8).toArray (by kernel_rfl) ?_
    | refine wpList_alloc_row rfl 81 rfl _ _ zero42 ?_
    | refine wpList_store_mid rfl 81 (.tmp 3) (.tmp 10) rfl w.heap.size 0 (wcells h0 8) rfl rfl 81 [] (wcells (fun _ => 0) 8) [] (by rw [List.nil_append, List.append_nil]; exact block_alloc_at _ _) rfl (by rw [wcells_length]; exact size42) (by rw [wcells_length, wcells_length]) (wcells_one _ _) ?_
    | (at_builtin; go_loud (refine wpList_append_Z rfl (.tmp 12) (.tmp 13) rfl i0 hi hz0 hz1 hz2 (HO.out.alloc _) rfl ⟨(Lib.bytesWorld ((w.alloc (.cells (wcells (fun _ => 0) 8).toArray 81)).setRow w.heap.size (wcells h0 8).toArray) 5 s).heap.size, 0, none⟩ 128 1 rfl (new_cells _ (cellsOf [128]) _) (by have := HKL.out; omega) (by have := HS1.out; simp; omega) ?_)))
  intro g2 cap2 w2 hO2 hgrow2
  have hH2 : w2.heap[w.heap.size]? = some (.cells (wcells h0 8).toArray 81 (0, 0)) :=
    (hgrow2.block w.heap.size (by have := HS1.out; simp; omega) (by simp)).trans (blk_old HH.out _)
  have hB2 : Below w.heap.size w w2 := (HB1.out.alloc HB1.out.size _).grown hgrow2 (by have := HS1.out; simp; omega) (fun i hi => by cases hi; omega)
  have hS2 : w.heap.size + 1 ≤ w2.heap.size := by have := hgrow2.size; have := HS1.out; simp at *; omega
  clear HO HB1 HS1 HH hcv hgrow2
  obtain ⟨z, hz⟩ : ∃ z, (119 - s.size % 64) % 64 = z := ⟨_, rfl⟩
  have HZ : Hid _ := hz
  clear hz
  go_wp2_with fail
  go_loopw [4] (fun v wr => ∃ (j g cap : Nat) (xs : List UInt8), v = .slice (some ⟨g, 0, none⟩) xs.length cap ∧ Hid (xs = s.data.toList ++ (128 :: List.replicate j 0)) ∧ Hid (xs.length = s.size + 1 + j) ∧ Hid (j ≤ z) ∧ OwnZ wr (w.heap.size + 1) g cap xs ∧ wr.heap[w.heap.size]? = some (.cells (wcells h0 8).toArray 81 (0, 0)) ∧ Below w.heap.size w wr ∧ w.heap.size + 1 ≤ wr.heap.size) (fun v _ => match v with | .slice _ l _ => s.size + 1 + z - l | _ => 0)
  case atStart => exact ⟨0, g2, cap2, s.data.toList ++ [128], by simp, rfl, by rw [Hid, List.length_append, HKL.out]; rfl, Nat.zero_le _, hO2, hH2, hB2, hS2⟩
  case round =>
    clear hO2 hH2 hB2 hS2
    obtain ⟨j, g, cap, xs, rfl, HX, HL, HJ, hO, hH, hB, hS⟩ := hrel
    obtain ⟨r, hr⟩ : ∃ r, xs.length % 64 = r := ⟨_, rfl⟩
    have hrem : (xs.length : Int).tmod 64 = (r : Int) := by rw [Int.tmod_eq_emod_of_nonneg (by omega)]; omega
    have HR : Hid _ := hr
    clear hr
    by_cases h56 : r = 56
    · subst h56
      obtain ⟨T, hT⟩ : ∃ T : ByteArray, T = ⟨xs.toArray⟩ := ⟨_, rfl⟩
      have hTs : T.size = xs.length := by rw [hT, mk_size]
      have hTl : T.size ≤ 140737488355328 := by have := HL.out; have := HJ.out; have := HZ.out; omega
      obtain ⟨U, hU⟩ : ∃ U : ByteArray, U = ⟨(be8 (8 * s.size % 18446744073709551616)).toArray⟩ := ⟨_, rfl⟩
      have hUs : U.size = 8 := by rw [hU, mk_size]; rfl
      have hcv0 : (convert 37 9 (.slice (some ⟨g, 0, none⟩) xs.length cap)).run Tryd.prog wr.drew = .ok (.string T) wr.drew := by rw [hT]; exact (OwnZ.kept (w' := wr.drew) hO rfl).conv
      have HCV : Hid (∀ W : World, W.heap[g]? = wr.heap[g]? → (convert 37 9 (.slice (some ⟨g, 0, none⟩) xs.length cap)).run Tryd.prog W = .ok (.string T) W) := by
        rw [Hid, hT]; exact fun W e => (OwnZ.kept (w' := W) hO e).conv
      have HP : Hid (∀ W : World, Calls Tryd.prog 63 #[.int .u64 (IntKind.u64.wrap (IntKind.u64.wrap (s.size : Int) * 8))] W fun r w' => r = .returned (.string U) ∧ Below W.heap.size W w') := by
        rw [Hid, hU]
        intro W
        rw [Nat.mod_eq_of_lt (by omega), show IntKind.u64.wrap (IntKind.u64.wrap (s.size : Int) * 8) = ((8 * s.size : Nat) : Int) by rw [IntKind.wrap_u64, IntKind.wrap_u64]; omega]
        exact rnumber (8 * s.size) W (by omega)
      obtain ⟨A, hA⟩ : ∃ A : ByteArray, A = T ++ U := ⟨_, rfl⟩
      have HA : Hid (A.data.toList = s.data.toList ++ padBytes s.size) := by
        have hj : j = z := by have := HJ.out; have := HL.out; have := HR.out; have := HZ.out; omega
        rw [Hid, hA, ByteArray.data_append, Array.toList_append, hT, hU, padBytes, HZ.out, ← hj]
        show xs ++ _ = _
        rw [HX.out]
        simp
      have hAs : A.size = xs.length + 8 := by rw [hA, ByteArray.size_append, hTs, hUs]
      have HAE : Hid (T ++ U = A) := hA.symm
      have hglt := hO.lt
      clear hT hU hA
      go_wp2_with fail
      go_region_with (go_at_call 63; refine (HP.out _).mono ?_; rintro e5 w5 ⟨rfl, B5⟩; have hB5 : Below wr.heap.size wr w5 := below_undrew' B5; have hcv5 := HCV.out w5 (hB5.block g hglt))
      all_goals
        have hH5 := (hB5.block w.heap.size (by omega)).trans hH
        have hB6 : Below w.heap.size w w5 := hB.trans (hB5.mono hB.size)
        clear hB5 B5 hcv5 hcv0 hH hB hS hO
        rw [HAE.out]
        have hAl : A.size ≤ 140737488355400 := by omega
        have hA64 : A.size % 64 = 0 := by have := HR.out; omega
        clear hAs hTs hUs hTl
        go_wp2_with fail
        go_loopw [6] (fun i wr => ∃ (k : Nat) (st : Nat → Nat), 64 * k ≤ A.size ∧ i = .int .i64 ((64 * k : Nat) : Int) ∧ Hid (st = (absorbAll fresh ((bys A).take (64 * k))).st) ∧ Hid (Small st) ∧ wr.heap[w.heap.size]? = some (.cells (wcells st 8).toArray 81 (0, 0)) ∧ Below w.heap.size w wr) (fun i _ => A.size - (intOf i).toNat)
        case atStart => exact ⟨0, h0, by omega, rfl, rfl, h0_small, hH5, hB6⟩
        case round =>
          clear hH5 hB6
          obtain ⟨k, st, hk, rfl, HST, HSm, hh, hb⟩ := hrel
          by_cases hlt : 64 * k < A.size
          · have hk2 : 64 * k + 64 ≤ A.size := by omega
            obtain ⟨ck, hck⟩ : ∃ ck : ByteArray, A.extract (64 * k) (64 * k + 64) = ck := ⟨_, rfl⟩
            have hcs : ck.size = 64 := by rw [← hck, ByteArray.size_extract]; omega
            have c0 := blk_arr_cell hh (i := 0) (by omega)
            have f0 := free_of_block hh 0
            have c1 := blk_arr_cell hh (i := 1) (by omega)
            have f1 := free_of_block hh 1
            have c2 := blk_arr_cell hh (i := 2) (by omega)
            have f2 := free_of_block hh 2
            have c3 := blk_arr_cell hh (i := 3) (by omega)
            have f3 := free_of_block hh 3
            have c4 := blk_arr_cell hh (i := 4) (by omega)
            have f4 := free_of_block hh 4
            have c5 := blk_arr_cell hh (i := 5) (by omega)
            have f5 := free_of_block hh 5
            have c6 := blk_arr_cell hh (i := 6) (by omega)
            have f6 := free_of_block hh 6
            have c7 := blk_arr_cell hh (i := 7) (by omega)
            have f7 := free_of_block hh 7
            obtain ⟨lo, hlo⟩ : ∃ lo : Nat, 64 * k = lo := ⟨_, rfl⟩
            obtain ⟨up, hup⟩ : ∃ up : Nat, lo + 64 = up := ⟨_, rfl⟩
            have hw : wrap64 ((lo : Int) + 64) = (up : Int) := by unfold wrap64; omega
            have hw2 : IntKind.i64.wrap ((lo : Int) + 64) = (up : Int) := by rw [IntKind.wrap_i64]; omega
            have hup2 : up ≤ A.size := by omega
            have hlo2 : lo ≤ up := by omega
            have hlo3 : lo < A.size := by omega
            have HLO : Hid _ := hlo
            have HUP : Hid _ := hup
            rw [hlo, hup] at hck
            rw [hlo]
            have HCK : Hid _ := hck
            clear hlo hup hk2 hck hlt hk
            obtain ⟨R, hR⟩ : ∃ R, comp st (byteAt ck) = R := ⟨_, rfl⟩
            have HBk : Hid (∀ W : World, Calls Tryd.prog 64 #[.agg #[.int .u32 (st 0 : Int), .int .u32 (st 1 : Int), .int .u32 (st 2 : Int), .int .u32 (st 3 : Int), .int .u32 (st 4 : Int), .int .u32 (st 5 : Int), .int .u32 (st 6 : Int), .int .u32 (st 7 : Int)], .string (A.extract lo up)] W fun e w' => e = .returned (.agg #[.int .u32 (R 0 : Int), .int .u32 (R 1 : Int), .int .u32 (R 2 : Int), .int .u32 (R 3 : Int), .int .u32 (R 4 : Int), .int .u32 (R 5 : Int), .int .u32 (R 6 : Int), .int .u32 (R 7 : Int)]) ∧ Below W.heap.size W w') := by
              intro W
              have := refBlock_any st HSm.out ck hcs W
              rw [hR, ← HCK.out] at this
              exact this
            have HR8 : Hid _ := hR
            clear hR
            have hwlt := (Array.getElem?_eq_some_iff.1 hh).1
            go_wp2_with fail
            go_region_with (go_at_call 64; refine (HBk.out _).mono ?_; rintro e8 w8 ⟨rfl, B8⟩; have hb8 := below_undrew' B8; have hh8 := (hb8.block w.heap.size hwlt).trans hh; have d0 := blk_arr_cell hh8 (i := 0) (by omega); have e0 := free_of_block hh8 0; have d1 := blk_arr_cell hh8 (i := 1) (by omega); have e1 := free_of_block hh8 1; have d2 := blk_arr_cell hh8 (i := 2) (by omega); have e2 := free_of_block hh8 2; have d3 := blk_arr_cell hh8 (i := 3) (by omega); have e3 := free_of_block hh8 3; have d4 := blk_arr_cell hh8 (i := 4) (by omega); have e4 := free_of_block hh8 4; have d5 := blk_arr_cell hh8 (i := 5) (by omega); have e5 := free_of_block hh8 5; have d6 := blk_arr_cell hh8 (i := 6) (by omega); have e6 := free_of_block hh8 6; have d7 := blk_arr_cell hh8 (i := 7) (by omega); have e7 := free_of_block hh8 7; clear B8)
            all_goals
              go_wp2_with fail
              exact ⟨⟨k + 1, R, by have := HLO.out; have := HUP.out; omega, by have := HLO.out; have := HUP.out; rw [show 64 * (k + 1) = up by omega], by
                  rw [Hid, ← HR8.out, ← HCK.out, ← HUP.out, ← HLO.out]
                  exact absorb_block (by have := HLO.out; have := HUP.out; omega) HST.out, by
                  rw [Hid, ← HR8.out]; exact addTo_small HSm.out 8, set8 hh8, bel8 (hb.trans (hb8.mono hb.size)) (Nat.le_refl _)⟩, by have := HUP.out; simp [intOf]; omega⟩
          · obtain ⟨lo, hlo⟩ : ∃ lo : Nat, 64 * k = lo := ⟨_, rfl⟩
            have hloA : lo = A.size := by omega
            have HOUT : Hid (outOf st 8 = sha s) := by
              rw [Hid, HST.out, hlo, hloA, ← bys_length A, List.take_length]
              exact sha_all HA.out
            rw [hlo, hloA]
            have c0 := blk_arr_cell hh (i := 0) (by omega)
            have c1 := blk_arr_cell hh (i := 1) (by omega)
            have c2 := blk_arr_cell hh (i := 2) (by omega)
            have c3 := blk_arr_cell hh (i := 3) (by omega)
            have c4 := blk_arr_cell hh (i := 4) (by omega)
            have c5 := blk_arr_cell hh (i := 5) (by omega)
            have c6 := blk_arr_cell hh (i := 6) (by omega)
            have c7 := blk_arr_cell hh (i := 7) (by omega)
            clear hlo hloA hlt hk
            go_wp2_with fail
            clear c0 c1 c2 c3 c4 c5 c6 c7
            go_loopw [7, 44] (fun v i wr => ∃ k : Nat, ∃ cur : List UInt8, k ≤ 8 ∧ i = .int .i64 k ∧ Hid (cur = outOf st k) ∧ wr.ownsRow w.heap.size 5 1 v cur.length (cellsOf cur) ∧ Below w.heap.size w wr) (fun _ i _ => 8 - (intOf i).toNat)
            case atStart => exact ⟨0, [], by omega, rfl, rfl, World.ownsRow_nil _ _ _ _, hb⟩
            case round =>
              clear hh hb
              obtain ⟨k, cur, hk, rfl, HC, hown, hb⟩ := hrel
              have hsz := hb.size
              obtain ⟨a, cap, rfl⟩ := form_of_row hown
              by_cases hlt8 : k < 8
              · have hv := run_index42 wr #[.int .u32 (st 0 : Int), .int .u32 (st 1 : Int), .int .u32 (st 2 : Int), .int .u32 (st 3 : Int), .int .u32 (st 4 : Int), .int .u32 (st 5 : Int), .int .u32 (st 6 : Int), .int .u32 (st 7 : Int)] k (.int .u32 (st k : Int)) hlt8 (by show (wcells st 8).toArray[k]? = _; rw [List.getElem?_toArray]; exact wcells_get hlt8)
                have HL' : Hid (cur.length = 4 * k) := by show _ = _; rw [HC.out, outOf_len]
                obtain ⟨x, hx⟩ : ∃ x, st k = x := ⟨_, rfl⟩
                have HX : Hid (cur ++ wordBytes x = outOf st (k + 1)) := by show _ = _; rw [outOf, HC.out, hx]
                rw [hx] at hv
                clear hx
                have j1 : (x : Int) / 16777216 % 256 = ((bt (x / 16777216)).toNat : Int) := bt_div x 16777216
                have j2 : (x : Int) / 65536 % 256 = ((bt (x / 65536)).toNat : Int) := bt_div x 65536
                have j3 : (x : Int) / 256 % 256 = ((bt (x / 256)).toNat : Int) := bt_div x 256
                have j4 : (x : Int) % 256 = ((bt x).toNat : Int) := bt_mod x
                go_wp2_with (at_builtin; refine wpList_append_own _ rfl (.tmp 47) (.tmp 59) 37 rfl w.heap.size 5 i0 (.int .u8 0) 1 1 Tryd.underlying37 hi hz0 hz1 hz2 rfl (by decide) _ _ _ rfl (hown.alloc _) ⟨wr.heap.size, 0, none⟩ 4 4 (cellsOf (wordBytes x)) rfl rfl (new_cells _ (cellsOf (wordBytes x)) _) (cellsOf_one _) (by have := HL'.out; unfold maxLen; omega) (by have := HL'.out; omega) (by simp; omega) ?_)
                intro v1 w5 hown1 hgrow _
                obtain ⟨a1, cap1, rfl⟩ := form_of_row hown1
                have HR' : Hid (w5.ownsRow w.heap.size 5 1 (.slice a1 (cur.length + 4) cap1) (cur ++ wordBytes x).length (cellsOf (cur ++ wordBytes x))) := by
                  rw [Hid, cellsOf_append, List.length_append]; exact hown1
                have HB : Hid (Below w.heap.size w w5) := (hb.alloc hsz _).grown hgrow (by simp; omega) (fun i hi => (hown.lt i hi).1)
                clear hown1 hgrow hown
                go_wp2_with fail
                go_roundw
                case rel => exact ⟨k + 1, cur ++ wordBytes x, by omega, by go_num, HX.out, HR'.out, HB.out⟩
                case measure => simp [intOf]; omega
              · obtain rfl : k = 8 := by omega
                have hc := conv_row hown
                have HC' : Hid (cur = sha s) := by show _ = _; rw [HC.out, HOUT.out]
                go_wp2_with fail
                go_ret
                exact ⟨by rw [← HC'.out]; rfl, hb⟩
    · have hne : ¬ ((r : Int) = 56) := by omega
      have HJ2 : Hid (j + 1 ≤ z) := by
        have := HJ.out; have := HL.out; have := HR.out; have := HZ.out
        show _ ≤ _
        omega
      have HX' : Hid (xs ++ [0] = s.data.toList ++ (128 :: List.replicate (j + 1) 0)) := by
        rw [Hid, HX.out, List.append_assoc, List.replicate_succ']
        rfl
      go_wp2_with (at_builtin; refine wpList_append_Z rfl (.tmp 19) (.tmp 20) rfl i0 hi hz0 hz1 hz2 (hO.alloc _) rfl ⟨wr.heap.size, 0, none⟩ 0 1 rfl (new_cells _ (cellsOf [0]) _) (by have := HL.out; have := HJ2.out; have := HZ.out; omega) (by simp; omega) ?_)
      intro g5 cap5 w5 hO5 hgrow
      have hH5 : Hid (w5.heap[w.heap.size]? = some (.cells (wcells h0 8).toArray 81 (0, 0))) := (hgrow.block w.heap.size (by simp; omega) (by have := hO.low; simp; omega)).trans (blk_old hH _)
      have HB : Hid (Below w.heap.size w w5) := (hB.alloc hB.size _).grown hgrow (by simp; omega) (fun i hi => by cases hi; have := hO.low; omega)
      have HS5 : Hid (w.heap.size + 1 ≤ w5.heap.size) := by have := hgrow.size; simp at this; show _ ≤ _; omega
      have HO5 : Hid (OwnZ w5 (w.heap.size + 1) g5 cap5 (xs ++ [0])) := hO5
      clear hgrow hO hO5
      go_wp2_with fail
      go_roundw
      case rel => exact ⟨j + 1, g5, cap5, xs ++ [0], by simp, HX'.out, by have := HL.out; show _ = _; simp; omega, HJ2.out, HO5.out, hH5.out, HB.out, HS5.out⟩
      case measure => have := HL.out; have := HJ2.out; simp; omega
end Go.Proofs.YtedibkcempcpnaaDoor
