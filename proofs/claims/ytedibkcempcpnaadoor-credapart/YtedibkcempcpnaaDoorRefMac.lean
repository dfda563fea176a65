/-
  The contract of the twin's Mac: HMAC of a key and a text.
-/
import Derived.Test.YtedibkcempcpnaaDoorChain
import Derived.Test.YtedibkcempcpnaaDoorMacL
namespace Go.Proofs.YtedibkcempcpnaaDoor
open Go.RowKit
def maskL (m : Nat) (l : List UInt8) (k : Nat) : List UInt8 := (List.range k).map fun i => UInt8.ofNat (keyAt l i ^^^ m)
theorem maskFrom_get (m : Nat) (f : Nat → Nat) : ∀ k i, maskFrom m f k i = if i < k then f i ^^^ m else f i
  | 0, i => by rw [if_neg (by omega)]; rfl
  | k + 1, i => by
    rw [maskFrom, upd]
    by_cases h : i = k
    · subst h
      rw [if_pos rfl, maskFrom_get m f, if_neg (by omega), if_pos (by omega)]
    · rw [if_neg h, maskFrom_get m f k i]
      by_cases h2 : i < k
      · rw [if_pos h2, if_pos (by omega)]
      · rw [if_neg h2, if_neg (by omega)]
theorem maskB_eq (m : Nat) (l : List UInt8) : maskB m l = maskL m l 64 := by
  unfold maskB maskL
  apply List.map_congr_left
  intro i hi
  rw [maskFrom_get, if_pos (List.mem_range.1 hi)]
theorem maskL_succ (m : Nat) (l : List UInt8) (k : Nat) : maskL m l (k + 1) = maskL m l k ++ [UInt8.ofNat (keyAt l k ^^^ m)] := by
  unfold maskL
  rw [List.range_succ, List.map_append]
  rfl
theorem maskL_len (m : Nat) (l : List UInt8) (k : Nat) : (maskL m l k).length = k := by simp [maskL]
/-- Two rows that begin otherwise, or of which one is nil, lie in two blocks. -/
theorem rows_apart' {w : World} {base : Nat} {v1 v2 : Value} {n1 n2 : Nat} {xs ys : List Value} (h1 : w.ownsRow base 5 1 v1 n1 xs) (h2 : w.ownsRow base 5 1 v2 n2 ys) (hne : 0 < n1 → 0 < n2 → xs.head? ≠ ys.head?) (z1 : n1 = 0 → v1 = .slice none 0 0) (z2 : n2 = 0 → v2 = .slice none 0 0) : ∀ i, v1.ownBlock = some i → v2.ownBlock ≠ some i := by
  intro i hi hj
  by_cases p1 : n1 = 0
  · rw [z1 p1] at hi; cases hi
  by_cases p2 : n2 = 0
  · rw [z2 p2] at hj; cases hj
  have hh := hne (by omega) (by omega)
  rcases h1.2 with ⟨rfl, _⟩ | ⟨g, cap, cur, rfl, _, hg, _, _, _, ht⟩
  · cases hi
  · rcases h2.2 with ⟨rfl, _⟩ | ⟨g', cap', cur', rfl, _, hg', _, _, _, ht'⟩
    · cases hj
    · cases hi
      simp only [Value.ownBlock, Option.some.injEq] at hj
      subst hj
      rw [hg] at hg'
      simp only [Option.some.injEq, Obj.cells.injEq, and_true] at hg'
      subst hg'
      rw [← ht, ← ht'] at hh
      apply hh
      rw [Nat.mul_one, Nat.mul_one]
      obtain ⟨m1, rfl⟩ : ∃ m, n1 = m + 1 := ⟨n1 - 1, by omega⟩
      obtain ⟨m2, rfl⟩ : ∃ m, n2 = m + 1 := ⟨n2 - 1, by omega⟩
      cases cur.toList <;> rfl
theorem row_below {w w' : World} {base n : Nat} {v : Value} {xs : List Value} (h : w.ownsRow base 5 1 v n xs) (B : Below w.heap.size w w') : w'.ownsRow base 5 1 v n xs := by
  refine ⟨h.1, ?_⟩
  rcases h.2 with q | ⟨g, cap, cur, rfl, hb, hh, r⟩
  · exact Or.inl q
  · exact Or.inr ⟨g, cap, cur, rfl, hb, (B.block g (lt_of_block hh)).trans hh, r⟩
theorem row_grown {w w' : World} {base n : Nat} {v u : Value} {xs : List Value} (h : w.ownsRow base 5 1 v n xs) (hg : w.grownBy w' u.ownBlock) (hne : ∀ i, v.ownBlock = some i → u.ownBlock ≠ some i) : w'.ownsRow base 5 1 v n xs := by
  refine ⟨h.1, ?_⟩
  rcases h.2 with q | ⟨g, cap, cur, rfl, hb, hh, r⟩
  · exact Or.inl q
  · exact Or.inr ⟨g, cap, cur, rfl, hb, (hg.block g (lt_of_block hh) (fun e => hne g rfl e.symm)).trans hh, r⟩
theorem xor_ne (x : Nat) (hx : x < 256) : UInt8.ofNat (x ^^^ 54) ≠ UInt8.ofNat (x ^^^ 92) := by
  intro e
  have e' := congrArg UInt8.toNat e
  have h1 : x ^^^ 54 < 256 := Nat.xor_lt_two_pow (n := 8) hx (by decide)
  have h2 : x ^^^ 92 < 256 := Nat.xor_lt_two_pow (n := 8) hx (by decide)
  simp only [UInt8.toNat_ofNat'] at e'
  rw [Nat.mod_eq_of_lt h1, Nat.mod_eq_of_lt h2] at e'
  have e2 := congrArg (x ^^^ ·) e'
  simp only [← Nat.xor_assoc, Nat.xor_self, Nat.zero_xor] at e2
  exact absurd e2 (by decide)
theorem mask_heads (l : List UInt8) (k j : Nat) (hk : 0 < k) (hj : 0 < j) : (cellsOf (maskL 54 l k)).head? ≠ (cellsOf (maskL 92 l j)).head? := by
  obtain ⟨k', rfl⟩ : ∃ m, k = m + 1 := ⟨k - 1, by omega⟩
  obtain ⟨j', rfl⟩ : ∃ m, j = m + 1 := ⟨j - 1, by omega⟩
  unfold maskL cellsOf
  rw [List.range_succ_eq_map, List.range_succ_eq_map]
  simp only [List.map_cons, List.head?_cons]
  intro e
  injection e with e
  injection e with _ e
  exact xor_ne _ (keyAt_lt l 0) (UInt8.toNat_inj.1 (by omega))
theorem ofNat_val {x : Nat} (h : x < 256) : ((UInt8.ofNat x).toNat : Int) = (x : Int) := by
  rw [UInt8.toNat_ofNat', Nat.mod_eq_of_lt (by omega)]
theorem jx_of {x m : Nat} (hx : x < 256) (hm : m < 256) : bits BinOp.xor IntKind.u8 (x : Int) (m : Int) = ((UInt8.ofNat (x ^^^ m)).toNat : Int) := by
  rw [u8_xor_nat _ _ hx hm, ofNat_val (Nat.xor_lt_two_pow (n := 8) hx hm)]
/-- The sums that HMAC is made of, as the twin makes them. -/
theorem bys_app (a b : ByteArray) : bys (a ++ b) = bys a ++ bys b := by simp [bys, ByteArray.data_append]
theorem mac_twin (k : List UInt8) (text : ByteArray) : macB k text = sha (⟨(maskB 92 k).toArray⟩ ++ ⟨(sha (⟨(maskB 54 k).toArray⟩ ++ text)).toArray⟩) := by
  have e : sumOf (absorbAll (absorbAll fresh (bys ⟨(maskB 54 k).toArray⟩)) (bys text)) = sha (⟨(maskB 54 k).toArray⟩ ++ text) := by
    rw [sha, bys_app, absorbAll_append]
  rw [macB, e]
set_option maxRecDepth 100000 in
set_option maxHeartbeats 4000000 in
theorem refMac_short (key text : ByteArray) (w : World) (hk : key.size ≤ 64) (ht : text.size ≤ 140737488351232) :
    Calls Tryd.prog 28 #[.string key, .string text] w fun e w' => e = .returned (.string ⟨(macB key.data.toList text).toArray⟩) ∧ Below w.heap.size w w' := by
  obtain ⟨i0, hi, hz0, hz1, hz2⟩ := info_parts info5
  rw [mac_twin, maskB_eq, maskB_eq]
  obtain ⟨l, hl⟩ : ∃ l, key.data.toList = l := ⟨_, rfl⟩
  rw [hl]
  have HKl : Hid (key.data.toList = l) := hl
  clear hl
  go_enter Tryd.func28, Tryd.ntmps28
  go_wp2_with fail
  go_loopw [5, 6, 7] (fun v1 v2 i wr => ∃ (k : Nat) (c1 c2 : List UInt8), k ≤ 64 ∧ i = .int .i64 k ∧ Hid (c1 = maskL 54 l k) ∧ Hid (c2 = maskL 92 l k) ∧ Hid (c1.length = k) ∧ Hid (c2.length = k) ∧ wr.ownsRow w.heap.size 5 1 v1 c1.length (cellsOf c1) ∧ wr.ownsRow w.heap.size 5 1 v2 c2.length (cellsOf c2) ∧ (k = 0 → v1 = .slice none 0 0 ∧ v2 = .slice none 0 0) ∧ Below w.heap.size w wr) (fun _ _ i _ => 64 - (intOf i).toNat)
  case atStart => exact ⟨0, [], [], by omega, rfl, rfl, rfl, rfl, rfl, World.ownsRow_nil _ _ _ _, World.ownsRow_nil _ _ _ _, fun _ => ⟨rfl, rfl⟩, Below.refl _ _⟩
  case round =>
    obtain ⟨k, c1, c2, hk64, rfl, HM1, HM2, HL1, HL2, hown1, hown2, hnil, hb⟩ := hrel
    have hsz := hb.size
    have HH1 : Hid (0 < c2.length → 0 < c1.length → (cellsOf c2).head? ≠ (cellsOf c1).head?) := by
      intro h2 h1
      rw [HL1.out] at h1
      rw [HM1.out, HM2.out]
      exact (mask_heads l k k h1 h1).symm
    have Z1 : Hid (c1.length = 0 → _) := fun h => (hnil (by rw [← HL1.out]; exact h)).1
    have Z2 : Hid (c2.length = 0 → _) := fun h => (hnil (by rw [← HL2.out]; exact h)).2
    clear hnil
    obtain ⟨a1, cap1, rfl⟩ := form_of_row hown1
    obtain ⟨a2, cap2, rfl⟩ := form_of_row hown2
    by_cases hlt : k < 64
    · obtain ⟨e1, he1⟩ : ∃ e1, UInt8.ofNat (keyAt l k ^^^ 54) = e1 := ⟨_, rfl⟩
      obtain ⟨e2, he2⟩ : ∃ e2, UInt8.ofNat (keyAt l k ^^^ 92) = e2 := ⟨_, rfl⟩
      have HC1 : Hid (c1 ++ [e1] = maskL 54 l (k + 1)) := by rw [Hid, maskL_succ, he1, HM1.out]
      have HC2 : Hid (c2 ++ [e2] = maskL 92 l (k + 1)) := by rw [Hid, maskL_succ, he2, HM2.out]
      have HH2 : Hid (0 < (c1 ++ [e1]).length → 0 < c2.length → (cellsOf (c1 ++ [e1])).head? ≠ (cellsOf c2).head?) := by
        intro _ h2
        rw [HL2.out] at h2
        rw [HC1.out, HM2.out]
        exact mask_heads l (k + 1) k (by omega) h2
      by_cases hin : k < key.size
      · have hby : byteAt key k = keyAt l k := by rw [← HKl.out]; rfl
        have r0 := fun W => run_byte key (i := k) (z := (k : Int)) rfl hin W
        rw [hby] at r0
        have j1 : bits BinOp.xor IntKind.u8 (keyAt l k : Int) 54 = (e1.toNat : Int) := by rw [← he1]; exact jx_of (keyAt_lt l k) (by decide)
        have j2 : bits BinOp.xor IntKind.u8 (keyAt l k : Int) 92 = (e2.toNat : Int) := by rw [← he2]; exact jx_of (keyAt_lt l k) (by decide)
        clear hby he1 he2
        go_wp2_with (at_builtin; refine wpList_append_own _ rfl (.tmp 25) (.tmp 28) 37 rfl w.heap.size 5 i0 (.int .u8 0) 1 1 Tryd.underlying37 hi hz0 hz1 hz2 rfl (by decide) _ _ _ rfl (hown1.alloc _) ⟨wr.heap.size, 0, none⟩ 1 1 (cellsOf [e1]) rfl rfl (new_cells _ (cellsOf [e1]) _) (cellsOf_one _) (by have := HL1.out; unfold maxLen; omega) (by have := HL1.out; omega) (by simp; omega) ?_)
        intro v3 w3 hown3 hgrow3 _
        have hown4 := row_grown (hown2.alloc _) hgrow3 (rows_apart' hown2 hown1 HH1.out Z2.out Z1.out)
        have HB3 : Below w.heap.size w w3 := (hb.alloc hsz _).grown hgrow3 (by simp; omega) (fun i hi => (hown1.lt i hi).1)
        have hsz3 := HB3.size
        have HR3 : w3.ownsRow w.heap.size 5 1 v3 (c1 ++ [e1]).length (cellsOf (c1 ++ [e1])) := by
          rw [cellsOf_append, snoc_len rfl]; exact hown3
        clear hown3 hgrow3 hown1 hown2
        obtain ⟨a3, cap3, rfl⟩ := form_of_row HR3
        go_wp2_with (at_builtin; refine wpList_append_own _ rfl (.tmp 30) (.tmp 33) 37 rfl w.heap.size 5 i0 (.int .u8 0) 1 1 Tryd.underlying37 hi hz0 hz1 hz2 rfl (by decide) _ _ _ rfl (hown4.alloc _) ⟨w3.heap.size, 0, none⟩ 1 1 (cellsOf [e2]) rfl rfl (new_cells _ (cellsOf [e2]) _) (cellsOf_one _) (by have := HL2.out; unfold maxLen; omega) (by have := HL2.out; omega) (by simp; omega) ?_)
        intro v5 w5 hown5 hgrow5 _
        have HR5 : Hid (w5.ownsRow w.heap.size 5 1 (.slice a3 (c1 ++ [e1]).length cap3) (c1 ++ [e1]).length (cellsOf (c1 ++ [e1]))) := row_grown (HR3.alloc _) hgrow5 (rows_apart' HR3 hown4 HH2.out (fun h => by rw [snoc_len rfl] at h; omega) Z2.out)
        have HR6 : Hid (w5.ownsRow w.heap.size 5 1 v5 (c2 ++ [e2]).length (cellsOf (c2 ++ [e2]))) := by
          rw [Hid, cellsOf_append, snoc_len rfl]; exact hown5
        have HB5 : Hid (Below w.heap.size w w5) := (HB3.alloc hsz3 _).grown hgrow5 (by simp; omega) (fun i hi => (hown4.lt i hi).1)
        obtain ⟨a5, cap5, rfl⟩ := form_of_row hown5
        clear hown5 hgrow5 HR3 HB3 hown4
        go_wp2_with fail
        go_roundw
        case rel => exact ⟨k + 1, c1 ++ [e1], c2 ++ [e2], by omega, by go_num, HC1.out, HC2.out, by rw [Hid, snoc_len HL1.out], by rw [Hid, snoc_len HL2.out], by first | exact HR5.out | (have := HR5.out; rw [snoc_len rfl] at this ⊢; exact this), by first | exact HR6.out | (have := HR6.out; rw [snoc_len rfl] at this ⊢; exact this), fun h => by omega, HB5.out⟩
        case measure => simp [intOf]; omega
      · have h0 : keyAt l k = 0 := by
          rw [← HKl.out, keyAt, List.getD_eq_getElem?_getD, List.getElem?_eq_none (by have : key.data.toList.length = key.size := by simp
                                                                                      omega)]
          rfl
        rw [h0] at he1 he2
        have j1 : bits BinOp.xor IntKind.u8 0 54 = (e1.toNat : Int) := by rw [← he1]; decide
        have j2 : bits BinOp.xor IntKind.u8 0 92 = (e2.toNat : Int) := by rw [← he2]; decide
        clear h0
        go_wp2_with (at_builtin; refine wpList_append_own _ rfl (.tmp 25) (.tmp 28) 37 rfl w.heap.size 5 i0 (.int .u8 0) 1 1 Tryd.underlying37 hi hz0 hz1 hz2 rfl (by decide) _ _ _ rfl (hown1.alloc _) ⟨wr.heap.size, 0, none⟩ 1 1 (cellsOf [e1]) rfl rfl (new_cells _ (cellsOf [e1]) _) (cellsOf_one _) (by have := HL1.out; unfold maxLen; omega) (by have := HL1.out; omega) (by simp; omega) ?_)
        intro v3 w3 hown3 hgrow3 _
        have hown4 := row_grown (hown2.alloc _) hgrow3 (rows_apart' hown2 hown1 HH1.out Z2.out Z1.out)
        have HB3 : Below w.heap.size w w3 := (hb.alloc hsz _).grown hgrow3 (by simp; omega) (fun i hi => (hown1.lt i hi).1)
        have hsz3 := HB3.size
        have HR3 : w3.ownsRow w.heap.size 5 1 v3 (c1 ++ [e1]).length (cellsOf (c1 ++ [e1])) := by
          rw [cellsOf_append, snoc_len rfl]; exact hown3
        clear hown3 hgrow3 hown1 hown2
        obtain ⟨a3, cap3, rfl⟩ := form_of_row HR3
        go_wp2_with (at_builtin; refine wpList_append_own _ rfl (.tmp 30) (.tmp 33) 37 rfl w.heap.size 5 i0 (.int .u8 0) 1 1 Tryd.underlying37 hi hz0 hz1 hz2 rfl (by decide) _ _ _ rfl (hown4.alloc _) ⟨w3.heap.size, 0, none⟩ 1 1 (cellsOf [e2]) rfl rfl (new_cells _ (cellsOf [e2]) _) (cellsOf_one _) (by have := HL2.out; unfold maxLen; omega) (by have := HL2.out; omega) (by simp; omega) ?_)
        intro v5 w5 hown5 hgrow5 _
        have HR5 : Hid (w5.ownsRow w.heap.size 5 1 (.slice a3 (c1 ++ [e1]).length cap3) (c1 ++ [e1]).length (cellsOf (c1 ++ [e1]))) := row_grown (HR3.alloc _) hgrow5 (rows_apart' HR3 hown4 HH2.out (fun h => by rw [snoc_len rfl] at h; omega) Z2.out)
        have HR6 : Hid (w5.ownsRow w.heap.size 5 1 v5 (c2 ++ [e2]).length (cellsOf (c2 ++ [e2]))) := by
          rw [Hid, cellsOf_append, snoc_len rfl]; exact hown5
        have HB5 : Hid (Below w.heap.size w w5) := (HB3.alloc hsz3 _).grown hgrow5 (by simp; omega) (fun i hi => (hown4.lt i hi).1)
        obtain ⟨a5, cap5, rfl⟩ := form_of_row hown5
        clear hown5 hgrow5 HR3 HB3 hown4
        go_wp2_with fail
        go_roundw
        case rel => exact ⟨k + 1, c1 ++ [e1], c2 ++ [e2], by omega, by go_num, HC1.out, HC2.out, by rw [Hid, snoc_len HL1.out], by rw [Hid, snoc_len HL2.out], by first | exact HR5.out | (have := HR5.out; rw [snoc_len rfl] at this ⊢; exact this), by first | exact HR6.out | (have := HR6.out; rw [snoc_len rfl] at this ⊢; exact this), fun h => by omega, HB5.out⟩
        case measure => simp [intOf]; omega
    · obtain rfl : k = 64 := by omega
      obtain ⟨I, hI⟩ : ∃ I : ByteArray, I = ⟨c1.toArray⟩ := ⟨_, rfl⟩
      obtain ⟨O, hO⟩ : ∃ O : ByteArray, O = ⟨c2.toArray⟩ := ⟨_, rfl⟩
      have hIs : I.size = 64 := by rw [hI, mk_size]; exact HL1.out
      have hOs : O.size = 64 := by rw [hO, mk_size]; exact HL2.out
      obtain ⟨D, hD⟩ : ∃ D : ByteArray, D = ⟨(sha (I ++ text)).toArray⟩ := ⟨_, rfl⟩
      have hDs : D.size = 32 := by rw [hD, mk_size, sha_len]
      have HR : Hid (sha (⟨(maskL 92 l 64).toArray⟩ ++ ⟨(sha (⟨(maskL 54 l 64).toArray⟩ ++ text)).toArray⟩) = sha (O ++ D)) := by
        rw [Hid, hD, hI, hO, HM1.out, HM2.out]
      have HCI : Hid (∀ W : World, W.ownsRow w.heap.size 5 1 (.slice a1 c1.length cap1) c1.length (cellsOf c1) → (convert 37 9 (.slice a1 c1.length cap1)).run Tryd.prog W = .ok (.string I) W) := by
        rw [Hid, hI]; exact fun W h => conv_row h
      have HCO : Hid (∀ W : World, W.ownsRow w.heap.size 5 1 (.slice a2 c2.length cap2) c2.length (cellsOf c2) → (convert 37 9 (.slice a2 c2.length cap2)).run Tryd.prog W = .ok (.string O) W) := by
        rw [Hid, hO]; exact fun W h => conv_row h
      have HP1 : Hid (∀ W : World, Calls Tryd.prog 51 #[.string (I ++ text)] W fun r w' => r = .returned (.string D) ∧ Below W.heap.size W w') := by
        rw [Hid, hD]; exact fun W => refSum_any _ W (by rw [ByteArray.size_append]; omega)
      have HP2 : Hid (∀ W : World, Calls Tryd.prog 51 #[.string (O ++ D)] W fun r w' => r = .returned (.string ⟨(sha (O ++ D)).toArray⟩) ∧ Below W.heap.size W w') := fun W => refSum_any _ W (by rw [ByteArray.size_append]; omega)
      have ci := HCI.out wr.drew hown1
      have co := HCO.out wr.drew hown2
      rw [show ((64 : Nat) : Int) = 64 from rfl]
      clear hI hO hD
      go_wp2_with fail
      go_region_with (first
        | (go_at_call_of 51 (Value.string (I ++ text)); refine (HP1.out _).mono ?_; rintro e5 w5 ⟨rfl, B5⟩; have hB5 := below_undrew' B5; have co5 := HCO.out w5 (row_below hown2 hB5); clear B5)
        | (go_at_call_of 51 (Value.string (O ++ D)); refine (HP2.out _).mono ?_; rintro e6 w6 ⟨rfl, B6⟩))
      all_goals
        go_wp2_with fail
        go_ret
        exact ⟨by rw [HR.out]; rfl, hb.trans ((hB5.mono hb.size).trans (B6.mono (Nat.le_trans hb.size hB5.size)))⟩
set_option maxRecDepth 100000 in
set_option maxHeartbeats 4000000 in
theorem refMac_long (key text : ByteArray) (w : World) (hk : 64 < key.size) (hks : key.size ≤ 140737488351232) (ht : text.size ≤ 140737488351232) :
    Calls Tryd.prog 28 #[.string key, .string text] w fun e w' => e = .returned (.string ⟨(macB (sha key) text).toArray⟩) ∧ Below w.heap.size w w' := by
  obtain ⟨i0, hi, hz0, hz1, hz2⟩ := info_parts info5
  rw [mac_twin, maskB_eq, maskB_eq]
  obtain ⟨kk, hkk⟩ : ∃ kk : ByteArray, kk = ⟨(sha key).toArray⟩ := ⟨_, rfl⟩
  have hkz : kk.size ≤ 64 := by rw [hkk, mk_size, sha_len]; decide
  obtain ⟨l, hl⟩ : ∃ l, sha key = l := ⟨_, rfl⟩
  have HKl : Hid (kk.data.toList = l) := by rw [Hid, hkk, hl]
  have HP0 : Hid (Calls Tryd.prog 51 #[.string key] w fun r w' => r = .returned (.string kk) ∧ Below w.heap.size w w') := by
    rw [Hid, hkk]; exact refSum_any key w (by omega)
  rw [hl]
  clear hl hkk
  go_enter Tryd.func28, Tryd.ntmps28
  go_wp2_with fail
  refine HP0.out.mono ?_
  rintro e0 w0 ⟨rfl, B0⟩
  go_wp2_with fail
  go_loopw [5, 6, 7] (fun v1 v2 i wr => ∃ (k : Nat) (c1 c2 : List UInt8), k ≤ 64 ∧ i = .int .i64 k ∧ Hid (c1 = maskL 54 l k) ∧ Hid (c2 = maskL 92 l k) ∧ Hid (c1.length = k) ∧ Hid (c2.length = k) ∧ wr.ownsRow w.heap.size 5 1 v1 c1.length (cellsOf c1) ∧ wr.ownsRow w.heap.size 5 1 v2 c2.length (cellsOf c2) ∧ (k = 0 → v1 = .slice none 0 0 ∧ v2 = .slice none 0 0) ∧ Below w.heap.size w wr) (fun _ _ i _ => 64 - (intOf i).toNat)
  case atStart => exact ⟨0, [], [], by omega, rfl, rfl, rfl, rfl, rfl, World.ownsRow_nil _ _ _ _, World.ownsRow_nil _ _ _ _, fun _ => ⟨rfl, rfl⟩, B0⟩
  case round =>
    obtain ⟨k, c1, c2, hk64, rfl, HM1, HM2, HL1, HL2, hown1, hown2, hnil, hb⟩ := hrel
    have hsz := hb.size
    have HH1 : Hid (0 < c2.length → 0 < c1.length → (cellsOf c2).head? ≠ (cellsOf c1).head?) := by
      intro h2 h1
      rw [HL1.out] at h1
      rw [HM1.out, HM2.out]
      exact (mask_heads l k k h1 h1).symm
    have Z1 : Hid (c1.length = 0 → _) := fun h => (hnil (by rw [← HL1.out]; exact h)).1
    have Z2 : Hid (c2.length = 0 → _) := fun h => (hnil (by rw [← HL2.out]; exact h)).2
    clear hnil
    obtain ⟨a1, cap1, rfl⟩ := form_of_row hown1
    obtain ⟨a2, cap2, rfl⟩ := form_of_row hown2
    by_cases hlt : k < 64
    · obtain ⟨e1, he1⟩ : ∃ e1, UInt8.ofNat (keyAt l k ^^^ 54) = e1 := ⟨_, rfl⟩
      obtain ⟨e2, he2⟩ : ∃ e2, UInt8.ofNat (keyAt l k ^^^ 92) = e2 := ⟨_, rfl⟩
      have HC1 : Hid (c1 ++ [e1] = maskL 54 l (k + 1)) := by rw [Hid, maskL_succ, he1, HM1.out]
      have HC2 : Hid (c2 ++ [e2] = maskL 92 l (k + 1)) := by rw [Hid, maskL_succ, he2, HM2.out]
      have HH2 : Hid (0 < (c1 ++ [e1]).length → 0 < c2.length → (cellsOf (c1 ++ [e1])).head? ≠ (cellsOf c2).head?) := by
        intro _ h2
        rw [HL2.out] at h2
        rw [HC1.out, HM2.out]
        exact mask_heads l (k + 1) k (by omega) h2
      by_cases hin : k < kk.size
      · have hby : byteAt kk k = keyAt l k := by rw [← HKl.out]; rfl
        have r0 := fun W => run_byte kk (i := k) (z := (k : Int)) rfl hin W
        rw [hby] at r0
        have j1 : bits BinOp.xor IntKind.u8 (keyAt l k : Int) 54 = (e1.toNat : Int) := by rw [← he1]; exact jx_of (keyAt_lt l k) (by decide)
        have j2 : bits BinOp.xor IntKind.u8 (keyAt l k : Int) 92 = (e2.toNat : Int) := by rw [← he2]; exact jx_of (keyAt_lt l k) (by decide)
        clear hby he1 he2
        go_wp2_with (at_builtin; refine wpList_append_own _ rfl (.tmp 25) (.tmp 28) 37 rfl w.heap.size 5 i0 (.int .u8 0) 1 1 Tryd.underlying37 hi hz0 hz1 hz2 rfl (by decide) _ _ _ rfl (hown1.alloc _) ⟨wr.heap.size, 0, none⟩ 1 1 (cellsOf [e1]) rfl rfl (new_cells _ (cellsOf [e1]) _) (cellsOf_one _) (by have := HL1.out; unfold maxLen; omega) (by have := HL1.out; omega) (by simp; omega) ?_)
        intro v3 w3 hown3 hgrow3 _
        have hown4 := row_grown (hown2.alloc _) hgrow3 (rows_apart' hown2 hown1 HH1.out Z2.out Z1.out)
        have HB3 : Below w.heap.size w w3 := (hb.alloc hsz _).grown hgrow3 (by simp; omega) (fun i hi => (hown1.lt i hi).1)
        have hsz3 := HB3.size
        have HR3 : w3.ownsRow w.heap.size 5 1 v3 (c1 ++ [e1]).length (cellsOf (c1 ++ [e1])) := by
          rw [cellsOf_append, snoc_len rfl]; exact hown3
        clear hown3 hgrow3 hown1 hown2
        obtain ⟨a3, cap3, rfl⟩ := form_of_row HR3
        go_wp2_with (at_builtin; refine wpList_append_own _ rfl (.tmp 30) (.tmp 33) 37 rfl w.heap.size 5 i0 (.int .u8 0) 1 1 Tryd.underlying37 hi hz0 hz1 hz2 rfl (by decide) _ _ _ rfl (hown4.alloc _) ⟨w3.heap.size, 0, none⟩ 1 1 (cellsOf [e2]) rfl rfl (new_cells _ (cellsOf [e2]) _) (cellsOf_one _) (by have := HL2.out; unfold maxLen; omega) (by have := HL2.out; omega) (by simp; omega) ?_)
        intro v5 w5 hown5 hgrow5 _
        have HR5 : Hid (w5.ownsRow w.heap.size 5 1 (.slice a3 (c1 ++ [e1]).length cap3) (c1 ++ [e1]).length (cellsOf (c1 ++ [e1]))) := row_grown (HR3.alloc _) hgrow5 (rows_apart' HR3 hown4 HH2.out (fun h => by rw [snoc_len rfl] at h; omega) Z2.out)
        have HR6 : Hid (w5.ownsRow w.heap.size 5 1 v5 (c2 ++ [e2]).length (cellsOf (c2 ++ [e2]))) := by
          rw [Hid, cellsOf_append, snoc_len rfl]; exact hown5
        have HB5 : Hid (Below w.heap.size w w5) := (HB3.alloc hsz3 _).grown hgrow5 (by simp; omega) (fun i hi => (hown4.lt i hi).1)
        obtain ⟨a5, cap5, rfl⟩ := form_of_row hown5
        clear hown5 hgrow5 HR3 HB3 hown4
        go_wp2_with fail
        go_roundw
        case rel => exact ⟨k + 1, c1 ++ [e1], c2 ++ [e2], by omega, by go_num, HC1.out, HC2.out, by rw [Hid, snoc_len HL1.out], by rw [Hid, snoc_len HL2.out], by first | exact HR5.out | (have := HR5.out; rw [snoc_len rfl] at this ⊢; exact this), by first | exact HR6.out | (have := HR6.out; rw [snoc_len rfl] at this ⊢; exact this), fun h => by omega, HB5.out⟩
        case measure => simp [intOf]; omega
      · have h0 : keyAt l k = 0 := by
          rw [← HKl.out, keyAt, List.getD_eq_getElem?_getD, List.getElem?_eq_none (by have : kk.data.toList.length = kk.size := by simp
                                                                                      omega)]
          rfl
        rw [h0] at he1 he2
        have j1 : bits BinOp.xor IntKind.u8 0 54 = (e1.toNat : Int) := by rw [← he1]; decide
        have j2 : bits BinOp.xor IntKind.u8 0 92 = (e2.toNat : Int) := by rw [← he2]; decide
        clear h0
        go_wp2_with (at_builtin; refine wpList_append_own _ rfl (.tmp 25) (.tmp 28) 37 rfl w.heap.size 5 i0 (.int .u8 0) 1 1 Tryd.underlying37 hi hz0 hz1 hz2 rfl (by decide) _ _ _ rfl (hown1.alloc _) ⟨wr.heap.size, 0, none⟩ 1 1 (cellsOf [e1]) rfl rfl (new_cells _ (cellsOf [e1]) _) (cellsOf_one _) (by have := HL1.out; unfold maxLen; omega) (by have := HL1.out; omega) (by simp; omega) ?_)
        intro v3 w3 hown3 hgrow3 _
        have hown4 := row_grown (hown2.alloc _) hgrow3 (rows_apart' hown2 hown1 HH1.out Z2.out Z1.out)
        have HB3 : Below w.heap.size w w3 := (hb.alloc hsz _).grown hgrow3 (by simp; omega) (fun i hi => (hown1.lt i hi).1)
        have hsz3 := HB3.size
        have HR3 : w3.ownsRow w.heap.size 5 1 v3 (c1 ++ [e1]).length (cellsOf (c1 ++ [e1])) := by
          rw [cellsOf_append, snoc_len rfl]; exact hown3
        clear hown3 hgrow3 hown1 hown2
        obtain ⟨a3, cap3, rfl⟩ := form_of_row HR3
        go_wp2_with (at_builtin; refine wpList_append_own _ rfl (.tmp 30) (.tmp 33) 37 rfl w.heap.size 5 i0 (.int .u8 0) 1 1 Tryd.underlying37 hi hz0 hz1 hz2 rfl (by decide) _ _ _ rfl (hown4.alloc _) ⟨w3.heap.size, 0, none⟩ 1 1 (cellsOf [e2]) rfl rfl (new_cells _ (cellsOf [e2]) _) (cellsOf_one _) (by have := HL2.out; unfold maxLen; omega) (by have := HL2.out; omega) (by simp; omega) ?_)
        intro v5 w5 hown5 hgrow5 _
        have HR5 : Hid (w5.ownsRow w.heap.size 5 1 (.slice a3 (c1 ++ [e1]).length cap3) (c1 ++ [e1]).length (cellsOf (c1 ++ [e1]))) := row_grown (HR3.alloc _) hgrow5 (rows_apart' HR3 hown4 HH2.out (fun h => by rw [snoc_len rfl] at h; omega) Z2.out)
        have HR6 : Hid (w5.ownsRow w.heap.size 5 1 v5 (c2 ++ [e2]).length (cellsOf (c2 ++ [e2]))) := by
          rw [Hid, cellsOf_append, snoc_len rfl]; exact hown5
        have HB5 : Hid (Below w.heap.size w w5) := (HB3.alloc hsz3 _).grown hgrow5 (by simp; omega) (fun i hi => (hown4.lt i hi).1)
        obtain ⟨a5, cap5, rfl⟩ := form_of_row hown5
        clear hown5 hgrow5 HR3 HB3 hown4
        go_wp2_with fail
        go_roundw
        case rel => exact ⟨k + 1, c1 ++ [e1], c2 ++ [e2], by omega, by go_num, HC1.out, HC2.out, by rw [Hid, snoc_len HL1.out], by rw [Hid, snoc_len HL2.out], by first | exact HR5.out | (have := HR5.out; rw [snoc_len rfl] at this ⊢; exact this), by first | exact HR6.out | (have := HR6.out; rw [snoc_len rfl] at this ⊢; exact this), fun h => by omega, HB5.out⟩
        case measure => simp [intOf]; omega
    · obtain rfl : k = 64 := by omega
      obtain ⟨I, hI⟩ : ∃ I : ByteArray, I = ⟨c1.toArray⟩ := ⟨_, rfl⟩
      obtain ⟨O, hO⟩ : ∃ O : ByteArray, O = ⟨c2.toArray⟩ := ⟨_, rfl⟩
      have hIs : I.size = 64 := by rw [hI, mk_size]; exact HL1.out
      have hOs : O.size = 64 := by rw [hO, mk_size]; exact HL2.out
      obtain ⟨D, hD⟩ : ∃ D : ByteArray, D = ⟨(sha (I ++ text)).toArray⟩ := ⟨_, rfl⟩
      have hDs : D.size = 32 := by rw [hD, mk_size, sha_len]
      have HR : Hid (sha (⟨(maskL 92 l 64).toArray⟩ ++ ⟨(sha (⟨(maskL 54 l 64).toArray⟩ ++ text)).toArray⟩) = sha (O ++ D)) := by
        rw [Hid, hD, hI, hO, HM1.out, HM2.out]
      have HCI : Hid (∀ W : World, W.ownsRow w.heap.size 5 1 (.slice a1 c1.length cap1) c1.length (cellsOf c1) → (convert 37 9 (.slice a1 c1.length cap1)).run Tryd.prog W = .ok (.string I) W) := by
        rw [Hid, hI]; exact fun W h => conv_row h
      have HCO : Hid (∀ W : World, W.ownsRow w.heap.size 5 1 (.slice a2 c2.length cap2) c2.length (cellsOf c2) → (convert 37 9 (.slice a2 c2.length cap2)).run Tryd.prog W = .ok (.string O) W) := by
        rw [Hid, hO]; exact fun W h => conv_row h
      have HP1 : Hid (∀ W : World, Calls Tryd.prog 51 #[.string (I ++ text)] W fun r w' => r = .returned (.string D) ∧ Below W.heap.size W w') := by
        rw [Hid, hD]; exact fun W => refSum_any _ W (by rw [ByteArray.size_append]; omega)
      have HP2 : Hid (∀ W : World, Calls Tryd.prog 51 #[.string (O ++ D)] W fun r w' => r = .returned (.string ⟨(sha (O ++ D)).toArray⟩) ∧ Below W.heap.size W w') := fun W => refSum_any _ W (by rw [ByteArray.size_append]; omega)
      have ci := HCI.out wr.drew hown1
      have co := HCO.out wr.drew hown2
      rw [show ((64 : Nat) : Int) = 64 from rfl]
      clear hI hO hD
      go_wp2_with fail
      go_region_with (first
        | (go_at_call_of 51 (Value.string (I ++ text)); refine (HP1.out _).mono ?_; rintro e5 w5 ⟨rfl, B5⟩; have hB5 := below_undrew' B5; have co5 := HCO.out w5 (row_below hown2 hB5); clear B5)
        | (go_at_call_of 51 (Value.string (O ++ D)); refine (HP2.out _).mono ?_; rintro e6 w6 ⟨rfl, B6⟩))
      all_goals
        go_wp2_with fail
        go_ret
        exact ⟨by rw [HR.out]; rfl, hb.trans ((hB5.mono hb.size).trans (B6.mono (Nat.le_trans hb.size hB5.size)))⟩
end Go.Proofs.YtedibkcempcpnaaDoor
