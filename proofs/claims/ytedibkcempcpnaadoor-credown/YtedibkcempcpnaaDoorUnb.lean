/-
  The contracts of Unbase64 and of the twin's.
-/
import Derived.Test.YtedibkcempcpnaaDoorDec
namespace Go.Proofs.YtedibkcempcpnaaDoor
open Go.RowKit
theorem bytes_ext0 {a b : ByteArray} (h : a.data.toList = b.data.toList) : a = b := by
  apply ByteArray.ext
  exact Array.toList_inj.1 h
theorem beq_ne {a b : ByteArray} (h : ¬ a = b) : (a.toList == b.toList) = false := by
  rw [ByteArray.toList_eq, ByteArray.toList_eq]
  cases hq : (a.data.toList == b.data.toList) with
  | false => rfl
  | true => exact absurd (bytes_ext0 (beq_iff_eq.1 hq)) h
theorem row_below0 {w w' : World} {base n : Nat} {v : Value} {xs : List Value} (h : w.ownsRow base 5 1 v n xs) (B : Below w.heap.size w w') : w'.ownsRow base 5 1 v n xs := by
  refine ⟨h.1, ?_⟩
  rcases h.2 with q | ⟨g, cap, cur, rfl, hb, hh, r⟩
  · exact Or.inl q
  · exact Or.inr ⟨g, cap, cur, rfl, hb, (B.block g (lt_of_block hh)).trans hh, r⟩
theorem shl6_or {R x : Nat} (hx : x < 64) : bits BinOp.or IntKind.u32 ((R : Int) * 64 % 4294967296) (x : Int) = ((R * 64 % 4294967296 + x : Nat) : Int) := by
  have e1 : (R : Int) * 64 % 4294967296 = ((R * 64 % 4294967296 : Nat) : Int) := by omega
  rw [e1, u32_or_nat _ _ (Nat.mod_lt _ (by decide)) (by omega), show R * 64 % 4294967296 = R % 67108864 * 2 ^ 6 by omega, or_plus (i := 6) hx]
theorem map_pre_nil (t : Option (List UInt8 × Nat × Nat)) : t.map (pre []) = t := by cases t <;> rfl
theorem dec_step {s : ByteArray} {k n r : Nat} {l cur : List UInt8} (h : k < s.size) (H : dec 0 0 l = (dec n r (s.data.toList.drop k)).map (pre cur)) :
    dec 0 0 l = if ix (UInt8.ofNat (byteAt s k)) < 0 then none else (dec (decN n) (decR n r (ix (UInt8.ofNat (byteAt s k))).toNat) (s.data.toList.drop (k + 1))).map (pre (cur ++ decOut n r (ix (UInt8.ofNat (byteAt s k))).toNat)) := by
  rw [H, byteAt_drop h, dec]
  split
  · rfl
  · cases dec (decN n) (decR n r (ix (UInt8.ofNat (byteAt s k))).toNat) (s.data.toList.drop (k + 1)) <;> simp [pre]
set_option maxRecDepth 20000 in
set_option maxHeartbeats 4000000 in
theorem unbase64_any (s : ByteArray) (w : World) (hs : s.size ≤ 140737488351232) : Calls Tryd.prog 38 #[.string s] w fun e w' => e = .returned (.tuple (unbV s.data.toList)) ∧ Below w.heap.size w w' := by
  obtain ⟨i0, hi, hz0, hz1, hz2⟩ := info_parts info5
  obtain ⟨m, hm⟩ : ∃ m, s.size * 3 / 4 = m := ⟨_, rfl⟩
  have hquo : ((s.size : Int) * 3).tdiv 4 = (m : Int) := by rw [Int.tdiv_eq_ediv_of_nonneg (by omega)]; omega
  have HM : Hid _ := hm
  have HW : Hid (wrap64 (m : Int) = (m : Int)) := by rw [Hid]; unfold wrap64; omega
  clear hm
  obtain ⟨l, hl⟩ : ∃ l, s.data.toList = l := ⟨_, rfl⟩
  have HSl : Hid (l = s.data.toList) := hl.symm
  rw [hl]
  clear hl
  have hll : s.data.toList.length = s.size := by simp
  have HLL : Hid _ := hll
  clear hll
  go_enter Tryd.func38, Tryd.ntmps38
  go_wp2_with (refine wpList_make_own _ rfl _ _ 37 rfl w.heap.size 5 i0 (.int .u8 0) 1 Tryd.underlying37 hi hz0 hz1 .i64 .i64 _ m rfl rfl (by first | exact HW.out | rfl | exact hquo) (by rw [hz2]; have := HM.out; omega) (by unfold maxLen; have := HM.out; omega) (Nat.le_refl _) ?_; intro v1 hown1 hg1)
  have hb1 : Below w.heap.size w v1 := (Below.refl _ w).grown hg1 (Nat.le_refl _) (fun i hi => by cases hi)
  go_loopw [4, 5, 6, 16] (fun v rr nn i wr => ∃ (k n r R : Nat) (cur : List UInt8), k ≤ s.size ∧ i = .int .i64 k ∧ rr = .int .u32 (R : Int) ∧ nn = .int .i64 (n : Int) ∧ (n = 0 ∨ n = 6 ∨ n = 4 ∨ n = 2) ∧ R < 4294967296 ∧ Hid (R % 2 ^ n = r) ∧ Hid (dec 0 0 l = (dec n r (s.data.toList.drop k)).map (pre cur)) ∧ Hid (cur.length ≤ k) ∧ wr.ownsRow w.heap.size 5 1 v cur.length (cellsOf cur) ∧ Below w.heap.size w wr) (fun _ _ _ i _ => s.size - (intOf i).toNat)
  case atStart => exact ⟨0, 0, 0, 0, [], by omega, rfl, rfl, rfl, Or.inl rfl, by decide, rfl, by rw [Hid, HSl.out]; exact (map_pre_nil _).symm, Nat.le_refl _, hown1, hb1⟩
  case round =>
    clear hown1 hg1 hb1
    obtain ⟨k, n, r, R, cur, hk, rfl, rfl, rfl, hn, hR, HRr, HD, HL, hown, hb⟩ := hrel
    have hsz := hb.size
    obtain ⟨a, cap, rfl⟩ := form_of_row hown
    by_cases hlt : k < s.size
    · have r0 := fun W => run_byte s (i := k) (z := (k : Int)) rfl hlt W
      obtain ⟨b, hb0⟩ : ∃ b, byteAt s k = b := ⟨_, rfl⟩
      have hbl : b < 256 := by rw [← hb0]; exact byteAt_lt s k
      rw [hb0] at r0
      have HS : Hid _ := dec_step hlt HD.out
      rw [hb0] at HS
      obtain ⟨dx, hdx⟩ : ∃ dx, ix (UInt8.ofNat b) = dx := ⟨_, rfl⟩
      have HP : Hid (∀ W : World, Calls Tryd.prog 55 #[.string ⟨#[65, 66, 67, 68, 69, 70, 71, 72, 73, 74, 75, 76, 77, 78, 79, 80, 81, 82, 83, 84, 85, 86, 87, 88, 89, 90, 97, 98, 99, 100, 101, 102, 103, 104, 105, 106, 107, 108, 109, 110, 111, 112, 113, 114, 115, 116, 117, 118, 119, 120, 121, 122, 48, 49, 50, 51, 52, 53, 54, 55, 56, 57, 45, 95]⟩, .int .u8 (b : Int)] W fun e W' => e = .returned (.int .i64 dx) ∧ W' = W) := by
        rw [Hid, ← hdx]
        exact fun W => Tryd.strings_IndexByte lettersB (b : Int) W
      have cx := ix_cases (UInt8.ofNat b)
      rw [hdx] at HS cx
      clear hb0 hdx
      go_wp2_with fail
      refine (HP.out _).mono ?_
      rintro e1 w2 ⟨rfl, rfl⟩
      by_cases hx0 : dx < 0
      · have HN : Hid (unbV l = #[.string ⟨#[]⟩, .bool false]) := by rw [Hid, unbV, HS.out, if_pos hx0]
        go_wp2_with fail
        go_ret2
        exact ⟨by rw [HN.out]; rfl, hb⟩
      obtain ⟨x, hx⟩ : ∃ x : Nat, dx = (x : Int) := ⟨dx.toNat, by omega⟩
      subst hx
      have hx64 : x < 64 := by omega
      rw [if_neg hx0, Int.toNat_natCast] at HS
      clear cx hx0
      obtain ⟨R2, hR2⟩ : ∃ R2, R * 64 % 4294967296 + x = R2 := ⟨_, rfl⟩
      have j0 : bits BinOp.or IntKind.u32 ((R : Int) * 64 % 4294967296) (x : Int) = (R2 : Int) := by rw [shl6_or hx64, hR2]
      have hR3 : R2 < 4294967296 := by omega
      have HR2 : Hid _ := hR2
      clear hR2
      rcases hn with rfl | rfl | rfl | rfl
      · have HDf : Hid (dec 0 0 l = (dec 6 x (s.data.toList.drop (k + 1))).map (pre cur)) := by
          rw [Hid, HS.out, show decOut 0 r x = [] from rfl, List.append_nil]
          rfl
        have HRf : Hid (R2 % 2 ^ 6 = x) := by have := HR2.out; rw [Hid]; omega
        have HLf : Hid (cur.length ≤ k + 1) := by have := HL.out; rw [Hid]; omega
        go_wp2_with fail
        exact ⟨⟨k + 1, 6, x, R2, cur, by omega, by go_num, rfl, rfl, by simp, hR3, HRf.out, HDf.out, HLf.out, hown, hb⟩, by simp [intOf]; omega⟩
      · obtain ⟨v, hv⟩ : ∃ v, (r * 64 + x) / 16 = v := ⟨_, rfl⟩
        have hrn : r < 64 := by have := HRr.out; omega
        have hv2 : v < 256 := by omega
        have jv : (R2 : Int) / 16 % 256 = (v : Int) := by have := HR2.out; have := HRr.out; omega
        obtain ⟨c, hc⟩ : ∃ c, UInt8.ofNat v = c := ⟨_, rfl⟩
        have HCv : Hid (cellsOf [c] = [Value.int .u8 (v : Int)]) := by
          rw [Hid, ← hc]
          show [Value.int .u8 ((UInt8.ofNat v).toNat : Int)] = _
          rw [b8 hv2]
        have HDf0 : Hid (dec 0 0 l = (dec 4 ((r * 64 + x) % 16) (s.data.toList.drop (k + 1))).map (pre (cur ++ [c]))) := by
          rw [Hid, HS.out, show decOut 6 r x = [UInt8.ofNat ((r * 64 + x) / 16)] from rfl, hv, hc]
          rfl
        clear hc
        go_wp2_with (at_builtin; refine wpList_append_own _ rfl (.tmp 36) (.tmp 41) 37 rfl w.heap.size 5 i0 (.int .u8 0) 1 1 Tryd.underlying37 hi hz0 hz1 hz2 rfl (by decide) _ _ _ rfl (hown.alloc _) ⟨_, 0, none⟩ 1 1 [Value.int .u8 (v : Int)] rfl rfl (new_cells _ [Value.int .u8 (v : Int)] _) (by rw [← HCv.out]; exact cellsOf_one _) (by have := HL.out; unfold maxLen; omega) (by have := HL.out; omega) (by simp; omega) ?_)
        intro x5 w5 own5 grow5 _
        have bel5 : Below w.heap.size w w5 := (hb.alloc hsz _).grown grow5 (by simp; omega) (fun i hi => (hown.lt i hi).1)
        have row5 : w5.ownsRow w.heap.size 5 1 x5 (cur ++ [c]).length (cellsOf (cur ++ [c])) := by
          rw [cellsOf_append, snoc_len rfl, HCv.out]; exact own5
        clear own5 grow5
        obtain ⟨C5, hC5⟩ : ∃ C, cur ++ [c] = C := ⟨_, rfl⟩
        have HCl5 : Hid (C5.length = cur.length + 1) := by rw [Hid, ← hC5, snoc_len rfl]
        rw [hC5] at row5
        obtain ⟨ad5, cap5, rfl⟩ := form_of_row row5
        clear hown
        go_wp2_with fail
        have HDf : Hid (dec 0 0 l = (dec 4 ((r * 64 + x) % 16) (s.data.toList.drop (k + 1))).map (pre C5)) := by rw [Hid, ← hC5]; exact HDf0.out
        have HRf : Hid (R2 % 2 ^ 4 = ((r * 64 + x) % 16)) := by have := HR2.out; have := HRr.out; rw [Hid]; omega
        have HLf : Hid (C5.length ≤ k + 1) := by have := HL.out; have := HCl5.out; rw [Hid]; omega
        exact ⟨⟨k + 1, 4, ((r * 64 + x) % 16), R2, C5, by omega, by go_num, rfl, rfl, by simp, hR3, HRf.out, HDf.out, HLf.out, row5, bel5⟩, by simp [intOf]; omega⟩
      · obtain ⟨v, hv⟩ : ∃ v, (r * 64 + x) / 4 = v := ⟨_, rfl⟩
        have hrn : r < 16 := by have := HRr.out; omega
        have hv2 : v < 256 := by omega
        have jv : (R2 : Int) / 4 % 256 = (v : Int) := by have := HR2.out; have := HRr.out; omega
        obtain ⟨c, hc⟩ : ∃ c, UInt8.ofNat v = c := ⟨_, rfl⟩
        have HCv : Hid (cellsOf [c] = [Value.int .u8 (v : Int)]) := by
          rw [Hid, ← hc]
          show [Value.int .u8 ((UInt8.ofNat v).toNat : Int)] = _
          rw [b8 hv2]
        have HDf0 : Hid (dec 0 0 l = (dec 2 ((r * 64 + x) % 4) (s.data.toList.drop (k + 1))).map (pre (cur ++ [c]))) := by
          rw [Hid, HS.out, show decOut 4 r x = [UInt8.ofNat ((r * 64 + x) / 4)] from rfl, hv, hc]
          rfl
        clear hc
        go_wp2_with (at_builtin; refine wpList_append_own _ rfl (.tmp 36) (.tmp 41) 37 rfl w.heap.size 5 i0 (.int .u8 0) 1 1 Tryd.underlying37 hi hz0 hz1 hz2 rfl (by decide) _ _ _ rfl (hown.alloc _) ⟨_, 0, none⟩ 1 1 [Value.int .u8 (v : Int)] rfl rfl (new_cells _ [Value.int .u8 (v : Int)] _) (by rw [← HCv.out]; exact cellsOf_one _) (by have := HL.out; unfold maxLen; omega) (by have := HL.out; omega) (by simp; omega) ?_)
        intro x5 w5 own5 grow5 _
        have bel5 : Below w.heap.size w w5 := (hb.alloc hsz _).grown grow5 (by simp; omega) (fun i hi => (hown.lt i hi).1)
        have row5 : w5.ownsRow w.heap.size 5 1 x5 (cur ++ [c]).length (cellsOf (cur ++ [c])) := by
          rw [cellsOf_append, snoc_len rfl, HCv.out]; exact own5
        clear own5 grow5
        obtain ⟨C5, hC5⟩ : ∃ C, cur ++ [c] = C := ⟨_, rfl⟩
        have HCl5 : Hid (C5.length = cur.length + 1) := by rw [Hid, ← hC5, snoc_len rfl]
        rw [hC5] at row5
        obtain ⟨ad5, cap5, rfl⟩ := form_of_row row5
        clear hown
        go_wp2_with fail
        have HDf : Hid (dec 0 0 l = (dec 2 ((r * 64 + x) % 4) (s.data.toList.drop (k + 1))).map (pre C5)) := by rw [Hid, ← hC5]; exact HDf0.out
        have HRf : Hid (R2 % 2 ^ 2 = ((r * 64 + x) % 4)) := by have := HR2.out; have := HRr.out; rw [Hid]; omega
        have HLf : Hid (C5.length ≤ k + 1) := by have := HL.out; have := HCl5.out; rw [Hid]; omega
        exact ⟨⟨k + 1, 2, ((r * 64 + x) % 4), R2, C5, by omega, by go_num, rfl, rfl, by simp, hR3, HRf.out, HDf.out, HLf.out, row5, bel5⟩, by simp [intOf]; omega⟩
      · obtain ⟨v, hv⟩ : ∃ v, (r * 64 + x) = v := ⟨_, rfl⟩
        have hrn : r < 4 := by have := HRr.out; omega
        have hv2 : v < 256 := by omega
        have jv : (R2 : Int) % 256 = (v : Int) := by have := HR2.out; have := HRr.out; omega
        obtain ⟨c, hc⟩ : ∃ c, UInt8.ofNat v = c := ⟨_, rfl⟩
        have HCv : Hid (cellsOf [c] = [Value.int .u8 (v : Int)]) := by
          rw [Hid, ← hc]
          show [Value.int .u8 ((UInt8.ofNat v).toNat : Int)] = _
          rw [b8 hv2]
        have HDf0 : Hid (dec 0 0 l = (dec 0 0 (s.data.toList.drop (k + 1))).map (pre (cur ++ [c]))) := by
          rw [Hid, HS.out, show decOut 2 r x = [UInt8.ofNat ((r * 64 + x))] from rfl, hv, hc]
          rfl
        clear hc
        go_wp2_with (at_builtin; refine wpList_append_own _ rfl (.tmp 36) (.tmp 41) 37 rfl w.heap.size 5 i0 (.int .u8 0) 1 1 Tryd.underlying37 hi hz0 hz1 hz2 rfl (by decide) _ _ _ rfl (hown.alloc _) ⟨_, 0, none⟩ 1 1 [Value.int .u8 (v : Int)] rfl rfl (new_cells _ [Value.int .u8 (v : Int)] _) (by rw [← HCv.out]; exact cellsOf_one _) (by have := HL.out; unfold maxLen; omega) (by have := HL.out; omega) (by simp; omega) ?_)
        intro x5 w5 own5 grow5 _
        have bel5 : Below w.heap.size w w5 := (hb.alloc hsz _).grown grow5 (by simp; omega) (fun i hi => (hown.lt i hi).1)
        have row5 : w5.ownsRow w.heap.size 5 1 x5 (cur ++ [c]).length (cellsOf (cur ++ [c])) := by
          rw [cellsOf_append, snoc_len rfl, HCv.out]; exact own5
        clear own5 grow5
        obtain ⟨C5, hC5⟩ : ∃ C, cur ++ [c] = C := ⟨_, rfl⟩
        have HCl5 : Hid (C5.length = cur.length + 1) := by rw [Hid, ← hC5, snoc_len rfl]
        rw [hC5] at row5
        obtain ⟨ad5, cap5, rfl⟩ := form_of_row row5
        clear hown
        go_wp2_with fail
        have HDf : Hid (dec 0 0 l = (dec 0 0 (s.data.toList.drop (k + 1))).map (pre C5)) := by rw [Hid, ← hC5]; exact HDf0.out
        have HRf : Hid (R2 % 2 ^ 0 = 0) := by have := HR2.out; have := HRr.out; rw [Hid]; omega
        have HLf : Hid (C5.length ≤ k + 1) := by have := HL.out; have := HCl5.out; rw [Hid]; omega
        exact ⟨⟨k + 1, 0, 0, R2, C5, by omega, by go_num, rfl, rfl, by simp, hR3, HRf.out, HDf.out, HLf.out, row5, bel5⟩, by simp [intOf]; omega⟩
    · obtain rfl : k = s.size := by omega
      have HD2 : Hid (dec 0 0 l = some (cur, n, r)) := by
        have e := HD.out
        rw [List.drop_eq_nil_of_le (by have := HLL.out; omega), dec, Option.map_some] at e
        rw [Hid, e]
        simp [pre]
      rcases hn with rfl | rfl | rfl | rfl
      · have HN : Hid (unbV l = #[.string ⟨cur.toArray⟩, .bool true]) := by rw [Hid, unbV, HD2.out]; exact if_neg (by have := HRr.out; omega)
        have ja : bits BinOp.and IntKind.u32 (R : Int) 0 = 0 := by have := u32_and_nat R 0 hR (by decide); rw [Nat.and_zero] at this; exact this
        have hc := conv_row hown
        go_wp2_with fail
        go_ret2
        exact ⟨by rw [HN.out]; rfl, hb⟩
      · have HN : Hid (unbV l = #[.string ⟨#[]⟩, .bool false]) := by rw [Hid, unbV, HD2.out]; exact if_pos (Or.inl rfl)
        go_wp2_with fail
        go_ret2
        exact ⟨by rw [HN.out]; rfl, hb⟩
      · have hrr : R % 16 = r := HRr.out
        have ja : bits BinOp.and IntKind.u32 (R : Int) 15 = (r : Int) := by
          have e1 := u32_and_nat R 15 hR (by decide)
          rw [Nat.and_two_pow_sub_one_eq_mod R 4] at e1
          rw [← hrr]
          exact e1
        clear hrr
        by_cases hr0 : r = 0
        · subst hr0
          have HN : Hid (unbV l = #[.string ⟨cur.toArray⟩, .bool true]) := by rw [Hid, unbV, HD2.out]; exact if_neg (by omega)
          have hc := conv_row hown
          go_wp2_with fail
          go_ret2
          exact ⟨by rw [HN.out]; rfl, hb⟩
        · have HN : Hid (unbV l = #[.string ⟨#[]⟩, .bool false]) := by rw [Hid, unbV, HD2.out]; exact if_pos (Or.inr hr0)
          have hr1 : ((r : Int) == 0) = false := by simp; omega
          go_wp2_with fail
          go_ret2
          exact ⟨by rw [HN.out]; rfl, hb⟩
      · have hrr : R % 4 = r := HRr.out
        have ja : bits BinOp.and IntKind.u32 (R : Int) 3 = (r : Int) := by
          have e1 := u32_and_nat R 3 hR (by decide)
          rw [Nat.and_two_pow_sub_one_eq_mod R 2] at e1
          rw [← hrr]
          exact e1
        clear hrr
        by_cases hr0 : r = 0
        · subst hr0
          have HN : Hid (unbV l = #[.string ⟨cur.toArray⟩, .bool true]) := by rw [Hid, unbV, HD2.out]; exact if_neg (by omega)
          have hc := conv_row hown
          go_wp2_with fail
          go_ret2
          exact ⟨by rw [HN.out]; rfl, hb⟩
        · have HN : Hid (unbV l = #[.string ⟨#[]⟩, .bool false]) := by rw [Hid, unbV, HD2.out]; exact if_pos (Or.inr hr0)
          have hr1 : ((r : Int) == 0) = false := by simp; omega
          go_wp2_with fail
          go_ret2
          exact ⟨by rw [HN.out]; rfl, hb⟩
set_option maxRecDepth 20000 in
set_option maxHeartbeats 4000000 in
theorem refUnbase64_any (s : ByteArray) (w : World) (hs : s.size ≤ 140737488351232) : Calls Tryd.prog 41 #[.string s] w fun e w' => e = .returned (.tuple (unbV s.data.toList)) ∧ Below w.heap.size w w' := by
  obtain ⟨i0, hi, hz0, hz1, hz2⟩ := info_parts info5
  obtain ⟨l, hl⟩ : ∃ l, s.data.toList = l := ⟨_, rfl⟩
  have HSl : Hid (l = s.data.toList) := hl.symm
  rw [hl]
  clear hl
  have hll : s.data.toList.length = s.size := by simp
  have HLL : Hid _ := hll
  clear hll
  go_enter Tryd.func41, Tryd.ntmps41
  go_wp2_with fail
  go_loopw [4, 5, 6, 7] (fun v rr nn i wr => ∃ (k n r : Nat) (cur : List UInt8), k ≤ s.size ∧ i = .int .i64 k ∧ rr = .int .i64 (r : Int) ∧ nn = .int .i64 (n : Int) ∧ (n = 0 ∨ n = 6 ∨ n = 4 ∨ n = 2) ∧ Hid (r < 2 ^ n) ∧ Hid (dec 0 0 l = (dec n r (s.data.toList.drop k)).map (pre cur)) ∧ Hid (8 * cur.length + n = 6 * k) ∧ wr.ownsRow w.heap.size 5 1 v cur.length (cellsOf cur) ∧ Below w.heap.size w wr) (fun _ _ _ i _ => s.size - (intOf i).toNat)
  case atStart => exact ⟨0, 0, 0, [], by omega, rfl, rfl, rfl, Or.inl rfl, show (0 : Nat) < 2 ^ 0 by decide, by rw [Hid, HSl.out]; exact (map_pre_nil _).symm, rfl, World.ownsRow_nil _ _ _ _, Below.refl _ _⟩
  case round =>
    obtain ⟨k, n, r, cur, hk, rfl, rfl, rfl, hn, HRr, HD, HL, hown, hb⟩ := hrel
    have hsz := hb.size
    obtain ⟨a, cap, rfl⟩ := form_of_row hown
    by_cases hlt : k < s.size
    · have r0 := fun W => run_byte s (i := k) (z := (k : Int)) rfl hlt W
      obtain ⟨b, hb0⟩ : ∃ b, byteAt s k = b := ⟨_, rfl⟩
      have hbl : b < 256 := by rw [← hb0]; exact byteAt_lt s k
      rw [hb0] at r0
      have HS : Hid _ := dec_step hlt HD.out
      rw [hb0] at HS
      obtain ⟨dx, hdx⟩ : ∃ dx, ix (UInt8.ofNat b) = dx := ⟨_, rfl⟩
      have HP : Hid (∀ W : World, Calls Tryd.prog 57 #[.string ⟨#[65, 66, 67, 68, 69, 70, 71, 72, 73, 74, 75, 76, 77, 78, 79, 80, 81, 82, 83, 84, 85, 86, 87, 88, 89, 90, 97, 98, 99, 100, 101, 102, 103, 104, 105, 106, 107, 108, 109, 110, 111, 112, 113, 114, 115, 116, 117, 118, 119, 120, 121, 122, 48, 49, 50, 51, 52, 53, 54, 55, 56, 57, 45, 95]⟩, .int .u8 (b : Int)] W fun e W' => e = .returned (.int .i64 dx) ∧ W' = W) := by
        rw [Hid, ← hdx]
        exact fun W => find_any lettersB b hbl (by decide) W
      have cx := ix_cases (UInt8.ofNat b)
      rw [hdx] at HS cx
      clear hb0 hdx
      go_wp2_with fail
      refine (HP.out _).mono ?_
      rintro e1 w2 ⟨rfl, rfl⟩
      by_cases hx0 : dx < 0
      · have HN : Hid (unbV l = #[.string ⟨#[]⟩, .bool false]) := by rw [Hid, unbV, HS.out, if_pos hx0]
        go_wp2_with fail
        go_ret2
        exact ⟨by rw [HN.out]; rfl, hb⟩
      obtain ⟨x, hx⟩ : ∃ x : Nat, dx = (x : Int) := ⟨dx.toNat, by omega⟩
      subst hx
      have hx64 : x < 64 := by omega
      rw [if_neg hx0, Int.toNat_natCast] at HS
      clear cx hx0
      obtain ⟨V, hV⟩ : ∃ V, r * 64 + x = V := ⟨_, rfl⟩
      have HV : Hid _ := hV
      have jV : (r : Int) * 64 + (x : Int) = (V : Int) := by omega
      clear hV
      rcases hn with rfl | rfl | rfl | rfl
      · have hr0 : r < 1 := HRr.out
        have HDf : Hid (dec 0 0 l = (dec 6 V (s.data.toList.drop (k + 1))).map (pre cur)) := by
          rw [Hid, HS.out, show decOut 0 r x = [] from rfl, List.append_nil, show V = x by have := HV.out; omega]
          rfl
        have HRf : Hid (V < 2 ^ 6) := by have := HV.out; rw [Hid]; omega
        have HLf : Hid (8 * cur.length + 6 = 6 * (k + 1)) := by have := HL.out; rw [Hid]; omega
        go_wp2_with fail
        exact ⟨⟨k + 1, 6, V, cur, by omega, by go_num, rfl, rfl, by simp, HRf.out, HDf.out, HLf.out, hown, hb⟩, by simp [intOf]; omega⟩
      · have hrn : r < 64 := HRr.out
        have hV4 : V < 4096 := by have := HV.out; omega
        obtain ⟨v, hv⟩ : ∃ v, V / 16 = v := ⟨_, rfl⟩
        have hv2 : v < 256 := by have := HV.out; omega
        have jv : (V : Int) / 16 = (v : Int) := by omega
        obtain ⟨m, hm⟩ : ∃ m, V % 16 = m := ⟨_, rfl⟩
        have a0 : bits BinOp.and IntKind.i64 (V : Int) 15 = (m : Int) := by rw [← hm]; exact and_16 ⟨V, hV4⟩
        obtain ⟨c, hc⟩ : ∃ c, UInt8.ofNat v = c := ⟨_, rfl⟩
        have HCv : Hid (cellsOf [c] = [Value.int .u8 (v : Int)]) := by
          rw [Hid, ← hc]
          show [Value.int .u8 ((UInt8.ofNat v).toNat : Int)] = _
          rw [b8 hv2]
        have HDf0 : Hid (dec 0 0 l = (dec 4 m (s.data.toList.drop (k + 1))).map (pre (cur ++ [c]))) := by
          rw [Hid, HS.out, show decOut 6 r x = [UInt8.ofNat ((r * 64 + x) / 16)] from rfl, HV.out, hv, hc, show decR 6 r x = m by show (r * 64 + x) % 16 = m; rw [HV.out]; exact hm]
          rfl
        clear hc
        go_wp2_with (at_builtin; refine wpList_append_own _ rfl (.tmp 31) (.tmp 36) 37 rfl w.heap.size 5 i0 (.int .u8 0) 1 1 Tryd.underlying37 hi hz0 hz1 hz2 rfl (by decide) _ _ _ rfl (hown.alloc _) ⟨_, 0, none⟩ 1 1 [Value.int .u8 (v : Int)] rfl rfl (new_cells _ [Value.int .u8 (v : Int)] _) (by rw [← HCv.out]; exact cellsOf_one _) (by have := HL.out; unfold maxLen; omega) (by have := HL.out; omega) (by simp; omega) ?_)
        intro x5 w5 own5 grow5 _
        have bel5 : Below w.heap.size w w5 := (hb.alloc hsz _).grown grow5 (by simp; omega) (fun i hi => (hown.lt i hi).1)
        have row5 : w5.ownsRow w.heap.size 5 1 x5 (cur ++ [c]).length (cellsOf (cur ++ [c])) := by
          rw [cellsOf_append, snoc_len rfl, HCv.out]; exact own5
        clear own5 grow5
        obtain ⟨C5, hC5⟩ : ∃ C, cur ++ [c] = C := ⟨_, rfl⟩
        have HCl5 : Hid (C5.length = cur.length + 1) := by rw [Hid, ← hC5, snoc_len rfl]
        rw [hC5] at row5
        obtain ⟨ad5, cap5, rfl⟩ := form_of_row row5
        clear hown
        go_wp2_with fail
        have HDf : Hid (dec 0 0 l = (dec 4 m (s.data.toList.drop (k + 1))).map (pre C5)) := by rw [Hid, ← hC5]; exact HDf0.out
        have HRf : Hid (m < 2 ^ 4) := by rw [Hid]; omega
        have HLf : Hid (8 * C5.length + 4 = 6 * (k + 1)) := by have := HL.out; have := HCl5.out; rw [Hid]; omega
        exact ⟨⟨k + 1, 4, m, C5, by omega, by go_num, rfl, rfl, by simp, HRf.out, HDf.out, HLf.out, row5, bel5⟩, by simp [intOf]; omega⟩
      · have hrn : r < 16 := HRr.out
        have hV4 : V < 4096 := by have := HV.out; omega
        obtain ⟨v, hv⟩ : ∃ v, V / 4 = v := ⟨_, rfl⟩
        have hv2 : v < 256 := by have := HV.out; omega
        have jv : (V : Int) / 4 = (v : Int) := by omega
        obtain ⟨m, hm⟩ : ∃ m, V % 4 = m := ⟨_, rfl⟩
        have a0 : bits BinOp.and IntKind.i64 (V : Int) 3 = (m : Int) := by rw [← hm]; exact and_4 ⟨V, hV4⟩
        obtain ⟨c, hc⟩ : ∃ c, UInt8.ofNat v = c := ⟨_, rfl⟩
        have HCv : Hid (cellsOf [c] = [Value.int .u8 (v : Int)]) := by
          rw [Hid, ← hc]
          show [Value.int .u8 ((UInt8.ofNat v).toNat : Int)] = _
          rw [b8 hv2]
        have HDf0 : Hid (dec 0 0 l = (dec 2 m (s.data.toList.drop (k + 1))).map (pre (cur ++ [c]))) := by
          rw [Hid, HS.out, show decOut 4 r x = [UInt8.ofNat ((r * 64 + x) / 4)] from rfl, HV.out, hv, hc, show decR 4 r x = m by show (r * 64 + x) % 4 = m; rw [HV.out]; exact hm]
          rfl
        clear hc
        go_wp2_with (at_builtin; refine wpList_append_own _ rfl (.tmp 31) (.tmp 36) 37 rfl w.heap.size 5 i0 (.int .u8 0) 1 1 Tryd.underlying37 hi hz0 hz1 hz2 rfl (by decide) _ _ _ rfl (hown.alloc _) ⟨_, 0, none⟩ 1 1 [Value.int .u8 (v : Int)] rfl rfl (new_cells _ [Value.int .u8 (v : Int)] _) (by rw [← HCv.out]; exact cellsOf_one _) (by have := HL.out; unfold maxLen; omega) (by have := HL.out; omega) (by simp; omega) ?_)
        intro x5 w5 own5 grow5 _
        have bel5 : Below w.heap.size w w5 := (hb.alloc hsz _).grown grow5 (by simp; omega) (fun i hi => (hown.lt i hi).1)
        have row5 : w5.ownsRow w.heap.size 5 1 x5 (cur ++ [c]).length (cellsOf (cur ++ [c])) := by
          rw [cellsOf_append, snoc_len rfl, HCv.out]; exact own5
        clear own5 grow5
        obtain ⟨C5, hC5⟩ : ∃ C, cur ++ [c] = C := ⟨_, rfl⟩
        have HCl5 : Hid (C5.length = cur.length + 1) := by rw [Hid, ← hC5, snoc_len rfl]
        rw [hC5] at row5
        obtain ⟨ad5, cap5, rfl⟩ := form_of_row row5
        clear hown
        go_wp2_with fail
        have HDf : Hid (dec 0 0 l = (dec 2 m (s.data.toList.drop (k + 1))).map (pre C5)) := by rw [Hid, ← hC5]; exact HDf0.out
        have HRf : Hid (m < 2 ^ 2) := by rw [Hid]; omega
        have HLf : Hid (8 * C5.length + 2 = 6 * (k + 1)) := by have := HL.out; have := HCl5.out; rw [Hid]; omega
        exact ⟨⟨k + 1, 2, m, C5, by omega, by go_num, rfl, rfl, by simp, HRf.out, HDf.out, HLf.out, row5, bel5⟩, by simp [intOf]; omega⟩
      · have hrn : r < 4 := HRr.out
        have hV4 : V < 4096 := by have := HV.out; omega
        obtain ⟨v, hv⟩ : ∃ v, V = v := ⟨_, rfl⟩
        subst hv
        have hv2 : V < 256 := by have := HV.out; omega
        have a0 : bits BinOp.and IntKind.i64 (V : Int) 0 = 0 := and_0 ⟨V, hV4⟩
        obtain ⟨c, hc⟩ : ∃ c, UInt8.ofNat V = c := ⟨_, rfl⟩
        have HCv : Hid (cellsOf [c] = [Value.int .u8 (V : Int)]) := by
          rw [Hid, ← hc]
          show [Value.int .u8 ((UInt8.ofNat V).toNat : Int)] = _
          rw [b8 hv2]
        have HDf0 : Hid (dec 0 0 l = (dec 0 0 (s.data.toList.drop (k + 1))).map (pre (cur ++ [c]))) := by
          rw [Hid, HS.out, show decOut 2 r x = [UInt8.ofNat ((r * 64 + x))] from rfl, HV.out, hc]
          rfl
        clear hc
        go_wp2_with (at_builtin; refine wpList_append_own _ rfl (.tmp 31) (.tmp 36) 37 rfl w.heap.size 5 i0 (.int .u8 0) 1 1 Tryd.underlying37 hi hz0 hz1 hz2 rfl (by decide) _ _ _ rfl (hown.alloc _) ⟨_, 0, none⟩ 1 1 [Value.int .u8 (V : Int)] rfl rfl (new_cells _ [Value.int .u8 (V : Int)] _) (by rw [← HCv.out]; exact cellsOf_one _) (by have := HL.out; unfold maxLen; omega) (by have := HL.out; omega) (by simp; omega) ?_)
        intro x5 w5 own5 grow5 _
        have bel5 : Below w.heap.size w w5 := (hb.alloc hsz _).grown grow5 (by simp; omega) (fun i hi => (hown.lt i hi).1)
        have row5 : w5.ownsRow w.heap.size 5 1 x5 (cur ++ [c]).length (cellsOf (cur ++ [c])) := by
          rw [cellsOf_append, snoc_len rfl, HCv.out]; exact own5
        clear own5 grow5
        obtain ⟨C5, hC5⟩ : ∃ C, cur ++ [c] = C := ⟨_, rfl⟩
        have HCl5 : Hid (C5.length = cur.length + 1) := by rw [Hid, ← hC5, snoc_len rfl]
        rw [hC5] at row5
        obtain ⟨ad5, cap5, rfl⟩ := form_of_row row5
        clear hown
        go_wp2_with fail
        have HDf : Hid (dec 0 0 l = (dec 0 0 (s.data.toList.drop (k + 1))).map (pre C5)) := by rw [Hid, ← hC5]; exact HDf0.out
        have HRf : Hid (0 < 2 ^ 0) := by rw [Hid]; omega
        have HLf : Hid (8 * C5.length + 0 = 6 * (k + 1)) := by have := HL.out; have := HCl5.out; rw [Hid]; omega
        exact ⟨⟨k + 1, 0, 0, C5, by omega, by go_num, rfl, rfl, by simp, HRf.out, HDf.out, HLf.out, row5, bel5⟩, by simp [intOf]; omega⟩
    · obtain rfl : k = s.size := by omega
      have HD2 : Hid (dec 0 0 l = some (cur, n, r)) := by
        have e := HD.out
        rw [List.drop_eq_nil_of_le (by have := HLL.out; omega), dec, Option.map_some] at e
        rw [Hid, e]
        simp [pre]
      have hc := conv_row hown
      obtain ⟨E, hE⟩ : ∃ E : ByteArray, E = ⟨(enc 0 0 cur).toArray⟩ := ⟨_, rfl⟩
      have HP2 : Hid (∀ W : World, Calls Tryd.prog 43 #[.string ⟨cur.toArray⟩] W fun e W' => e = .returned (.string E) ∧ Below W.heap.size W W') := by
        rw [Hid, hE]
        exact fun W => refBase64_any ⟨cur.toArray⟩ W (by rw [mk_size]; have := HL.out; omega)
      have HQ := (enc_dec l).1 cur n r HD2.out
      go_wp2_with fail
      refine (HP2.out _).mono ?_
      rintro e1 w2 ⟨rfl, B2⟩
      have hb2 : Below w.heap.size w w2 := hb.trans (B2.mono hsz)
      have hown2 := row_below0 hown B2
      have hc2 := conv_row hown2
      clear hc hown hown2 B2 HP2
      by_cases hse : E = s
      · have HN : Hid (unbV l = #[.string ⟨cur.toArray⟩, .bool true]) := by
          have hq : enc 0 0 cur = l := by
            rw [HSl.out, ← hse, hE]
          rw [Hid, unbV, HD2.out]
          exact if_neg (HQ.1 hq)
        subst hse
        clear HQ hE
        go_wp2_with fail
        go_ret2
        exact ⟨by rw [HN.out]; rfl, hb2⟩
      · have HN : Hid (unbV l = #[.string ⟨#[]⟩, .bool false]) := by
          rw [Hid, unbV, HD2.out]
          refine if_pos (Classical.byContradiction fun hn => hse ?_)
          have hq := HQ.2 hn
          apply bytes_ext0
          rw [hE]
          show enc 0 0 cur = _
          rw [hq, HSl.out]
        have hne := beq_ne hse
        clear HQ hE
        go_wp2_with fail
        go_ret2
        exact ⟨by rw [HN.out]; rfl, hb2⟩
end Go.Proofs.YtedibkcempcpnaaDoor
