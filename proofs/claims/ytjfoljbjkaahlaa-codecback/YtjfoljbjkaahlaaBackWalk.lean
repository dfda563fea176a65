/-
  The walk of CodecBack: whatever the writes, the call returns true, and turns nothing that was there.
-/
import Derived.Test.YtjfoljbjkaahlaaWriteOp
import Derived.Deep.RegionWith
namespace Go.Proofs.Ytjfoljbjkaahlaa
open Go.RowKit
theorem keep_cell' {w w1 : World} {i : Nat} {p : Addr} {v : Value} (k : Keeps (fun j => j = i) w w1) (h : w.cell? p = some v) (ha : p.block ≠ i) : w1.cell? p = some v := by
  have hl : p.block < w.heap.size := World.block_lt_of_cell? w p h
  rw [World.cell?_of_block (w := w) (a := p) (k.block _ hl ha)]
  exact h
section
variable {b : Nat} {R : List UInt8} {w : World}
theorem read_0 (n : Nat) (h : RIs w b ⟨(be1 n ++ R).toArray⟩ 0) (hs : (⟨(be1 n ++ R).toArray⟩ : ByteArray).size ≤ maxLen) :
    Calls Try.prog 10 #[.pointer (some ⟨b, 0, none⟩)] w fun r w' => r = .returned (.int .u8 ((n : Int) % 256)) ∧ RIs w' b ⟨R.toArray⟩ 0 ∧ Keeps (fun i => i = b) w w' := by
  refine (u8_any b _ 0 w h hs).mono ?_
  rintro r w' ⟨rfl, h', k'⟩
  rw [rTake_list (l := be1 n) (m := 1) rfl] at h' ⊢
  refine ⟨?_, h', k'⟩
  show Ending.returned (.int .u8 ((beNat (be1 n) : Nat) : Int)) = _
  rw [beNat1]
  simp
theorem read_1 (n : Nat) (h : RIs w b ⟨(be2 n ++ R).toArray⟩ 0) (hs : (⟨(be2 n ++ R).toArray⟩ : ByteArray).size ≤ maxLen) :
    Calls Try.prog 11 #[.pointer (some ⟨b, 0, none⟩)] w fun r w' => r = .returned (.int .u16 (IntKind.u16.wrap (n : Int))) ∧ RIs w' b ⟨R.toArray⟩ 0 ∧ Keeps (fun i => i = b) w w' := by
  refine (u16_any b _ 0 w h hs).mono ?_
  rintro r w' ⟨rfl, h', k'⟩
  rw [rTake_list (l := be2 n) (m := 2) rfl] at h' ⊢
  refine ⟨?_, h', k'⟩
  show Ending.returned (.int .u16 ((beNat (be2 n) : Nat) : Int)) = _
  rw [beNat2, IntKind.wrap_u16]
  simp
theorem read_2 (n : Nat) (h : RIs w b ⟨(be4 n ++ R).toArray⟩ 0) (hs : (⟨(be4 n ++ R).toArray⟩ : ByteArray).size ≤ maxLen) :
    Calls Try.prog 12 #[.pointer (some ⟨b, 0, none⟩)] w fun r w' => r = .returned (.int .u32 ((n : Int) % 4294967296)) ∧ RIs w' b ⟨R.toArray⟩ 0 ∧ Keeps (fun i => i = b) w w' := by
  refine (u32_any b _ 0 w h hs).mono ?_
  rintro r w' ⟨rfl, h', k'⟩
  rw [rTake_list (l := be4 n) (m := 4) rfl] at h' ⊢
  refine ⟨?_, h', k'⟩
  show Ending.returned (.int .u32 ((beNat (be4 n) : Nat) : Int)) = _
  rw [beNat4]
  simp
theorem read_3 (n : Nat) (hn : n < 18446744073709551616) (h : RIs w b ⟨(be8 n ++ R).toArray⟩ 0) (hs : (⟨(be8 n ++ R).toArray⟩ : ByteArray).size ≤ maxLen) :
    Calls Try.prog 13 #[.pointer (some ⟨b, 0, none⟩)] w fun r w' => r = .returned (.int .u64 (n : Int)) ∧ RIs w' b ⟨R.toArray⟩ 0 ∧ Keeps (fun i => i = b) w w' := by
  refine (u64_any b _ 0 w h hs).mono ?_
  rintro r w' ⟨rfl, h', k'⟩
  rw [rTake_list (l := be8 n) (m := 8) rfl] at h' ⊢
  refine ⟨?_, h', k'⟩
  show Ending.returned (.int .u64 ((beNat (be8 n) : Nat) : Int)) = _
  rw [beNat8 hn]
theorem read_4 (n : Nat) (hn : n < 18446744073709551616) (h : RIs w b ⟨(varint n ++ R).toArray⟩ 0) (hs : (⟨(varint n ++ R).toArray⟩ : ByteArray).size ≤ maxLen) :
    Calls Try.prog 14 #[.pointer (some ⟨b, 0, none⟩)] w fun r w' => r = .returned (.int .u64 (n : Int)) ∧ RIs w' b ⟨R.toArray⟩ 0 ∧ Keeps (fun i => i = b) w w' := by
  refine (varint_any b _ 0 w h hs).mono ?_
  rintro r w' ⟨rfl, h', k'⟩
  rw [rVar_list hn] at h' ⊢
  exact ⟨rfl, h', k'⟩
theorem read_5 (s : ByteArray) (hl : s.size < 18446744073709551616) (h : RIs w b ⟨(textBytes s ++ R).toArray⟩ 0) (hs : (⟨(textBytes s ++ R).toArray⟩ : ByteArray).size ≤ maxLen) :
    Calls Try.prog 15 #[.pointer (some ⟨b, 0, none⟩)] w fun r w' => r = .returned (.string s) ∧ RIs w' b ⟨R.toArray⟩ 0 ∧ Keeps (fun i => i = b) w w' := by
  refine (text_any b _ 0 w h hs).mono ?_
  rintro r w' ⟨rfl, h', k'⟩
  rw [rText_list hl] at h' ⊢
  exact ⟨rfl, h', k'⟩
theorem read_6 (s : ByteArray) (hl : s.size ≤ maxLen) (h : RIs w b ⟨(s.data.toList ++ R).toArray⟩ 0) (hs : (⟨(s.data.toList ++ R).toArray⟩ : ByteArray).size ≤ maxLen) :
    Calls Try.prog 16 #[.pointer (some ⟨b, 0, none⟩), .int .i64 s.size] w fun r w' => r = .returned (.string s) ∧ RIs w' b ⟨R.toArray⟩ 0 ∧ Keeps (fun i => i = b) w w' := by
  refine (raw_any b _ 0 s.size w h hs (by unfold maxLen at hl; omega)).mono ?_
  rintro r w' ⟨rfl, h', k'⟩
  rw [rRaw, if_neg (by omega), Int.toNat_natCast, rTake_list (size_list s).symm] at h' ⊢
  exact ⟨rfl, h', k'⟩
end
theorem size_wrap {x y : Nat} (hx : x ≤ 1073741824) (hy : y ≤ 140737488355328) : wrap64 ((x : Int) + wrap64 ((y : Int) + 10)) = ((x + y + 10 : Nat) : Int) := by
  unfold wrap64; omega
def sizeTo (S : Nat → ByteArray) : Nat → Nat
  | 0 => 0
  | k + 1 => sizeTo S k + (S k).size + 10
def putAll (K : Nat → Int) (N : Nat → Nat) (S : Nat → ByteArray) : Nat → List UInt8 := fun j => opBytes (K j) (N j) (S j)
set_option maxRecDepth 100000 in
set_option maxHeartbeats 4000000 in
theorem back_walk (b off len cap : Nat) (K : Nat → Int) (N : Nat → Nat) (S : Nat → ByteArray) (w : World) (hlen : len ≤ 9223372036854775807)
    (hb : b < w.heap.size)
    (hops : ∀ j, j < len → w.cell? ⟨b, off + j * 3, none⟩ = some (.int .i64 (K j)) ∧ w.cell? ⟨b, off + j * 3 + 1, none⟩ = some (.int .u64 (N j)) ∧ w.cell? ⟨b, off + j * 3 + 2, none⟩ = some (.string (S j)) ∧ N j < 18446744073709551616 ∧ (S j).size ≤ 140737488355328) :
    Calls Try.prog 3 #[.slice (some ⟨b, off, none⟩) len cap] w fun r w' => r = .returned (.bool true) ∧ Below w.heap.size w w' := by
  have HO : Hid _ := hops
  clear hops
  go_enter Try.func3, Try.ntmps3
  go_wp2_with fail
  refine (newWriter_any 1073741824 _).mono ?_
  rintro e w1 ⟨rfl, h1, k1⟩
  rw [show max (1073741824 : Int) 0 = 1073741824 from rfl] at h1
  replace h1 := h1.none (w.heap.size)
  have B1 : Below w.heap.size w w1 := k1.below (Nat.le_refl _) (fun _ f => f.elim)
  have z1 := h1.lt
  go_wp2_with fail
  refine (awake_any _).mono ?_
  rintro e w2 ⟨rfl, B2⟩
  have h2 : WIs w2 w.heap.size w.heap.size 1073741824 [] false (.slice none 0 0) := ⟨(B2.block _ z1).trans h1.block, World.ownsRow_nil _ _ _ _⟩
  have B3 : Below w.heap.size w w2 := B1.trans (B2.mono (by omega))
  have z2 := B2.size
  have z3 := h2.lt
  clear h1 k1 B1 B2
  go_wp2_with fail
  go_loopw [4, 22] (fun sz i wr => ∃ k : Nat, ∃ v, k ≤ len ∧ sz = .int .i64 (sizeTo S k) ∧ i = .int .i64 k ∧ Hid (sizeTo S k ≤ 1073741824) ∧ WIs wr w.heap.size w.heap.size 1073741824 (restFrom (putAll K N S) k 0) false v ∧ Hid ((restFrom (putAll K N S) k 0).length ≤ sizeTo S k) ∧ Below w.heap.size w wr) (fun _ i _ => len - (intOf i).toNat)
  case atStart => exact ⟨0, _, by omega, rfl, rfl, Nat.zero_le _, h2, Nat.le_refl _, B3⟩
  case round =>
    obtain ⟨k, v, hk, rfl, rfl, HZ, hW, HLn, hbel⟩ := hrel
    by_cases hlt : k < len
    · obtain ⟨o0, o1, o2, o3, o4⟩ := HO.out k hlt
      have c0 := (hbel.cell (p := ⟨b, off + k * 3, none⟩) hb).trans o0
      have c1 := (hbel.cell (p := ⟨b, off + k * 3 + 1, none⟩) hb).trans o1
      have c2 := (hbel.cell (p := ⟨b, off + k * 3 + 2, none⟩) hb).trans o2
      obtain ⟨q, hq⟩ : ∃ q, sizeTo S (k + 1) = q := ⟨_, rfl⟩
      have hq' : sizeTo S k + (S k).size + 10 = q := hq
      have hsz : wrap64 ((sizeTo S k : Int) + wrap64 (((S k).size : Int) + 10)) = (q : Int) := by
        rw [size_wrap HZ.out o4, hq']
      have HQ : Hid _ := hq
      have HQ' : Hid _ := hq'
      have HO4 : Hid _ := o4
      clear hq hq' o4
      by_cases hbig : 1073741824 < q
      · go_wp2_with fail
        go_ret
        exact ⟨rfl, hbel.alloc hbel.size _⟩
      · have hbase := B3.size
        have hz4 := hbel.size
        go_wp2_with fail
        refine (write_any _ _ _ (hW.alloc _) (by simp; omega) o3 (by have := HLn.out; have := HQ'.out; omega)).mono ?_
        rintro e3 w3 ⟨rfl, ⟨v3, hW3⟩, k3⟩
        have HW3 : Hid (WIs w3 w.heap.size w.heap.size 1073741824 (restFrom (putAll K N S) (k + 1) 0) false v3) := by
          rw [restFrom_snoc, Nat.zero_add]; exact hW3
        have HB3 : Hid (Below w.heap.size w w3) := (hbel.alloc hbel.size _).trans (k3.below (by simp; omega) (by rintro i (rfl | hi) <;> omega))
        have HL3 : Hid ((restFrom (putAll K N S) (k + 1) 0).length ≤ q) := by
          rw [restFrom_snoc, Nat.zero_add, List.length_append]
          have := opBytes_len (K k) (N k) (S k) o3 (by have := HO4.out; omega)
          have := HLn.out; have := HQ'.out
          show _ ≤ _
          rw [show putAll K N S k = opBytes (K k) (N k) (S k) from rfl]
          omega
        clear c0 c1 c2 o0 o1 o2 k3 hW hW3
        go_wp2_with fail
        go_roundw
        case rel => exact ⟨k + 1, v3, by omega, by rw [HQ.out], by go_num, by rw [HQ.out]; show _ ≤ _; omega, HW3.out, by rw [HQ.out]; exact HL3.out, HB3.out⟩
        case measure => simp [intOf]; omega
    · obtain rfl : k = len := by omega
      go_wp2_with fail
      refine (wdone_ok hW).mono ?_
      rintro e4 w4 ⟨rfl, rfl⟩
      go_wp2_with fail
      have HM : Hid ((⟨(restFrom (putAll K N S) k 0).toArray⟩ : ByteArray).size ≤ maxLen) := by
        have := HLn.out; have := HZ.out
        show _ ≤ _
        rw [size_mk]; unfold maxLen; omega
      refine (newReader_any _ _).mono ?_
      rintro e5 w5 ⟨rfl, h5, k5⟩
      have B5 : Below w.heap.size w w5 := hbel.trans (k5.below hbel.size (fun _ f => f.elim))
      have z4 := hbel.size
      clear hbel hW k5 HZ HLn h2 B3
      go_wp2_with fail
      go_loopw [53] (fun i wr => ∃ j : Nat, j ≤ k ∧ i = .int .i64 j ∧ RIs wr w4.heap.size ⟨(restFrom (putAll K N S) (k - j) j).toArray⟩ 0 ∧ Hid ((⟨(restFrom (putAll K N S) (k - j) j).toArray⟩ : ByteArray).size ≤ maxLen) ∧ Below w.heap.size w wr) (fun i _ => k - (intOf i).toNat)
      case atStart => exact ⟨0, Nat.zero_le _, rfl, h5, HM, B5⟩
      case round =>
        obtain ⟨j, hj, rfl, hR, HM', hbel⟩ := hrel
        clear h5 HM B5
        by_cases hjt : j < k
        · obtain ⟨o0, o1, o2, o3, o4⟩ := HO.out j hjt
          have c0 := (hbel.cell (p := ⟨b, off + j * 3, none⟩) hb).trans o0
          have c1 := (hbel.cell (p := ⟨b, off + j * 3 + 1, none⟩) hb).trans o1
          have c2 := (hbel.cell (p := ⟨b, off + j * 3 + 2, none⟩) hb).trans o2
          obtain ⟨m, hm⟩ : ∃ m, k - j = m + 1 := ⟨k - j - 1, by omega⟩
          obtain ⟨R, hR0⟩ : ∃ R, restFrom (putAll K N S) (k - (j + 1)) (j + 1) = R := ⟨_, rfl⟩
          have hrest : restFrom (putAll K N S) (k - j) j = opBytes (K j) (N j) (S j) ++ R := by
            rw [hm, ← hR0, show k - (j + 1) = m by omega]; rfl
          rw [hrest] at hR HM'
          have HRR : Hid _ := hR0
          have HM2 : Hid ((⟨R.toArray⟩ : ByteArray).size ≤ maxLen) := by
            have := HM'.out
            rw [size_mk, List.length_append] at this
            show _ ≤ _
            rw [size_mk]; omega
          clear hm hrest hR0
          by_cases h0 : K j = 0
          · rw [h0] at c0 hR HM'
            have R0 : Hid (RIs (wr.alloc (.cells #[.int .i64 0, .int .u64 (N j), .string (S j)] 28)).drew w4.heap.size ⟨(be1 (N j) ++ R).toArray⟩ 0) := hR.alloc _
            have HP' : Hid _ := read_0 (N j) R0.out HM'.out
            have q0 : (wr.alloc (.cells #[.int .i64 0, .int .u64 (N j), .string (S j)] 28)).drew.cell? ⟨wr.heap.size, 1, none⟩ = some (.int .u64 (N j)) := by simp [go_sem]
            have hne : wr.heap.size ≠ w4.heap.size := by have := hR.lt; omega
            have KK : Hid (Keeps (fun i => i = w4.heap.size) wr (wr.alloc (.cells #[.int .i64 0, .int .u64 (N j), .string (S j)] 28)).drew) := ((Keeps.refl (fun i => i = w4.heap.size) wr).alloc (.cells #[.int .i64 0, .int .u64 (N j), .string (S j)] 28)).drew
            clear hR
            go_wp2_with fail
            go_region_with (go_at_call 10; go_loud (refine Calls.mono HP'.out ?_; rintro r1 w6 ⟨rfl, h6, k6⟩; have q1 := keep_cell' k6 q0 hne))
            all_goals go_wp2_with fail
            all_goals exact ⟨⟨j + 1, by omega, by go_num, by rw [HRR.out]; exact h6, by rw [HRR.out]; exact HM2.out, hbel.trans ((KK.out.trans k6).below hbel.size (by rintro i rfl; exact z4))⟩, by simp [intOf]; omega⟩
          by_cases h1 : K j = 1
          · rw [h1] at c0 hR HM'
            have R0 : Hid (RIs (wr.alloc (.cells #[.int .i64 1, .int .u64 (N j), .string (S j)] 28)).drew w4.heap.size ⟨(be2 (N j) ++ R).toArray⟩ 0) := hR.alloc _
            have HP' : Hid _ := read_1 (N j) R0.out HM'.out
            have q0 : (wr.alloc (.cells #[.int .i64 1, .int .u64 (N j), .string (S j)] 28)).drew.cell? ⟨wr.heap.size, 1, none⟩ = some (.int .u64 (N j)) := by simp [go_sem]
            have hne : wr.heap.size ≠ w4.heap.size := by have := hR.lt; omega
            have KK : Hid (Keeps (fun i => i = w4.heap.size) wr (wr.alloc (.cells #[.int .i64 1, .int .u64 (N j), .string (S j)] 28)).drew) := ((Keeps.refl (fun i => i = w4.heap.size) wr).alloc (.cells #[.int .i64 1, .int .u64 (N j), .string (S j)] 28)).drew
            clear hR
            go_wp2_with fail
            go_region_with (go_at_call 11; go_loud (refine Calls.mono HP'.out ?_; rintro r1 w6 ⟨rfl, h6, k6⟩; have q1 := keep_cell' k6 q0 hne))
            all_goals go_wp2_with fail
            all_goals exact ⟨⟨j + 1, by omega, by go_num, by rw [HRR.out]; exact h6, by rw [HRR.out]; exact HM2.out, hbel.trans ((KK.out.trans k6).below hbel.size (by rintro i rfl; exact z4))⟩, by simp [intOf]; omega⟩
          by_cases h2 : K j = 2
          · rw [h2] at c0 hR HM'
            have R0 : Hid (RIs (wr.alloc (.cells #[.int .i64 2, .int .u64 (N j), .string (S j)] 28)).drew w4.heap.size ⟨(be4 (N j) ++ R).toArray⟩ 0) := hR.alloc _
            have HP' : Hid _ := read_2 (N j) R0.out HM'.out
            have q0 : (wr.alloc (.cells #[.int .i64 2, .int .u64 (N j), .string (S j)] 28)).drew.cell? ⟨wr.heap.size, 1, none⟩ = some (.int .u64 (N j)) := by simp [go_sem]
            have hne : wr.heap.size ≠ w4.heap.size := by have := hR.lt; omega
            have KK : Hid (Keeps (fun i => i = w4.heap.size) wr (wr.alloc (.cells #[.int .i64 2, .int .u64 (N j), .string (S j)] 28)).drew) := ((Keeps.refl (fun i => i = w4.heap.size) wr).alloc (.cells #[.int .i64 2, .int .u64 (N j), .string (S j)] 28)).drew
            clear hR
            go_wp2_with fail
            go_region_with (go_at_call 12; go_loud (refine Calls.mono HP'.out ?_; rintro r1 w6 ⟨rfl, h6, k6⟩; have q1 := keep_cell' k6 q0 hne))
            all_goals go_wp2_with fail
            all_goals exact ⟨⟨j + 1, by omega, by go_num, by rw [HRR.out]; exact h6, by rw [HRR.out]; exact HM2.out, hbel.trans ((KK.out.trans k6).below hbel.size (by rintro i rfl; exact z4))⟩, by simp [intOf]; omega⟩
          by_cases h3 : K j = 3
          · rw [h3] at c0 hR HM'
            have R0 : Hid (RIs (wr.alloc (.cells #[.int .i64 3, .int .u64 (N j), .string (S j)] 28)).drew w4.heap.size ⟨(be8 (N j) ++ R).toArray⟩ 0) := hR.alloc _
            have HP' : Hid _ := read_3 (N j) o3 R0.out HM'.out
            have q0 : (wr.alloc (.cells #[.int .i64 3, .int .u64 (N j), .string (S j)] 28)).drew.cell? ⟨wr.heap.size, 1, none⟩ = some (.int .u64 (N j)) := by simp [go_sem]
            have hne : wr.heap.size ≠ w4.heap.size := by have := hR.lt; omega
            have KK : Hid (Keeps (fun i => i = w4.heap.size) wr (wr.alloc (.cells #[.int .i64 3, .int .u64 (N j), .string (S j)] 28)).drew) := ((Keeps.refl (fun i => i = w4.heap.size) wr).alloc (.cells #[.int .i64 3, .int .u64 (N j), .string (S j)] 28)).drew
            clear hR
            go_wp2_with fail
            go_region_with (go_at_call 13; go_loud (refine Calls.mono HP'.out ?_; rintro r1 w6 ⟨rfl, h6, k6⟩; have q1 := keep_cell' k6 q0 hne))
            all_goals go_wp2_with fail
            all_goals exact ⟨⟨j + 1, by omega, by go_num, by rw [HRR.out]; exact h6, by rw [HRR.out]; exact HM2.out, hbel.trans ((KK.out.trans k6).below hbel.size (by rintro i rfl; exact z4))⟩, by simp [intOf]; omega⟩
          by_cases h4 : K j = 4
          · rw [h4] at c0 hR HM'
            have R0 : Hid (RIs (wr.alloc (.cells #[.int .i64 4, .int .u64 (N j), .string (S j)] 28)).drew w4.heap.size ⟨(varint (N j) ++ R).toArray⟩ 0) := hR.alloc _
            have HP' : Hid _ := read_4 (N j) o3 R0.out HM'.out
            have q0 : (wr.alloc (.cells #[.int .i64 4, .int .u64 (N j), .string (S j)] 28)).drew.cell? ⟨wr.heap.size, 1, none⟩ = some (.int .u64 (N j)) := by simp [go_sem]
            have hne : wr.heap.size ≠ w4.heap.size := by have := hR.lt; omega
            have KK : Hid (Keeps (fun i => i = w4.heap.size) wr (wr.alloc (.cells #[.int .i64 4, .int .u64 (N j), .string (S j)] 28)).drew) := ((Keeps.refl (fun i => i = w4.heap.size) wr).alloc (.cells #[.int .i64 4, .int .u64 (N j), .string (S j)] 28)).drew
            clear hR
            go_wp2_with fail
            go_region_with (go_at_call 14; go_loud (refine Calls.mono HP'.out ?_; rintro r1 w6 ⟨rfl, h6, k6⟩; have q1 := keep_cell' k6 q0 hne))
            all_goals go_wp2_with fail
            all_goals exact ⟨⟨j + 1, by omega, by go_num, by rw [HRR.out]; exact h6, by rw [HRR.out]; exact HM2.out, hbel.trans ((KK.out.trans k6).below hbel.size (by rintro i rfl; exact z4))⟩, by simp [intOf]; omega⟩
          by_cases h5 : K j = 5
          · rw [h5] at c0 hR HM'
            have R0 : Hid (RIs (wr.alloc (.cells #[.int .i64 5, .int .u64 (N j), .string (S j)] 28)).drew w4.heap.size ⟨(textBytes (S j) ++ R).toArray⟩ 0) := hR.alloc _
            have HP' : Hid _ := read_5 (S j) (by omega) R0.out HM'.out
            have q0 : (wr.alloc (.cells #[.int .i64 5, .int .u64 (N j), .string (S j)] 28)).drew.cell? ⟨wr.heap.size, 2, none⟩ = some (.string (S j)) := by simp [go_sem]
            have hne : wr.heap.size ≠ w4.heap.size := by have := hR.lt; omega
            have KK : Hid (Keeps (fun i => i = w4.heap.size) wr (wr.alloc (.cells #[.int .i64 5, .int .u64 (N j), .string (S j)] 28)).drew) := ((Keeps.refl (fun i => i = w4.heap.size) wr).alloc (.cells #[.int .i64 5, .int .u64 (N j), .string (S j)] 28)).drew
            clear hR
            go_wp2_with fail
            go_region_with (go_at_call 15; go_loud (refine Calls.mono HP'.out ?_; rintro r1 w6 ⟨rfl, h6, k6⟩; have q1 := keep_cell' k6 q0 hne))
            all_goals go_wp2_with fail
            all_goals exact ⟨⟨j + 1, by omega, by go_num, by rw [HRR.out]; exact h6, by rw [HRR.out]; exact HM2.out, hbel.trans ((KK.out.trans k6).below hbel.size (by rintro i rfl; exact z4))⟩, by simp [intOf]; omega⟩
          by_cases h6 : K j = 6
          · rw [h6] at c0 hR HM'
            have R0 : Hid (RIs (wr.alloc (.cells #[.int .i64 6, .int .u64 (N j), .string (S j)] 28)).drew w4.heap.size ⟨((S j).data.toList ++ R).toArray⟩ 0) := hR.alloc _
            have HP' : Hid _ := read_6 (S j) (Nat.le_trans o4 (by decide)) R0.out HM'.out
            have q0 : (wr.alloc (.cells #[.int .i64 6, .int .u64 (N j), .string (S j)] 28)).drew.cell? ⟨wr.heap.size, 2, none⟩ = some (.string (S j)) := by simp [go_sem]
            have hne : wr.heap.size ≠ w4.heap.size := by have := hR.lt; omega
            have KK : Hid (Keeps (fun i => i = w4.heap.size) wr (wr.alloc (.cells #[.int .i64 6, .int .u64 (N j), .string (S j)] 28)).drew) := ((Keeps.refl (fun i => i = w4.heap.size) wr).alloc (.cells #[.int .i64 6, .int .u64 (N j), .string (S j)] 28)).drew
            clear hR
            go_wp2_with fail
            go_region_with (go_at_call 16; go_loud (refine Calls.mono HP'.out ?_; rintro r1 w6 ⟨rfl, h6, k6⟩; have q1 := keep_cell' k6 q0 hne))
            all_goals go_wp2_with fail
            all_goals exact ⟨⟨j + 1, by omega, by go_num, by rw [HRR.out]; exact h6, by rw [HRR.out]; exact HM2.out, hbel.trans ((KK.out.trans k6).below hbel.size (by rintro i rfl; exact z4))⟩, by simp [intOf]; omega⟩
          rw [show opBytes (K j) (N j) (S j) = [] by simp [opBytes, h0, h1, h2, h3, h4, h5, h6], List.nil_append] at hR
          have g0 : (K j == 0) = false := by simpa using h0
          have g1 : (K j == 1) = false := by simpa using h1
          have g2 : (K j == 2) = false := by simpa using h2
          have g3 : (K j == 3) = false := by simpa using h3
          have g4 : (K j == 4) = false := by simpa using h4
          have g5 : (K j == 5) = false := by simpa using h5
          have g6 : (K j == 6) = false := by simpa using h6
          clear h0 h1 h2 h3 h4 h5 h6
          go_wp2_with fail
          exact ⟨⟨j + 1, by omega, by go_num, by rw [HRR.out]; exact hR.alloc _, by rw [HRR.out]; exact HM2.out, hbel.alloc hbel.size _⟩, by simp [intOf]; omega⟩
        · obtain rfl : j = k := by omega
          rw [Nat.sub_self] at hR
          replace hR : RIs wr w4.heap.size ⟨#[]⟩ 0 := hR
          go_wp2_with fail
          refine (left_any _ _ _ _ hR).mono ?_
          rintro e6 w6 ⟨rfl, rfl⟩
          rw [show (((⟨#[]⟩ : ByteArray).size : Nat) : Int) = 0 from rfl]
          go_wp2_with fail
          refine (rdone_any _ _ _ _ hR).mono ?_
          rintro e7 w7 ⟨rfl, rfl⟩
          rw [rDone0]
          go_wp2_with fail
          go_ret
          exact ⟨rfl, hbel⟩
end Go.Proofs.Ytjfoljbjkaahlaa
