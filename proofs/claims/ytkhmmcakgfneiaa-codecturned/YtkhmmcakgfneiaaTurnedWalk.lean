/-
  The walk of CodecTurned: whatever the body and the bits of it that are turned, the call returns true, and turns nothing that was there.
-/
import Derived.Test.YtkhmmcakgfneiaaFrameMath
import Derived.Test.YtkhmmcakgfneiaaTurnMath
import Derived.BigRegion
namespace Go.Proofs.Ytkhmmcakgfneiaa
open Go.RowKit
/-- A row of bytes that may be written. -/
structure BRow (w : World) (g : Nat) (xs : List UInt8) : Prop where
  cell : ∀ (j : Nat) (c : UInt8), xs[j]? = some c → w.cell? ⟨g, j, none⟩ = some (.int .u8 (c.toNat : Int))
  free : ∀ (j : Nat), j < xs.length → w.frozen? ⟨g, j, none⟩ = false
theorem cell_of_block' {w : World} {b : Nat} {c : Array Value} {t : TypeId} {f : Nat × Nat} (h : w.heap[b]? = some (.cells c t f)) {o : Nat} {v : Value} (hv : c[o]? = some v) : w.cell? ⟨b, o, none⟩ = some v := by simp [World.cell?, h, hv]
theorem free_of_block' {w : World} {b : Nat} {c : Array Value} {t : TypeId} {f g : Nat} (h : w.heap[b]? = some (.cells c t (f, g))) {o : Nat} (ho : o < f) : w.frozen? ⟨b, o, none⟩ = false := by simp [World.frozen?, h]; omega
theorem BRow.start (w : World) (s : ByteArray) (cap : Nat) : BRow (w.alloc (.cells (bytesRow s cap) 5 ((bytesRow s cap).size, (bytesRow s cap).size + 1))).drew w.heap.size s.data.toList := by
  have hz : s.data.size = s.size := rfl
  have hlen : s.data.toList.length ≤ (bytesRow s cap).size := by simp [bytesRow]
  have hb : (w.alloc (.cells (bytesRow s cap) 5 ((bytesRow s cap).size, (bytesRow s cap).size + 1))).drew.heap[w.heap.size]? = some (.cells (bytesRow s cap) 5 ((bytesRow s cap).size, (bytesRow s cap).size + 1)) := block_alloc_at _ _
  refine ⟨fun j c hj => ?_, fun j hj => ?_⟩
  · have hjl : j < s.data.size := by
      have := (List.getElem?_eq_some_iff.1 hj).1
      simpa using this
    have e : (bytesRow s cap)[j]? = some (.int .u8 (c.toNat : Int)) := by
      rw [bytesRow, Array.getElem?_append_left (by simpa using hjl)]
      simp at hj
      simp [hj]
    exact cell_of_block' hb e
  · exact free_of_block' hb (by omega)
theorem BRow.set {w : World} {g : Nat} {xs : List UInt8} (h : BRow w g xs) {j : Nat} (hj : j < xs.length) (c : UInt8) {u : Int} (hu : u = (c.toNat : Int)) : BRow (w.setCell ⟨g, j, none⟩ (.int .u8 u)).drew g (xs.set j c) := by
  subst hu
  obtain ⟨c0, hc0⟩ : ∃ c0, xs[j]? = some c0 := ⟨xs[j], List.getElem?_eq_getElem hj⟩
  have hcell := h.cell j c0 hc0
  refine ⟨fun i d hd => ?_, fun i hi => ?_⟩
  · by_cases e : i = j
    · subst e
      rw [List.getElem?_set_self hj] at hd
      cases hd
      show (w.setCell ⟨g, i, none⟩ _).cell? ⟨g, i, none⟩ = _
      exact World.cell?_setCell_same _ _ _ hcell
    · rw [List.getElem?_set_ne (by omega)] at hd
      show (w.setCell ⟨g, j, none⟩ _).cell? ⟨g, i, none⟩ = _
      rw [World.cell?_setCell_other _ _ _ _ (by intro q; cases q; exact e rfl)]
      exact h.cell i d hd
  · show (w.setCell ⟨g, j, none⟩ _).frozen? ⟨g, i, none⟩ = _
    rw [World.frozen?_setCell]
    exact h.free i (by simpa using hi)
theorem BRow.conv {w : World} {g : Nat} {xs : List UInt8} (h : BRow w g xs) {n : Nat} (hn : n = xs.length) (cap : Nat) : (convert 55 9 (.slice (some ⟨g, 0, none⟩) n cap)).run Try.prog w = .ok (.string ⟨xs.toArray⟩) w := by
  subst hn
  refine run_convert_bytes_back w 55 9 5 _ _ xs Try.underlying55 Try.underlying5 Try.underlying9 (fun j hj => ?_)
  have := h.cell j xs[j] (List.getElem?_eq_getElem hj)
  have e : (⟨g, 0, none⟩ : Addr).add j = ⟨g, j, none⟩ := by by_cases hj0 : j = 0 <;> simp [Addr.add, hj0]
  rw [e]
  exact this
/-- The bytes ahead of a frame's body. -/
def hd8 (k n : Nat) : List UInt8 := 68 :: 70 :: bt k :: bt 0 :: be4 n
theorem hd8_len (k n : Nat) : (hd8 k n).length = 8 := rfl
theorem frBytes_cut (k : Nat) (body : ByteArray) : frBytes k body = hd8 k body.size ++ (body.data.toList ++ be4 (Cx.crc (hd8 k body.size ++ body.data.toList))) := by
  rw [frBytes, frHead_eq]
  simp [hd8]
theorem laid_turned {k n c : Nat} {B : List UInt8} (hl : B.length = n) (hk : k < 256) (hn : n < 4294967296) (hc : c < 4294967296) : Laid ⟨(hd8 k n ++ (B ++ be4 c)).toArray⟩ k n c B [] := by
  refine ⟨?_, hl, hk, hn, hc⟩
  simp [hd8]
theorem set_body (hd B tl : List UInt8) (hh : hd.length = 8) (j : Nat) (hj : j < B.length) (c : UInt8) : (hd ++ (B ++ tl)).set (8 + j) c = hd ++ (B.set j c ++ tl) := by
  rw [List.set_append_right _ _ (by omega), hh, show 8 + j - 8 = j by omega, List.set_append_left _ _ hj]
theorem get_body (hd B tl : List UInt8) (hh : hd.length = 8) (j : Nat) (hj : j < B.length) : (hd ++ (B ++ tl))[8 + j]? = B[j]? := by
  rw [List.getElem?_append_right (by omega), hh, show 8 + j - 8 = j by omega, List.getElem?_append_left hj]
theorem tdiv8 (K : Nat) (h : K < 9223372036854775808) : IntKind.i64.wrap ((K : Int).tdiv 8) = ((K / 8 : Nat) : Int) := by
  rw [Int.tdiv_eq_ediv_of_nonneg (by omega)]
  simp [IntKind.wrap, IntKind.bits, IntKind.signed]
  omega
theorem tmod8 (K : Nat) : IntKind.i64.wrap ((K : Int).tmod 8) = ((K % 8 : Nat) : Int) := by
  rw [Int.tmod_eq_emod_of_nonneg (by omega)]
  simp [IntKind.wrap, IntKind.bits, IntKind.signed]
  omega
theorem add8 (K : Nat) (h : K < 1048576) : IntKind.i64.wrap (8 + (K : Int)) = ((8 + K : Nat) : Int) := by
  simp [IntKind.wrap, IntKind.bits, IntKind.signed]
  omega
theorem bit_test (t r : Nat) : ((t : Int) / 2 ^ r).tmod 2 = ((t.testBit r).toNat : Int) := by
  have e : (t : Int) / 2 ^ r = ((t / 2 ^ r : Nat) : Int) := by simp
  rw [e, Int.tmod_eq_emod_of_nonneg (Int.natCast_nonneg _), Nat.testBit_eq_decide_div_mod_eq]
  by_cases h : t / 2 ^ r % 2 = 1
  · simp [h]; omega
  · simp [h]; omega
theorem xor_turn (x : Nat) (h : x < 256) (u : Nat) (hu : u < 8) : bits .xor .u8 (x : Int) (2 ^ u % 256) = ((x ^^^ 2 ^ u : Nat) : Int) := by
  have h2 : 2 ^ u < 256 := Nat.pow_lt_pow_right (a := 2) (by decide) (show u < 8 from hu)
  have e : ((2 : Int) ^ u) % 256 = ((2 ^ u : Nat) : Int) := by
    have e1 : ((2 : Int) ^ u) = ((2 ^ u : Nat) : Int) := by simp
    rw [e1]
    exact Int.emod_eq_of_lt (Int.natCast_nonneg _) (Int.ofNat_lt.2 h2)
  rw [e]
  exact u8_xor_nat x (2 ^ u) h h2
theorem xor_lt8 (x : Nat) (h : x < 256) (u : Nat) (hu : u < 8) : x ^^^ 2 ^ u < 256 := Nat.xor_lt_two_pow (n := 8) h (Nat.pow_lt_pow_right (a := 2) (by decide) hu)
set_option maxRecDepth 100000 in
set_option maxHeartbeats 4000000 in
theorem turned_pos (k p : Nat) (body : ByteArray) (at' : Int) (t : Nat) (w : World) (hk : k < 256) (hl : body.size ≤ 1048576) (h0 : 0 < body.size) (hpn : p < 8 * body.size)
    (hp : at'.tmod (8 * (body.size : Int)) = (p : Int)) :
    Calls Try.prog 7 #[.agg #[.int .u8 k, .string body, .int .i64 at', .int .u32 t]] w fun r w' => r = .returned (.bool true) ∧ Below w.heap.size w w' := by
  have F1 : Hid _ := fun w => frame_any k body w hk hl
  obtain ⟨S, hS⟩ : ∃ S : ByteArray, S = ⟨(frBytes k body).toArray⟩ := ⟨_, rfl⟩
  rw [← hS] at F1
  have hSs : S.size = 12 + body.size := by rw [hS, size_list]; exact frBytes_len k body
  have HSL : Hid (S.data.toList = hd8 k body.size ++ (body.data.toList ++ be4 (Cx.crc (hd8 k body.size ++ body.data.toList)))) := by rw [Hid, hS, ← frBytes_cut]
  clear hS
  have HBL : Hid (body.data.toList.length = body.size) := (size_list body).symm
  have HCL : Hid (Cx.crc (hd8 k body.size ++ body.data.toList) < 4294967296) := Cx.crc_lt _
  have hcv := fun w => run_bytes_of_string (P := Try.prog) w 9 55 5 S Try.underlying9 Try.underlying55 Try.underlying5
  have hd1 : (!decide ((body.size : Int) ≤ 1048576)) = false := by rw [decide_eq_true (by omega)]; rfl
  have hd2 : ((body.size : Int) == 0) = false := beq_eq_false_iff_ne.2 (by omega)
  go_enter Try.func7, Try.ntmps7
  go_wp2_with fail
  go_quiet (fail)
  go_wp2_with fail
  refine (F1.out _).mono ?_
  rintro e w1 ⟨rfl, B1⟩
  go_wp2_with fail
  refine (awake_any _).mono ?_
  rintro e w2 ⟨rfl, B2⟩
  go_wp2_with fail
  have s1 := B1.size
  simp only [World.heap_drewN, World.size_alloc] at s1
  have s2 := B2.size
  have B3 : Below w.heap.size w w2 := ((below_drewN ((Below.refl w.heap.size w).alloc (Nat.le_refl _) _) _).trans (B1.mono (B' := w.heap.size) (by simp))).trans (B2.mono (B' := w.heap.size) (by omega))
  have hz2 : w.heap.size ≤ w2.heap.size := B3.size
  generalize grownCap w2 (12 + body.size) 0 5 = cap at *
  clear hcv F1 B1 B2
  go_loopw [11, 12] (fun ch i wr => ∃ r : Nat, ∃ B' : List UInt8, ∃ c : Bool, r ≤ 32 ∧ i = .int .i64 r ∧ ch = .bool c ∧ Hid (Cx.Inv body.data.toList B' t p r c) ∧ Hid (BRow wr w2.heap.size (hd8 k body.size ++ (B' ++ be4 (Cx.crc (hd8 k body.size ++ body.data.toList))))) ∧ Below w.heap.size w wr) (fun _ i _ => 32 - (intOf i).toNat)
  case atStart => exact ⟨0, body.data.toList, false, by omega, rfl, rfl, Cx.Inv.start _ _ _, by rw [Hid, ← HSL.out]; exact BRow.start _ _ _, (B3.alloc hz2 _).drew⟩
  case round =>
    obtain ⟨r, B', c, hr, rfl, rfl, HI, HR, hbel⟩ := hrel
    have HB : Hid (B'.length = body.size) := by rw [Hid, HI.out.len]; exact HBL.out
    by_cases h32 : r < 32
    · go_wp2_with fail
      · have g1 : ((t : Int) / 2 ^ r).tmod 2 = 1 := by assumption
        have g2 : (p : Int) + (r : Int) < 8 * (body.size : Int) := by assumption
        obtain ⟨K, hK⟩ : ∃ K : Nat, (p : Int) + (r : Int) = (K : Int) := ⟨p + r, by omega⟩
        have hK8 : K / 8 < body.size := by omega
        have e1 := tdiv8 K (by omega)
        have e2 := add8 (K / 8) (by omega)
        have e3 := tmod8 K
        have ht1 : Hid (t.testBit r = true) := by
          rw [Hid]
          rw [bit_test] at g1
          cases q : t.testBit r with
          | true => rfl
          | false => rw [q] at g1; exact absurd g1 (by decide)
        obtain ⟨y, hy⟩ : ∃ y, B'[K / 8]? = some y := ⟨B'[K / 8]'(by rw [HB.out]; exact hK8), List.getElem?_eq_getElem _⟩
        have hx0 : wr.cell? ⟨w2.heap.size, 8 + K / 8, none⟩ = some (.int .u8 (y.toNat : Int)) := HR.out.cell _ _ (by rw [get_body _ _ _ (hd8_len _ _) _ (by rw [HB.out]; exact hK8)]; exact hy)
        have hfz : wr.frozen? ⟨w2.heap.size, 8 + K / 8, none⟩ = false := HR.out.free _ (by simp only [List.length_append, hd8_len, HB.out]; omega)
        have HY : Hid (B'[K / 8]? = some y) := hy
        have hyl := y.toNat_lt
        have HX := xor_turn y.toNat hyl (K % 8) (by omega)
        have HX2 : Hid _ := xor_lt8 y.toNat hyl (K % 8) (by omega)
        have HKK : Hid (K = p + r) := by rw [Hid]; omega
        clear hy g1 g2
        obtain ⟨x, hx⟩ : ∃ x, x = y.toNat ^^^ 2 ^ (K % 8) := ⟨_, rfl⟩
        rw [← hx] at HX HX2
        have HXX : Hid _ := hx
        clear hx
        have HI2 : Hid (Cx.Inv body.data.toList (B'.set (K / 8) (UInt8.ofNat x)) t p (r + 1) true) := HI.out.turn ht1.out HKK.out (by rw [HBL.out]; omega) HY.out HXX.out HX2.out
        have HR2 : Hid (BRow (wr.setCell ⟨w2.heap.size, 8 + K / 8, none⟩ (.int .u8 (x : Int))).drew w2.heap.size (hd8 k body.size ++ (B'.set (K / 8) (UInt8.ofNat x) ++ be4 (Cx.crc (hd8 k body.size ++ body.data.toList))))) := by
          rw [Hid, ← set_body _ _ _ (hd8_len _ _) _ (by rw [HB.out]; exact hK8)]
          exact HR.out.set (by simp only [List.length_append, hd8_len, HB.out]; omega) _ (by have := HX2.out; simp; omega)
        go_big_region
        go_wp2_with fail
        go_roundw
        case rel => exact ⟨r + 1, _, true, by omega, by go_num, rfl, HI2.out, HR2.out, (hbel.setCell (by simpa using hz2) _).drew⟩
        case measure => simp [intOf]; omega
      · have g2 : 8 * (body.size : Int) ≤ (p : Int) + (r : Int) := by assumption
        go_roundw
        case rel => exact ⟨r + 1, B', c, by omega, by go_num, rfl, HI.out.skip (Or.inr (by rw [HBL.out]; omega)), HR.out, hbel⟩
        case measure => simp [intOf]; omega
      · have g1 : ¬ ((t : Int) / 2 ^ r).tmod 2 = 1 := by assumption
        have ht1 : t.testBit r = false := by
          rw [bit_test] at g1
          cases q : t.testBit r with
          | true => rw [q] at g1; exact absurd rfl g1
          | false => rfl
        go_roundw
        case rel => exact ⟨r + 1, B', c, by omega, by go_num, rfl, HI.out.skip (Or.inl ht1), HR.out, hbel⟩
        case measure => simp [intOf]; omega
    · have e32 : r = 32 := by omega
      subst e32
      have hcb := HR.out.conv (n := 12 + body.size) (by simp only [List.length_append, hd8_len, HB.out]; show _ = 8 + (body.size + 4); omega) cap
      have HLD : Hid _ := laid_turned (k := k) (c := Cx.crc (hd8 k body.size ++ body.data.toList)) HB.out hk (by omega) HCL.out
      have HUN : Hid (∀ w, (⟨(hd8 k body.size ++ (B' ++ be4 (Cx.crc (hd8 k body.size ++ body.data.toList)))).toArray⟩ : ByteArray).size ≤ maxLen → _) := fun w h => unframe_any (⟨(hd8 k body.size ++ (B' ++ be4 (Cx.crc (hd8 k body.size ++ body.data.toList)))).toArray⟩ : ByteArray) w h
      have HZ : Hid ((⟨(hd8 k body.size ++ (B' ++ be4 (Cx.crc (hd8 k body.size ++ body.data.toList)))).toArray⟩ : ByteArray).size ≤ maxLen) := by
        rw [Hid, HLD.out.total]; unfold maxLen; simp; omega
      cases c with
      | true =>
        rw [HLD.out.unf_bad hl (by have := HI.out.told (hd8_len k body.size); simpa [hd8] using this)] at HUN
        clear HLD HSL HI HR
        generalize (⟨(hd8 k body.size ++ (B' ++ be4 (Cx.crc (hd8 k body.size ++ body.data.toList)))).toArray⟩ : ByteArray) = T at *
        go_wp2_with fail
        refine (HUN.out _ HZ.out).mono ?_
        rintro e w4 ⟨rfl, B4⟩
        go_wp2_with fail
        go_ret
        exact ⟨rfl, hbel.trans (B4.mono hbel.size)⟩
      | false =>
        have hBB := HI.out.same
        have HBD : Hid ((⟨B'.toArray⟩ : ByteArray) = body) := by rw [Hid, hBB]
        rw [HLD.out.unf_good hl (by rw [hBB]; simp [hd8]), HBD.out] at HUN
        clear HLD HSL HI HR hBB HBD
        generalize (⟨(hd8 k body.size ++ (B' ++ be4 (Cx.crc (hd8 k body.size ++ body.data.toList)))).toArray⟩ : ByteArray) = T at *
        go_wp2_with fail
        refine (HUN.out _ HZ.out).mono ?_
        rintro e w4 ⟨rfl, B4⟩
        go_wp2_with fail
        go_ret
        exact ⟨rfl, hbel.trans (B4.mono hbel.size)⟩
set_option maxRecDepth 100000 in
set_option maxHeartbeats 4000000 in
theorem turned_neg (k p : Nat) (body : ByteArray) (at' : Int) (t : Nat) (w : World) (hk : k < 256) (hl : body.size ≤ 1048576) (h0 : 0 < body.size) (_hpn : p < 8 * body.size)
    (q : Int) (hq : at'.tmod (8 * (body.size : Int)) = q) (hqn : q < 0) (hp : q + 8 * (body.size : Int) = (p : Int)) :
    Calls Try.prog 7 #[.agg #[.int .u8 k, .string body, .int .i64 at', .int .u32 t]] w fun r w' => r = .returned (.bool true) ∧ Below w.heap.size w w' := by
  have F1 : Hid _ := fun w => frame_any k body w hk hl
  obtain ⟨S, hS⟩ : ∃ S : ByteArray, S = ⟨(frBytes k body).toArray⟩ := ⟨_, rfl⟩
  rw [← hS] at F1
  have hSs : S.size = 12 + body.size := by rw [hS, size_list]; exact frBytes_len k body
  have HSL : Hid (S.data.toList = hd8 k body.size ++ (body.data.toList ++ be4 (Cx.crc (hd8 k body.size ++ body.data.toList)))) := by rw [Hid, hS, ← frBytes_cut]
  clear hS
  have HBL : Hid (body.data.toList.length = body.size) := (size_list body).symm
  have HCL : Hid (Cx.crc (hd8 k body.size ++ body.data.toList) < 4294967296) := Cx.crc_lt _
  have hcv := fun w => run_bytes_of_string (P := Try.prog) w 9 55 5 S Try.underlying9 Try.underlying55 Try.underlying5
  have hd1 : (!decide ((body.size : Int) ≤ 1048576)) = false := by rw [decide_eq_true (by omega)]; rfl
  have hd2 : ((body.size : Int) == 0) = false := beq_eq_false_iff_ne.2 (by omega)
  go_enter Try.func7, Try.ntmps7
  go_wp2_with fail
  go_quiet (fail)
  go_wp2_with fail
  refine (F1.out _).mono ?_
  rintro e w1 ⟨rfl, B1⟩
  go_wp2_with fail
  refine (awake_any _).mono ?_
  rintro e w2 ⟨rfl, B2⟩
  go_wp2_with fail
  have s1 := B1.size
  simp only [World.heap_drewN, World.size_alloc] at s1
  have s2 := B2.size
  have B3 : Below w.heap.size w w2 := ((below_drewN ((Below.refl w.heap.size w).alloc (Nat.le_refl _) _) _).trans (B1.mono (B' := w.heap.size) (by simp))).trans (B2.mono (B' := w.heap.size) (by omega))
  have hz2 : w.heap.size ≤ w2.heap.size := B3.size
  generalize grownCap w2 (12 + body.size) 0 5 = cap at *
  clear hcv F1 B1 B2
  go_loopw [11, 12] (fun ch i wr => ∃ r : Nat, ∃ B' : List UInt8, ∃ c : Bool, r ≤ 32 ∧ i = .int .i64 r ∧ ch = .bool c ∧ Hid (Cx.Inv body.data.toList B' t p r c) ∧ Hid (BRow wr w2.heap.size (hd8 k body.size ++ (B' ++ be4 (Cx.crc (hd8 k body.size ++ body.data.toList))))) ∧ Below w.heap.size w wr) (fun _ i _ => 32 - (intOf i).toNat)
  case atStart => exact ⟨0, body.data.toList, false, by omega, rfl, rfl, Cx.Inv.start _ _ _, by rw [Hid, ← HSL.out]; exact BRow.start _ _ _, (B3.alloc hz2 _).drew⟩
  case round =>
    obtain ⟨r, B', c, hr, rfl, rfl, HI, HR, hbel⟩ := hrel
    have HB : Hid (B'.length = body.size) := by rw [Hid, HI.out.len]; exact HBL.out
    by_cases h32 : r < 32
    · go_wp2_with fail
      · have g1 : ((t : Int) / 2 ^ r).tmod 2 = 1 := by assumption
        have g2 : (p : Int) + (r : Int) < 8 * (body.size : Int) := by assumption
        obtain ⟨K, hK⟩ : ∃ K : Nat, (p : Int) + (r : Int) = (K : Int) := ⟨p + r, by omega⟩
        have hK8 : K / 8 < body.size := by omega
        have e1 := tdiv8 K (by omega)
        have e2 := add8 (K / 8) (by omega)
        have e3 := tmod8 K
        have ht1 : Hid (t.testBit r = true) := by
          rw [Hid]
          rw [bit_test] at g1
          cases q : t.testBit r with
          | true => rfl
          | false => rw [q] at g1; exact absurd g1 (by decide)
        obtain ⟨y, hy⟩ : ∃ y, B'[K / 8]? = some y := ⟨B'[K / 8]'(by rw [HB.out]; exact hK8), List.getElem?_eq_getElem _⟩
        have hx0 : wr.cell? ⟨w2.heap.size, 8 + K / 8, none⟩ = some (.int .u8 (y.toNat : Int)) := HR.out.cell _ _ (by rw [get_body _ _ _ (hd8_len _ _) _ (by rw [HB.out]; exact hK8)]; exact hy)
        have hfz : wr.frozen? ⟨w2.heap.size, 8 + K / 8, none⟩ = false := HR.out.free _ (by simp only [List.length_append, hd8_len, HB.out]; omega)
        have HY : Hid (B'[K / 8]? = some y) := hy
        have hyl := y.toNat_lt
        have HX := xor_turn y.toNat hyl (K % 8) (by omega)
        have HX2 : Hid _ := xor_lt8 y.toNat hyl (K % 8) (by omega)
        have HKK : Hid (K = p + r) := by rw [Hid]; omega
        clear hy g1 g2
        obtain ⟨x, hx⟩ : ∃ x, x = y.toNat ^^^ 2 ^ (K % 8) := ⟨_, rfl⟩
        rw [← hx] at HX HX2
        have HXX : Hid _ := hx
        clear hx
        have HI2 : Hid (Cx.Inv body.data.toList (B'.set (K / 8) (UInt8.ofNat x)) t p (r + 1) true) := HI.out.turn ht1.out HKK.out (by rw [HBL.out]; omega) HY.out HXX.out HX2.out
        have HR2 : Hid (BRow (wr.setCell ⟨w2.heap.size, 8 + K / 8, none⟩ (.int .u8 (x : Int))).drew w2.heap.size (hd8 k body.size ++ (B'.set (K / 8) (UInt8.ofNat x) ++ be4 (Cx.crc (hd8 k body.size ++ body.data.toList))))) := by
          rw [Hid, ← set_body _ _ _ (hd8_len _ _) _ (by rw [HB.out]; exact hK8)]
          exact HR.out.set (by simp only [List.length_append, hd8_len, HB.out]; omega) _ (by have := HX2.out; simp; omega)
        go_big_region
        go_wp2_with fail
        go_roundw
        case rel => exact ⟨r + 1, _, true, by omega, by go_num, rfl, HI2.out, HR2.out, (hbel.setCell (by simpa using hz2) _).drew⟩
        case measure => simp [intOf]; omega
      · have g2 : 8 * (body.size : Int) ≤ (p : Int) + (r : Int) := by assumption
        go_roundw
        case rel => exact ⟨r + 1, B', c, by omega, by go_num, rfl, HI.out.skip (Or.inr (by rw [HBL.out]; omega)), HR.out, hbel⟩
        case measure => simp [intOf]; omega
      · have g1 : ¬ ((t : Int) / 2 ^ r).tmod 2 = 1 := by assumption
        have ht1 : t.testBit r = false := by
          rw [bit_test] at g1
          cases q : t.testBit r with
          | true => rw [q] at g1; exact absurd rfl g1
          | false => rfl
        go_roundw
        case rel => exact ⟨r + 1, B', c, by omega, by go_num, rfl, HI.out.skip (Or.inl ht1), HR.out, hbel⟩
        case measure => simp [intOf]; omega
    · have e32 : r = 32 := by omega
      subst e32
      have hcb := HR.out.conv (n := 12 + body.size) (by simp only [List.length_append, hd8_len, HB.out]; show _ = 8 + (body.size + 4); omega) cap
      have HLD : Hid _ := laid_turned (k := k) (c := Cx.crc (hd8 k body.size ++ body.data.toList)) HB.out hk (by omega) HCL.out
      have HUN : Hid (∀ w, (⟨(hd8 k body.size ++ (B' ++ be4 (Cx.crc (hd8 k body.size ++ body.data.toList)))).toArray⟩ : ByteArray).size ≤ maxLen → _) := fun w h => unframe_any (⟨(hd8 k body.size ++ (B' ++ be4 (Cx.crc (hd8 k body.size ++ body.data.toList)))).toArray⟩ : ByteArray) w h
      have HZ : Hid ((⟨(hd8 k body.size ++ (B' ++ be4 (Cx.crc (hd8 k body.size ++ body.data.toList)))).toArray⟩ : ByteArray).size ≤ maxLen) := by
        rw [Hid, HLD.out.total]; unfold maxLen; simp; omega
      cases c with
      | true =>
        rw [HLD.out.unf_bad hl (by have := HI.out.told (hd8_len k body.size); simpa [hd8] using this)] at HUN
        clear HLD HSL HI HR
        generalize (⟨(hd8 k body.size ++ (B' ++ be4 (Cx.crc (hd8 k body.size ++ body.data.toList)))).toArray⟩ : ByteArray) = T at *
        go_wp2_with fail
        refine (HUN.out _ HZ.out).mono ?_
        rintro e w4 ⟨rfl, B4⟩
        go_wp2_with fail
        go_ret
        exact ⟨rfl, hbel.trans (B4.mono hbel.size)⟩
      | false =>
        have hBB := HI.out.same
        have HBD : Hid ((⟨B'.toArray⟩ : ByteArray) = body) := by rw [Hid, hBB]
        rw [HLD.out.unf_good hl (by rw [hBB]; simp [hd8]), HBD.out] at HUN
        clear HLD HSL HI HR hBB HBD
        generalize (⟨(hd8 k body.size ++ (B' ++ be4 (Cx.crc (hd8 k body.size ++ body.data.toList)))).toArray⟩ : ByteArray) = T at *
        go_wp2_with fail
        refine (HUN.out _ HZ.out).mono ?_
        rintro e w4 ⟨rfl, B4⟩
        go_wp2_with fail
        go_ret
        exact ⟨rfl, hbel.trans (B4.mono hbel.size)⟩
theorem turned_long (k : Nat) (body : ByteArray) (at' : Int) (t : Nat) (w : World) (hl : 1048576 < body.size) (hs : body.size ≤ maxLen) :
    Calls Try.prog 7 #[.agg #[.int .u8 k, .string body, .int .i64 at', .int .u32 t]] w fun r w' => r = .returned (.bool true) ∧ Below w.heap.size w w' := by
  have hd1 : (!decide ((body.size : Int) ≤ 1048576)) = true := by rw [decide_eq_false (by omega)]; rfl
  have hd3 : decide ((body.size : Int) ≤ 1048576) = false := decide_eq_false (by omega)
  go_enter Try.func7, Try.ntmps7
  go_wp2_with fail
  go_quiet (fail)
  go_wp2_with fail
  refine (frame_long k body _ hl hs).mono ?_
  rintro e w1 ⟨rfl, rfl⟩
  go_wp2_with fail
  refine (awake_any _).mono ?_
  rintro e w2 ⟨rfl, B2⟩
  go_wp2_with fail
  go_ret
  exact ⟨rfl, (below_drewN ((Below.refl w.heap.size w).alloc (Nat.le_refl _) _) _).trans (B2.mono (B' := w.heap.size) (by simp))⟩
theorem turned_empty (k : Nat) (body : ByteArray) (at' : Int) (t : Nat) (w : World) (hk : k < 256) (h0 : body.size = 0) :
    Calls Try.prog 7 #[.agg #[.int .u8 k, .string body, .int .i64 at', .int .u32 t]] w fun r w' => r = .returned (.bool true) ∧ Below w.heap.size w w' := by
  have F1 : Hid _ := fun w => frame_any k body w hk (by omega)
  have hd1 : (!decide ((body.size : Int) ≤ 1048576)) = false := by rw [decide_eq_true (by omega)]; rfl
  have hd2 : ((body.size : Int) == 0) = true := by simp [h0]
  clear h0
  go_enter Try.func7, Try.ntmps7
  go_wp2_with fail
  go_quiet (fail)
  go_wp2_with fail
  refine (F1.out _).mono ?_
  rintro e w1 ⟨rfl, B1⟩
  go_wp2_with fail
  refine (awake_any _).mono ?_
  rintro e w2 ⟨rfl, B2⟩
  have s1 := B1.size
  simp only [World.heap_drewN, World.size_alloc] at s1
  go_wp2_with fail
  go_ret
  exact ⟨rfl, ((below_drewN ((Below.refl w.heap.size w).alloc (Nat.le_refl _) _) _).trans (B1.mono (B' := w.heap.size) (by simp))).trans (B2.mono (B' := w.heap.size) (by omega))⟩
theorem turned_any (k : Nat) (body : ByteArray) (at' : Int) (t : Nat) (w : World) (hk : k < 256) (hs : body.size ≤ maxLen) :
    Calls Try.prog 7 #[.agg #[.int .u8 k, .string body, .int .i64 at', .int .u32 t]] w fun r w' => r = .returned (.bool true) ∧ Below w.heap.size w w' := by
  by_cases hl : body.size ≤ 1048576
  · by_cases h0 : body.size = 0
    · exact turned_empty k body at' t w hk h0
    · have hb : (0 : Int) < 8 * (body.size : Int) := by omega
      have h1 := Int.tmod_lt_of_pos at' hb
      have h2 := Int.lt_tmod_of_pos at' hb
      by_cases hn : at'.tmod (8 * (body.size : Int)) < 0
      · exact turned_neg k (at'.tmod (8 * (body.size : Int)) + 8 * (body.size : Int)).toNat body at' t w hk hl (by omega) (by omega) _ rfl hn (by omega)
      · exact turned_pos k (at'.tmod (8 * (body.size : Int))).toNat body at' t w hk hl (by omega) (by omega) (by omega)
  · exact turned_long k body at' t w (by omega) hs
end Go.Proofs.Ytkhmmcakgfneiaa
