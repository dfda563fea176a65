/-
  The walk of WalTurned: whatever the record and the bits of it that are turned, the call returns true, and turns nothing that was there.
-/
import Derived.Test.YtefigcnfcbdecaaTurnScan
import Derived.Test.YtefigcnfcbdecaaCopies
import Derived.BigRegion
namespace Go.Proofs.Ytefigcnfcbdecaa
open Go.RowKit
theorem out_walk (rec : ByteArray) (at' : Int) (t : Nat) (w : World) (hs : rec.size ≤ 140737488355328) (ho : rec.size = 0 ∨ 1000 < rec.size) :
    Calls Try.prog 7 #[.string rec, .int .i64 at', .int .u32 (t : Nat)] w fun r w' => r = .returned (.bool true) ∧ Below w.heap.size w w' := by
  obtain ⟨n, hn⟩ : ∃ n, rec.size = n := ⟨_, rfl⟩
  rw [hn] at hs ho
  rcases ho with ho | ho
  · have h1 : decide ((n : Int) < 1) = true := decide_eq_true (by omega)
    go_enter Try.func7, Try.ntmps7
    go_wp2_with fail
    refine (lives_any _).mono ?_
    rintro e w1 ⟨rfl, B1⟩
    go_wp2_with fail
    go_ret
    exact ⟨rfl, B1⟩
  · have h1 : decide ((n : Int) < 1) = false := decide_eq_false (by omega)
    have h2 : decide ((n : Int) > 1000) = true := decide_eq_true (by omega)
    go_enter Try.func7, Try.ntmps7
    go_wp2_with fail
    refine (lives_any _).mono ?_
    rintro e w1 ⟨rfl, B1⟩
    go_wp2_with fail
    go_ret
    exact ⟨rfl, B1⟩
theorem tdiv8 (K : Nat) (h : K < 9223372036854775808) : IntKind.i64.wrap ((K : Int).tdiv 8) = ((K / 8 : Nat) : Int) := by
  rw [Int.tdiv_eq_ediv_of_nonneg (by omega)]
  simp [IntKind.wrap, IntKind.bits, IntKind.signed]
  omega
theorem tmod8 (K : Nat) : IntKind.i64.wrap ((K : Int).tmod 8) = ((K % 8 : Nat) : Int) := by
  rw [Int.tmod_eq_emod_of_nonneg (by omega)]
  simp [IntKind.wrap, IntKind.bits, IntKind.signed]
  omega
theorem add7 (K : Nat) (h : K < 1048576) : IntKind.i64.wrap (7 + (K : Int)) = ((7 + K : Nat) : Int) := by
  simp [IntKind.wrap, IntKind.bits, IntKind.signed]
  omega
theorem and_test (t r : Nat) (ht : t < 4294967296) : bits .and .u32 ((t : Int) / 2 ^ r) 1 = ((t.testBit r).toNat : Int) := by
  have e : (t : Int) / 2 ^ r = ((t / 2 ^ r : Nat) : Int) := by simp
  rw [e, crc_bit_and (Nat.lt_of_le_of_lt (Nat.div_le_self _ _) ht), Nat.testBit_eq_decide_div_mod_eq]
  by_cases h : t / 2 ^ r % 2 = 1
  · simp [h]
  · simp [h]; omega
theorem xor_turn (x : Nat) (h : x < 256) (u : Nat) (hu : u < 8) : bits .xor .u8 (x : Int) (2 ^ u % 256) = ((x ^^^ 2 ^ u : Nat) : Int) := by
  have h2 : 2 ^ u < 256 := Nat.pow_lt_pow_right (a := 2) (by decide) (show u < 8 from hu)
  have e : ((2 : Int) ^ u) % 256 = ((2 ^ u : Nat) : Int) := by
    have e1 : ((2 : Int) ^ u) = ((2 ^ u : Nat) : Int) := by simp
    rw [e1]
    exact Int.emod_eq_of_lt (Int.natCast_nonneg _) (Int.ofNat_lt.2 h2)
  rw [e]
  exact u8_xor_nat x (2 ^ u) h h2
theorem xor_lt8 (x : Nat) (h : x < 256) (u : Nat) (hu : u < 8) : x ^^^ 2 ^ u < 256 := Nat.xor_lt_two_pow (n := 8) h (Nat.pow_lt_pow_right (a := 2) (by decide) hu)
theorem set_body (hd B : List UInt8) (hh : hd.length = 7) (j : Nat) (c : UInt8) : (hd ++ B).set (7 + j) c = hd ++ B.set j c := by
  rw [List.set_append_right _ _ (by omega), hh, show 7 + j - 7 = j by omega]
theorem get_body (hd B : List UInt8) (hh : hd.length = 7) (j : Nat) : (hd ++ B)[7 + j]? = B[j]? := by
  rw [List.getElem?_append_right (by omega), hh, show 7 + j - 7 = j by omega]
set_option maxRecDepth 100000 in
set_option maxHeartbeats 4000000 in
theorem turned_pos (p : Nat) (rec : ByteArray) (at' : Int) (t : Nat) (w : World) (hl : rec.size ≤ 1000) (h0 : 0 < rec.size) (hpn : p < 8 * rec.size)
    (hp : at'.tmod (8 * (rec.size : Int)) = (p : Int)) (ht : t < 4294967296) :
    Calls Try.prog 7 #[.string rec, .int .i64 at', .int .u32 (t : Nat)] w fun r w' => r = .returned (.bool true) ∧ Below w.heap.size w w' := by
  have HN1 : Hid (∀ W : World, Calls Try.prog 11 #[.int .i64 0] W fun r w' => r = .returned (.tuple #[.pointer (some ⟨W.heap.size, 0, none⟩), .int .i64 0]) ∧ w' = W.alloc (.cells #[.int .i64 0] 59)) := fun W => newWriter_ok 0 W (by omega)
  have hrl : rec.data.toList.length = rec.size := rfl
  obtain ⟨HD, hHD⟩ : ∃ HD, headL 1 rec.data.toList = HD := ⟨_, rfl⟩
  have HHD : Hid _ := hHD
  have HH7 : Hid (HD.length = 7) := by rw [Hid, ← hHD]; rfl
  have hlen : (layL 0 rec.data.toList).length = 7 + rec.size := by rw [lay_small (by omega), List.length_append, hrl]; rfl
  have HLY : Hid (∀ (W : World) (x : Nat), W.heap[x]? = some (.cells #[.int .i64 0] 59 (0, 0)) → Calls Try.prog 13 #[.pointer (some ⟨x, 0, none⟩), .string rec] W fun r w' => ∃ v, r = .returned (.tuple #[v, .int .i64 0]) ∧ w'.ownsRow W.heap.size 5 1 v (7 + rec.size) (bl (HD ++ rec.data.toList)) ∧ Kept x W w') := fun W x h => by
    have hok : layOk 0 rec = true := by
      have e := layL_len 0 rec.data.toList
      rw [hlen, hrl] at e
      simp only [layOk, Bool.and_eq_true, decide_eq_true_eq]
      omega
    refine (layM_ok x 0 rec W h (by omega) hok).mono ?_
    rintro r w' ⟨v, rfl, ho, _, hk⟩
    rw [hlen] at ho
    rw [lay_small (by omega), hHD] at ho
    exact ⟨v, rfl, ho, hk⟩
  clear hlen hHD
  have HRL : Hid _ := hrl
  have HT : Hid _ := ht
  clear ht
  have HS : Hid (∀ (W : World) (a : Option Addr) (c : Nat) (base : Nat) (P : List UInt8), P.length = rec.size → W.ownsRow base 5 1 (.slice a (7 + rec.size) c) (7 + rec.size) (bl (HD ++ P)) → Calls Try.prog 17 #[.slice a ((7 + rec.size : Nat)) c] W fun r w' => ∃ v, r = .returned (.tuple #[v, .int .i64 (endOf (scanL (HD ++ P)).1 : Nat), .int .i64 ((scanL (HD ++ P)).2 : Nat)]) ∧ w'.ownsRow W.heap.size 9 1 v (scanL (HD ++ P)).1.length ((scanL (HD ++ P)).1.map textV) ∧ Below W.heap.size W w') := fun W a c base P hP ho => by
    have hl2 : (HD ++ P).length = 7 + rec.size := by rw [List.length_append, HH7.out, hP]
    obtain ⟨m1, m2, m3⟩ := owns_meta ho
    have := scan_any a c (HD ++ P) W (bytes_of_owns ho hl2) (by omega) (by omega) m2 m3
    rw [hl2] at this
    exact this
  obtain ⟨n, hn⟩ : ∃ n, rec.size = n := ⟨_, rfl⟩
  have hq : ((7 + n : Nat) : Int) = 7 + (n : Int) := by omega
  rw [hn] at HLY HS HRL hl h0 hpn hp
  clear hrl hq
  have HN : Hid _ := hn
  have d1 : decide ((n : Int) < 1) = false := decide_eq_false (by omega)
  have d2 : decide (1000 < (n : Int)) = false := decide_eq_false (by omega)
  have d3 : (7 + (n : Int) != (n : Int) + 7) = false := by rw [Int.add_comm]; simp
  have d4 : decide ((p : Int) < 0) = false := decide_eq_false (by omega)
  go_enter Try.func7, Try.ntmps7
  go_wp2_with fail
  refine (lives_any _).mono ?_
  rintro e w1 ⟨rfl, B1⟩
  go_wp2_with fail
  refine (HN1.out _).mono ?_
  rintro e w2 ⟨rfl, hw2⟩
  have x2 : w2.heap[w1.heap.size]? = some (.cells #[.int .i64 0] 59 (0, 0)) := by rw [hw2]; exact World.alloc_heap_new _ _
  have B2 : Below w.heap.size w w2 := by rw [hw2]; exact B1.alloc B1.size _
  have HLX : Hid _ := HLY.out w2 _ x2
  have s12 : w.heap.size ≤ w1.heap.size := B1.size
  clear hw2 x2 B1 HLY HN1
  go_wp2_with fail
  refine Calls.mono HLX.out ?_
  rintro e w3 ⟨v, rfl, o3, k3⟩
  obtain ⟨a3, c3, rfl⟩ := form_of_row o3
  have B3 : Below w.heap.size w w3 := B2.trans (k3.below s12 B2.size)
  have s2 : w.heap.size ≤ w2.heap.size := B2.size
  obtain ⟨g, cg, hv⟩ := form_pos o3 (by omega)
  simp only [Value.slice.injEq, true_and] at hv
  obtain ⟨rfl, rfl⟩ := hv
  have hg := (o3.lt g rfl).1
  obtain ⟨B0, hB0⟩ : ∃ B0, w2.heap.size = B0 := ⟨_, rfl⟩
  rw [hB0] at o3 hg s2
  clear k3 B2 HLX hB0
  go_wp2_with fail
  go_loopw [12, 13] (fun ch i wr => ∃ r : Nat, ∃ B' : List UInt8, ∃ c : Bool, r ≤ 32 ∧ i = .int .i64 r ∧ ch = .bool c ∧ Hid (Cx.Inv rec.data.toList B' t p r c) ∧ Hid (wr.ownsRow B0 5 1 (.slice (some ⟨g, 0, none⟩) (7 + n) c3) (7 + n) (bl (HD ++ B'))) ∧ Below w.heap.size w wr) (fun _ i _ => 32 - (intOf i).toNat)
  case atStart => exact ⟨0, rec.data.toList, false, by omega, rfl, rfl, Cx.Inv.start _ _ _, o3, B3⟩
  case round =>
    obtain ⟨r, B', c, hr, rfl, rfl, HI, HR, hbel⟩ := hrel
    clear o3 B3
    have HB : Hid (B'.length = n) := by rw [Hid, HI.out.len]; exact HRL.out
    by_cases h32 : r < 32
    · go_wp2_with fail
      · have g1 : bits .and .u32 ((t : Int) / 2 ^ r) 1 = 1 := by assumption
        have g2 : (p : Int) + (r : Int) < 8 * (n : Int) := by assumption
        obtain ⟨K, hK⟩ : ∃ K : Nat, (p : Int) + (r : Int) = (K : Int) := ⟨p + r, by omega⟩
        have hK8 : K / 8 < n := by omega
        have e1 := tdiv8 K (by omega)
        have e2 := add7 (K / 8) (by omega)
        have e3 := tmod8 K
        have ht1 : Hid (t.testBit r = true) := by
          rw [Hid]
          rw [and_test _ _ HT.out] at g1
          cases q : t.testBit r with
          | true => rfl
          | false => rw [q] at g1; exact absurd g1 (by decide)
        obtain ⟨y, hy⟩ : ∃ y, B'[K / 8]? = some y := ⟨B'[K / 8]'(by rw [HB.out]; exact hK8), List.getElem?_eq_getElem _⟩
        have hx0 : wr.cell? ⟨g, 7 + K / 8, none⟩ = some (.int .u8 (y.toNat : Int)) := by
          have := World.ownsRow.cells HR.out (g := g) rfl (7 + K / 8) (.int .u8 (y.toNat : Nat)) (by rw [bl, List.getElem?_map, get_body _ _ HH7.out, hy]; rfl)
          rw [addr_add, Nat.zero_add] at this
          exact this
        have hfz : wr.frozen? ⟨g, 7 + K / 8, none⟩ = false := World.ownsRow.frozenAt HR.out _
        have HY : Hid (B'[K / 8]? = some y) := hy
        have hyl := y.toNat_lt
        have HX := xor_turn y.toNat hyl (K % 8) (by omega)
        have HX2 : Hid _ := xor_lt8 y.toNat hyl (K % 8) (by omega)
        have HKK : Hid (K = p + r) := by rw [Hid]; omega
        clear hy g1 g2
        obtain ⟨x, hx⟩ : ∃ x, x = y.toNat ^^^ 2 ^ (K % 8) := ⟨_, rfl⟩
        rw [← hx] at HX HX2
        have HXX : Hid _ := hx
        clear hx
        have HI2 : Hid (Cx.Inv rec.data.toList (B'.set (K / 8) (UInt8.ofNat x)) t p (r + 1) true) := Cx.Inv.turn HI.out ht1.out HKK.out (by rw [HRL.out]; omega) HY.out HXX.out HX2.out
        have HR2 : Hid ((wr.setCell ⟨g, 7 + K / 8, none⟩ (.int .u8 (x : Int))).ownsRow B0 5 1 (.slice (some ⟨g, 0, none⟩) (7 + n) c3) (7 + n) (bl (HD ++ B'.set (K / 8) (UInt8.ofNat x)))) := by
          have := (World.ownsRow.stored HR.out (7 + K / 8) (.int .u8 (x : Int))).1
          rw [Hid, ← set_body _ _ HH7.out]
          rw [show bl ((HD ++ B').set (7 + K / 8) (UInt8.ofNat x)) = (bl (HD ++ B')).set (7 + K / 8) (.int .u8 (x : Int)) by
            have hx8 := HX2.out
            simp only [bl, List.map_set]
            congr 2
            simp
            omega]
          exact this
        have hgw : w.heap.size ≤ g := by omega
        go_big_region
        go_wp2_with fail
        go_roundw
        case rel => exact ⟨r + 1, _, true, by omega, by go_num, rfl, HI2.out, HR2.out, (hbel.setCell (by exact hgw) _).drew⟩
        case measure => simp [intOf]; omega
      · have g2 : 8 * (n : Int) ≤ (p : Int) + (r : Int) := by assumption
        go_roundw
        case rel => exact ⟨r + 1, B', c, by omega, by go_num, rfl, Cx.Inv.skip HI.out (Or.inr (by rw [HRL.out]; omega)), HR.out, hbel⟩
        case measure => simp [intOf]; omega
      · have g1 : ¬ bits .and .u32 ((t : Int) / 2 ^ r) 1 = 1 := by assumption
        have ht1 : t.testBit r = false := by
          rw [and_test _ _ HT.out] at g1
          cases q : t.testBit r with
          | true => rw [q] at g1; exact absurd rfl g1
          | false => rfl
        go_roundw
        case rel => exact ⟨r + 1, B', c, by omega, by go_num, rfl, Cx.Inv.skip HI.out (Or.inl ht1), HR.out, hbel⟩
        case measure => simp [intOf]; omega
    · have e32 : r = 32 := by omega
      subst e32
      have HSC := HS.out wr _ c3 _ B' HB.out HR.out
      cases c with
      | true =>
        have hsb : scanL (HD ++ B') = ([], 3) := by
          rw [← HHD.out]
          exact scan_bad (by rw [HB.out, HRL.out]) (by rw [HRL.out]; omega) (Cx.Inv.told (hd := [1]) HI.out rfl)
        rw [hsb] at HSC
        have HSH : Hid _ := HSC
        clear HSC hsb HI HR HS
        go_wp2_with fail
        refine Calls.mono HSH.out ?_
        rintro e w4 ⟨v4, rfl, o4, B4⟩
        obtain ⟨a4, c4, rfl⟩ := form9 o4
        have HO4 : Hid _ := o4
        clear o4
        go_wp2_with fail
        go_ret
        exact ⟨rfl, hbel.trans (B4.mono hbel.size)⟩
      | false =>
        have hBB := Cx.Inv.same HI.out
        have hsb : scanL (HD ++ B') = ([(rec.data.toList, rec.data.toList.length + 7)], 1) := by
          rw [← HHD.out, hBB]
          exact scan_good (by rw [HRL.out]; omega)
        rw [hsb] at HSC
        have HSH : Hid _ := HSC
        clear HSC hsb HI HR HS hBB
        go_wp2_with fail
        refine Calls.mono HSH.out ?_
        rintro e w4 ⟨v4, rfl, o4, B4⟩
        obtain ⟨g4, c4, rfl⟩ := ownsRow_succ (k := 0) o4
        have c40 : w4.cell? ⟨g4, 0, none⟩ = some (.string rec) := by
          have := o4.cells (g := g4) rfl 0 _ rfl
          rw [addr_add, Nat.zero_add] at this
          exact this
        have HO4 : Hid _ := o4
        clear o4
        go_wp2_with fail
        go_ret
        exact ⟨rfl, hbel.trans (B4.mono hbel.size)⟩
set_option maxRecDepth 100000 in
set_option maxHeartbeats 4000000 in
theorem turned_neg (p : Nat) (rec : ByteArray) (at' : Int) (t : Nat) (w : World) (hl : rec.size ≤ 1000) (h0 : 0 < rec.size) (_hpn : p < 8 * rec.size)
    (q0 : Int) (hq0 : at'.tmod (8 * (rec.size : Int)) = q0) (hqn : q0 < 0) (hp : q0 + 8 * (rec.size : Int) = (p : Int)) (ht : t < 4294967296) :
    Calls Try.prog 7 #[.string rec, .int .i64 at', .int .u32 (t : Nat)] w fun r w' => r = .returned (.bool true) ∧ Below w.heap.size w w' := by
  have HN1 : Hid (∀ W : World, Calls Try.prog 11 #[.int .i64 0] W fun r w' => r = .returned (.tuple #[.pointer (some ⟨W.heap.size, 0, none⟩), .int .i64 0]) ∧ w' = W.alloc (.cells #[.int .i64 0] 59)) := fun W => newWriter_ok 0 W (by omega)
  have hrl : rec.data.toList.length = rec.size := rfl
  obtain ⟨HD, hHD⟩ : ∃ HD, headL 1 rec.data.toList = HD := ⟨_, rfl⟩
  have HHD : Hid _ := hHD
  have HH7 : Hid (HD.length = 7) := by rw [Hid, ← hHD]; rfl
  have hlen : (layL 0 rec.data.toList).length = 7 + rec.size := by rw [lay_small (by omega), List.length_append, hrl]; rfl
  have HLY : Hid (∀ (W : World) (x : Nat), W.heap[x]? = some (.cells #[.int .i64 0] 59 (0, 0)) → Calls Try.prog 13 #[.pointer (some ⟨x, 0, none⟩), .string rec] W fun r w' => ∃ v, r = .returned (.tuple #[v, .int .i64 0]) ∧ w'.ownsRow W.heap.size 5 1 v (7 + rec.size) (bl (HD ++ rec.data.toList)) ∧ Kept x W w') := fun W x h => by
    have hok : layOk 0 rec = true := by
      have e := layL_len 0 rec.data.toList
      rw [hlen, hrl] at e
      simp only [layOk, Bool.and_eq_true, decide_eq_true_eq]
      omega
    refine (layM_ok x 0 rec W h (by omega) hok).mono ?_
    rintro r w' ⟨v, rfl, ho, _, hk⟩
    rw [hlen] at ho
    rw [lay_small (by omega), hHD] at ho
    exact ⟨v, rfl, ho, hk⟩
  clear hlen hHD
  have HRL : Hid _ := hrl
  have HT : Hid _ := ht
  clear ht
  have HS : Hid (∀ (W : World) (a : Option Addr) (c : Nat) (base : Nat) (P : List UInt8), P.length = rec.size → W.ownsRow base 5 1 (.slice a (7 + rec.size) c) (7 + rec.size) (bl (HD ++ P)) → Calls Try.prog 17 #[.slice a ((7 + rec.size : Nat)) c] W fun r w' => ∃ v, r = .returned (.tuple #[v, .int .i64 (endOf (scanL (HD ++ P)).1 : Nat), .int .i64 ((scanL (HD ++ P)).2 : Nat)]) ∧ w'.ownsRow W.heap.size 9 1 v (scanL (HD ++ P)).1.length ((scanL (HD ++ P)).1.map textV) ∧ Below W.heap.size W w') := fun W a c base P hP ho => by
    have hl2 : (HD ++ P).length = 7 + rec.size := by rw [List.length_append, HH7.out, hP]
    obtain ⟨m1, m2, m3⟩ := owns_meta ho
    have := scan_any a c (HD ++ P) W (bytes_of_owns ho hl2) (by omega) (by omega) m2 m3
    rw [hl2] at this
    exact this
  obtain ⟨n, hn⟩ : ∃ n, rec.size = n := ⟨_, rfl⟩
  have hq : ((7 + n : Nat) : Int) = 7 + (n : Int) := by omega
  rw [hn] at HLY HS HRL hl h0 hp hq0
  clear hrl hq
  have HN : Hid _ := hn
  have d1 : decide ((n : Int) < 1) = false := decide_eq_false (by omega)
  have d2 : decide (1000 < (n : Int)) = false := decide_eq_false (by omega)
  have d3 : (7 + (n : Int) != (n : Int) + 7) = false := by rw [Int.add_comm]; simp
  have d4 : decide (q0 < 0) = true := decide_eq_true hqn
  go_enter Try.func7, Try.ntmps7
  go_wp2_with fail
  refine (lives_any _).mono ?_
  rintro e w1 ⟨rfl, B1⟩
  go_wp2_with fail
  refine (HN1.out _).mono ?_
  rintro e w2 ⟨rfl, hw2⟩
  have x2 : w2.heap[w1.heap.size]? = some (.cells #[.int .i64 0] 59 (0, 0)) := by rw [hw2]; exact World.alloc_heap_new _ _
  have B2 : Below w.heap.size w w2 := by rw [hw2]; exact B1.alloc B1.size _
  have HLX : Hid _ := HLY.out w2 _ x2
  have s12 : w.heap.size ≤ w1.heap.size := B1.size
  clear hw2 x2 B1 HLY HN1
  go_wp2_with fail
  refine Calls.mono HLX.out ?_
  rintro e w3 ⟨v, rfl, o3, k3⟩
  obtain ⟨a3, c3, rfl⟩ := form_of_row o3
  have B3 : Below w.heap.size w w3 := B2.trans (k3.below s12 B2.size)
  have s2 : w.heap.size ≤ w2.heap.size := B2.size
  obtain ⟨g, cg, hv⟩ := form_pos o3 (by omega)
  simp only [Value.slice.injEq, true_and] at hv
  obtain ⟨rfl, rfl⟩ := hv
  have hg := (o3.lt g rfl).1
  obtain ⟨B0, hB0⟩ : ∃ B0, w2.heap.size = B0 := ⟨_, rfl⟩
  rw [hB0] at o3 hg s2
  clear k3 B2 HLX hB0
  go_wp2_with fail
  go_loopw [12, 13] (fun ch i wr => ∃ r : Nat, ∃ B' : List UInt8, ∃ c : Bool, r ≤ 32 ∧ i = .int .i64 r ∧ ch = .bool c ∧ Hid (Cx.Inv rec.data.toList B' t p r c) ∧ Hid (wr.ownsRow B0 5 1 (.slice (some ⟨g, 0, none⟩) (7 + n) c3) (7 + n) (bl (HD ++ B'))) ∧ Below w.heap.size w wr) (fun _ i _ => 32 - (intOf i).toNat)
  case atStart => exact ⟨0, rec.data.toList, false, by omega, rfl, rfl, Cx.Inv.start _ _ _, o3, B3⟩
  case round =>
    obtain ⟨r, B', c, hr, rfl, rfl, HI, HR, hbel⟩ := hrel
    clear o3 B3
    have HB : Hid (B'.length = n) := by rw [Hid, HI.out.len]; exact HRL.out
    by_cases h32 : r < 32
    · go_wp2_with fail
      · have g1 : bits .and .u32 ((t : Int) / 2 ^ r) 1 = 1 := by assumption
        have g2 : (p : Int) + (r : Int) < 8 * (n : Int) := by assumption
        obtain ⟨K, hK⟩ : ∃ K : Nat, (p : Int) + (r : Int) = (K : Int) := ⟨p + r, by omega⟩
        have hK8 : K / 8 < n := by omega
        have e1 := tdiv8 K (by omega)
        have e2 := add7 (K / 8) (by omega)
        have e3 := tmod8 K
        have ht1 : Hid (t.testBit r = true) := by
          rw [Hid]
          rw [and_test _ _ HT.out] at g1
          cases q : t.testBit r with
          | true => rfl
          | false => rw [q] at g1; exact absurd g1 (by decide)
        obtain ⟨y, hy⟩ : ∃ y, B'[K / 8]? = some y := ⟨B'[K / 8]'(by rw [HB.out]; exact hK8), List.getElem?_eq_getElem _⟩
        have hx0 : wr.cell? ⟨g, 7 + K / 8, none⟩ = some (.int .u8 (y.toNat : Int)) := by
          have := World.ownsRow.cells HR.out (g := g) rfl (7 + K / 8) (.int .u8 (y.toNat : Nat)) (by rw [bl, List.getElem?_map, get_body _ _ HH7.out, hy]; rfl)
          rw [addr_add, Nat.zero_add] at this
          exact this
        have hfz : wr.frozen? ⟨g, 7 + K / 8, none⟩ = false := World.ownsRow.frozenAt HR.out _
        have HY : Hid (B'[K / 8]? = some y) := hy
        have hyl := y.toNat_lt
        have HX := xor_turn y.toNat hyl (K % 8) (by omega)
        have HX2 : Hid _ := xor_lt8 y.toNat hyl (K % 8) (by omega)
        have HKK : Hid (K = p + r) := by rw [Hid]; omega
        clear hy g1 g2
        obtain ⟨x, hx⟩ : ∃ x, x = y.toNat ^^^ 2 ^ (K % 8) := ⟨_, rfl⟩
        rw [← hx] at HX HX2
        have HXX : Hid _ := hx
        clear hx
        have HI2 : Hid (Cx.Inv rec.data.toList (B'.set (K / 8) (UInt8.ofNat x)) t p (r + 1) true) := Cx.Inv.turn HI.out ht1.out HKK.out (by rw [HRL.out]; omega) HY.out HXX.out HX2.out
        have HR2 : Hid ((wr.setCell ⟨g, 7 + K / 8, none⟩ (.int .u8 (x : Int))).ownsRow B0 5 1 (.slice (some ⟨g, 0, none⟩) (7 + n) c3) (7 + n) (bl (HD ++ B'.set (K / 8) (UInt8.ofNat x)))) := by
          have := (World.ownsRow.stored HR.out (7 + K / 8) (.int .u8 (x : Int))).1
          rw [Hid, ← set_body _ _ HH7.out]
          rw [show bl ((HD ++ B').set (7 + K / 8) (UInt8.ofNat x)) = (bl (HD ++ B')).set (7 + K / 8) (.int .u8 (x : Int)) by
            have hx8 := HX2.out
            simp only [bl, List.map_set]
            congr 2
            simp
            omega]
          exact this
        have hgw : w.heap.size ≤ g := by omega
        go_big_region
        go_wp2_with fail
        go_roundw
        case rel => exact ⟨r + 1, _, true, by omega, by go_num, rfl, HI2.out, HR2.out, (hbel.setCell (by exact hgw) _).drew⟩
        case measure => simp [intOf]; omega
      · have g2 : 8 * (n : Int) ≤ (p : Int) + (r : Int) := by assumption
        go_roundw
        case rel => exact ⟨r + 1, B', c, by omega, by go_num, rfl, Cx.Inv.skip HI.out (Or.inr (by rw [HRL.out]; omega)), HR.out, hbel⟩
        case measure => simp [intOf]; omega
      · have g1 : ¬ bits .and .u32 ((t : Int) / 2 ^ r) 1 = 1 := by assumption
        have ht1 : t.testBit r = false := by
          rw [and_test _ _ HT.out] at g1
          cases q : t.testBit r with
          | true => rw [q] at g1; exact absurd rfl g1
          | false => rfl
        go_roundw
        case rel => exact ⟨r + 1, B', c, by omega, by go_num, rfl, Cx.Inv.skip HI.out (Or.inl ht1), HR.out, hbel⟩
        case measure => simp [intOf]; omega
    · have e32 : r = 32 := by omega
      subst e32
      have HSC := HS.out wr _ c3 _ B' HB.out HR.out
      cases c with
      | true =>
        have hsb : scanL (HD ++ B') = ([], 3) := by
          rw [← HHD.out]
          exact scan_bad (by rw [HB.out, HRL.out]) (by rw [HRL.out]; omega) (Cx.Inv.told (hd := [1]) HI.out rfl)
        rw [hsb] at HSC
        have HSH : Hid _ := HSC
        clear HSC hsb HI HR HS
        go_wp2_with fail
        refine Calls.mono HSH.out ?_
        rintro e w4 ⟨v4, rfl, o4, B4⟩
        obtain ⟨a4, c4, rfl⟩ := form9 o4
        have HO4 : Hid _ := o4
        clear o4
        go_wp2_with fail
        go_ret
        exact ⟨rfl, hbel.trans (B4.mono hbel.size)⟩
      | false =>
        have hBB := Cx.Inv.same HI.out
        have hsb : scanL (HD ++ B') = ([(rec.data.toList, rec.data.toList.length + 7)], 1) := by
          rw [← HHD.out, hBB]
          exact scan_good (by rw [HRL.out]; omega)
        rw [hsb] at HSC
        have HSH : Hid _ := HSC
        clear HSC hsb HI HR HS hBB
        go_wp2_with fail
        refine Calls.mono HSH.out ?_
        rintro e w4 ⟨v4, rfl, o4, B4⟩
        obtain ⟨g4, c4, rfl⟩ := ownsRow_succ (k := 0) o4
        have c40 : w4.cell? ⟨g4, 0, none⟩ = some (.string rec) := by
          have := o4.cells (g := g4) rfl 0 _ rfl
          rw [addr_add, Nat.zero_add] at this
          exact this
        have HO4 : Hid _ := o4
        clear o4
        go_wp2_with fail
        go_ret
        exact ⟨rfl, hbel.trans (B4.mono hbel.size)⟩
theorem turned_any (rec : ByteArray) (at' : Int) (t : Nat) (w : World) (hs : rec.size ≤ 140737488355328) (ht : t < 4294967296) :
    Calls Try.prog 7 #[.string rec, .int .i64 at', .int .u32 (t : Nat)] w fun r w' => r = .returned (.bool true) ∧ Below w.heap.size w w' := by
  by_cases ho : rec.size = 0 ∨ 1000 < rec.size
  · exact out_walk rec at' t w hs ho
  · have hb : (0 : Int) < 8 * (rec.size : Int) := by omega
    have h1 := Int.tmod_lt_of_pos at' hb
    have h2 := Int.lt_tmod_of_pos at' hb
    by_cases hn : at'.tmod (8 * (rec.size : Int)) < 0
    · exact turned_neg (at'.tmod (8 * (rec.size : Int)) + 8 * (rec.size : Int)).toNat rec at' t w (by omega) (by omega) (by omega) _ rfl hn (by omega) ht
    · exact turned_pos (at'.tmod (8 * (rec.size : Int))).toNat rec at' t w (by omega) (by omega) (by omega) (by omega) ht
end Go.Proofs.Ytefigcnfcbdecaa
