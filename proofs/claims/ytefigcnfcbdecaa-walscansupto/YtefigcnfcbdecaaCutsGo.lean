/-
  The walk of WalCuts: whatever the records and the place of the cut, the call returns true, and turns nothing that was there.
-/
import Derived.Test.YtefigcnfcbdecaaCutsWalk
namespace Go.Proofs.Ytefigcnfcbdecaa
open Go.RowKit
theorem ends_row {w2 W : World} {base R : Nat} {a9 : Option Addr} {c9 : Nat} {rs : List (List UInt8)} (RE : w2.ownsRow base 3 1 (.slice a9 R c9) R ((recsOf rs 0).map endV)) (hR : rs.length = R) (hB : Below w2.heap.size w2 W) {j : Nat} (hj : j < R) :
    ∃ g r, a9 = some ⟨g, 0, none⟩ ∧ (recsOf rs 0)[j]? = some r ∧ W.cell? ⟨g, j, none⟩ = some (.int .i64 (r.2 : Nat)) := by
  have hlr : j < (recsOf rs 0).length := by rw [recs_count, hR]; exact hj
  rcases RE.2 with ⟨hv, h0⟩ | ⟨g, cap', cur, hv, _⟩
  · omega
  · simp only [Value.slice.injEq] at hv
    obtain ⟨rfl, _, _⟩ := hv
    have hc := RE.cells (g := g) rfl j (endV (recsOf rs 0)[j]) (by rw [List.getElem?_map, List.getElem?_eq_getElem hlr]; rfl)
    rw [addr_add, Nat.zero_add] at hc
    exact ⟨g, _, rfl, List.getElem?_eq_getElem hlr, (hB.cell (p := ⟨g, j, none⟩) (World.block_lt_of_cell? _ _ hc)).trans hc⟩
theorem owns_meta9 {W : World} {base n c : Nat} {a : Option Addr} {xs : List Value} (h : W.ownsRow base 9 1 (.slice a n c) n xs) : n ≤ c ∧ (a = none → c = 0) ∧ (∀ ad, a = some ad → ad.spot = none) := by
  rcases h.2 with ⟨hv, h0⟩ | ⟨g, cap, cur, hv, _, _, h1, _⟩
  · simp only [Value.slice.injEq] at hv
    obtain ⟨rfl, rfl, rfl⟩ := hv
    exact ⟨Nat.le_refl _, fun _ => rfl, fun _ e => by cases e⟩
  · simp only [Value.slice.injEq, true_and] at hv
    obtain ⟨rfl, rfl⟩ := hv
    refine ⟨by omega, fun e => (by cases e), fun ad e => ?_⟩
    simp only [Option.some.injEq] at e
    rw [← e]
set_option maxRecDepth 100000 in
set_option maxHeartbeats 8000000 in
theorem cuts_walk (a : Option Addr) (ca : Nat) (ks : List ByteArray) (at' : Int) (w : World) (hk : StrsAt w a ks) (hks : ∀ s ∈ ks, s.size ≤ 140737488355328) (hl : ks.length ≤ 140737488355328) :
    Calls Try.prog 5 #[.slice a ks.length ca, .int .i64 at'] w fun r w' => r = .returned (.bool true) ∧ Below w.heap.size w w' := by
  have HLD : Hid (∀ W : World, Below w.heap.size w W → Calls Try.prog 21 #[.slice a ks.length ca] W fun r w' => ∃ v8 v9 v10 x rs, r = .returned (.tuple #[v8, v9, v10, .bool true]) ∧ LI W w' x v8 v9 v10 rs) := fun W hB => laid_any a ca ks W (fun j s hj => by
    obtain ⟨b, off, e, hb, hc⟩ := hk j s hj
    exact ⟨b, off, e, Nat.lt_of_lt_of_le hb hB.size, (hB.cell (p := ⟨b, off + j, none⟩) hb).trans hc⟩) hks hl
  clear hk hks
  go_enter Try.func5, Try.ntmps5
  go_wp2_with fail
  refine (lives_any _).mono ?_
  rintro e w1 ⟨rfl, B1⟩
  go_wp2_with fail
  refine (HLD.out _ B1).mono ?_
  rintro e w2 ⟨v8, v9, v10, x, rs, rfl, hL⟩
  have B2 : Hid (Below w.heap.size w w2) := B1.trans (hL.bel.mono B1.size)
  obtain ⟨a8, c8, rfl⟩ := form_of_row hL.b
  obtain ⟨a9, c9, rfl⟩ := form3 hL.e
  obtain ⟨a10, c10, rfl⟩ := form9 hL.t
  obtain ⟨L, hLL⟩ : ∃ L, (logOf rs 0).length = L := ⟨_, rfl⟩
  obtain ⟨R, hR⟩ : ∃ R, rs.length = R := ⟨_, rfl⟩
  have hLe : L ≤ 1048576 := by rw [← hLL]; exact hL.le
  have hRe : R ≤ 1048576 := by have := log_seven rs 0; omega
  have RB : Hid (w2.ownsRow w1.heap.size 5 1 (.slice a8 L c8) L (bl (logOf rs 0))) := by have := hL.b; rw [hLL] at this; exact this
  have RE : Hid (w2.ownsRow w1.heap.size 3 1 (.slice a9 R c9) R ((recsOf rs 0).map endV)) := by have := hL.e; rw [hR] at this; exact this
  have RT : Hid (w2.ownsRow w1.heap.size 9 1 (.slice a10 R c10) R (rs.map strV)) := by have := hL.t; rw [hR] at this; exact this
  rw [hLL, hR]
  have HR : Hid _ := hR
  have HLL : Hid _ := hLL
  clear hL hR hLL HLD B1
  obtain ⟨q, hq⟩ : ∃ q, at'.tmod ((L : Int) + 1) = q := ⟨_, rfl⟩
  have hq1 : q < (L : Int) + 1 := by rw [← hq]; exact Int.tmod_lt_of_pos _ (by omega)
  have hq2 : -((L : Int) + 1) < q := by rw [← hq]; exact Int.lt_tmod_of_pos _ (by omega)
  have HSC1 : Hid (Calls Try.prog 17 #[.slice a8 L c8] w2 fun r w' => ∃ v, r = .returned (.tuple #[v, .int .i64 (endOf (recsOf rs 0) : Nat), .int .i64 1]) ∧ w'.ownsRow w2.heap.size 9 1 v R ((recsOf rs 0).map textV) ∧ Below w2.heap.size w2 w') := by
    obtain ⟨m1, m2, m3⟩ := owns_meta RB.out
    have := scan_any a8 c8 (logOf rs 0) w2 (bytes_of_owns RB.out HLL.out) (by rw [HLL.out]; omega) (by rw [HLL.out]; exact m1) m2 m3
    rw [scan_log, HLL.out, recs_count, HR.out] at this
    exact this
  by_cases hneg : q < 0
  · obtain ⟨n, hn⟩ : ∃ n : Nat, q + (L : Int) + 1 = (n : Int) := ⟨(q + L + 1).toNat, by omega⟩
    have d1 : decide (q < 0) = true := decide_eq_true hneg
    have hnL : n ≤ L := by omega
    have hLc : L ≤ c8 := (owns_meta RB.out).1
    have hnc : n ≤ c8 := by omega
    have hncI : (n : Int) ≤ (c8 : Int) := by omega
    obtain ⟨K, hK⟩ : ∃ K, kN rs n = K := ⟨_, rfl⟩
    have HKK : Hid _ := hK
    have hKR : K ≤ R := by rw [← hK, ← HR.out]; exact kN_le rs n
    obtain ⟨F, hF⟩ : ∃ F, endOf ((recsOf rs 0).take K) = F := ⟨_, rfl⟩
    have HF : Hid _ := hF
    obtain ⟨y, hy, hy12⟩ : ∃ y, (scanL ((logOf rs 0).take n)).2 = y ∧ (y = 1 ∨ y = 2) := ⟨_, rfl, (scan_cut rs n).2⟩
    have HSC2 : Hid (∀ W : World, Below w2.heap.size w2 W → Calls Try.prog 17 #[.slice a8 n c8] W fun r w' => ∃ v, r = .returned (.tuple #[v, .int .i64 (F : Nat), .int .i64 (y : Nat)]) ∧ w'.ownsRow W.heap.size 9 1 v K (((recsOf rs 0).take K).map textV) ∧ Below W.heap.size W w') := fun W hB => by
      obtain ⟨m1, m2, m3⟩ := owns_meta RB.out
      have hlt : ((logOf rs 0).take n).length = n := by rw [List.length_take, HLL.out]; omega
      have hby : BytesAt W a8 ((logOf rs 0).take n) := fun j c hj => by
        have hjn := (List.getElem?_eq_some_iff.1 hj).1
        rw [hlt] at hjn
        rw [List.getElem?_take_of_lt hjn] at hj
        exact (bytes_of_owns RB.out HLL.out).below (Nat.le_refl _) hB j c hj
      have := scan_any a8 c8 ((logOf rs 0).take n) W hby (by rw [hlt]; omega) (by rw [hlt]; omega) m2 m3
      rw [hlt, hy, scan_first, hK, hF, List.length_take, recs_count, HR.out, Nat.min_eq_left hKR] at this
      exact this
    clear hK hF hy
    go_wp2_with fail
    refine (HSC1.out).mono ?_
    rintro e w3 ⟨v3, rfl, o3, b3⟩
    obtain ⟨a3, c3, rfl⟩ := form9 o3
    have B3 : Hid (Below w.heap.size w w3) := B2.out.trans (b3.mono B2.out.size)
    have P3 : Hid (StrsAt w3 a3 (mkS rs)) := by
      have := strs_of_owns o3 (by rw [recs_count, HR.out])
      rw [texts_recs] at this
      exact this
    have P2 : Hid (StrsAt w3 a10 (mkS rs)) := fun j s hj => by
      obtain ⟨bb, off, e, hlt, hc⟩ := strs_of_rows RT.out HR.out j s hj
      exact ⟨bb, off, e, Nat.lt_of_lt_of_le hlt b3.size, (b3.cell (p := ⟨bb, off + j, none⟩) hlt).trans hc⟩
    have HST : Hid (∀ q, Calls Try.prog 19 #[.slice a3 R c3, .slice a10 R c10] (w3.drewN q) fun r w' => r = .returned (.bool true) ∧ Below (w3.drewN q).heap.size (w3.drewN q) w') := fun q => by
      have := sameTexts_eq a3 a10 c3 c10 (mkS rs) (w3.drewN q) P3.out P2.out (by simp only [mkS, List.length_map, HR.out]; omega)
      rw [show (mkS rs).length = R by simp [mkS, HR.out]] at this
      exact this
    have b23 : Hid (Below w2.heap.size w2 w3) := b3
    clear o3 b3
    have hR0 : Hid (0 < R → ∃ g r, a9 = some ⟨g, 0, none⟩ ∧ (recsOf rs 0)[R - 1]? = some r ∧ w3.cell? ⟨g, R - 1, none⟩ = some (.int .i64 (r.2 : Nat))) := fun h => ends_row RE.out HR.out b23.out (by omega)
    obtain ⟨E, hE⟩ : ∃ E, endOf (recsOf rs 0) = E := ⟨_, rfl⟩
    rw [hE]
    have HE : Hid _ := hE
    clear hE
    go_wp2_with fail
    refine (HST.out 0).mono ?_
    rintro e w4 ⟨rfl, b4⟩
    have b24 : Hid (Below w2.heap.size w2 w4) := b23.out.trans (b4.mono b23.out.size)
    have B4 : Hid (Below w.heap.size w w4) := B3.out.trans (b4.mono B3.out.size)
    clear b4
    have hne1 : ((1 : Int) != 1) = false := by simp
    by_cases hRz : R = 0
    · subst hRz
      obtain rfl : K = 0 := by omega
      obtain rfl : F = 0 := by rw [← HF.out]; exact end_none _
      clear hR0
      go_wp2_with fail
      go_loopw [13] (fun i wr => ∃ k : Nat, k ≤ 0 ∧ i = .int .i64 (k : Nat) ∧ ∃ q, wr = w4.drewN q) (fun i _ => 0 - (intOf i).toNat)
      case atStart => exact ⟨0, by omega, rfl, 0, rfl⟩
      case round =>
        obtain ⟨k, hk, rfl, z, rfl⟩ := hrel
        have b24z : Hid (Below w2.heap.size w2 (w4.drewN z)) := b24.out.trans (belD _ _ |>.mono b24.out.size)
        have B4z : Hid (Below w.heap.size w (w4.drewN z)) := B4.out.trans (belD _ _ |>.mono B4.out.size)
        obtain rfl : k = 0 := by omega
        have HS2 := HSC2.out _ b24z.out
        go_wp2_with fail
        refine Calls.mono HS2 ?_
        rintro e w5 ⟨v5, rfl, o5, b5⟩
        obtain ⟨a5, c5, rfl⟩ := form9 o5
        have B5 : Hid (Below w.heap.size w w5) := B4z.out.trans (b5.mono B4z.out.size)
        have b25 : Hid (Below w2.heap.size w2 w5) := b24z.out.trans (b5.mono b24z.out.size)
        have P5 : Hid (StrsAt w5 a5 ((mkS rs).take 0)) := by
          have := strs_of_owns o5 (by rw [List.length_take, recs_count, HR.out]; omega)
          rw [texts_take] at this
          exact this
        have P6 : Hid (StrsAt w5 a10 ((mkS rs).take 0)) := strs_prefix (ls := mkS rs) (fun j s hj => by
          obtain ⟨bb, off, e, hlt, hc⟩ := strs_of_rows RT.out HR.out j s hj
          exact ⟨bb, off, e, Nat.lt_of_lt_of_le hlt b25.out.size, (b25.out.cell (p := ⟨bb, off + j, none⟩) hlt).trans hc⟩) (List.take_prefix _ _)
        have HS6 : Hid (∀ (q c : Nat), Calls Try.prog 19 #[.slice a5 0 c5, .slice a10 0 c] (w5.drewN q) fun r w' => r = .returned (.bool true) ∧ Below (w5.drewN q).heap.size (w5.drewN q) w') := fun q c => by
          have := sameTexts_eq a5 a10 c5 c ((mkS rs).take 0) (w5.drewN q) P5.out P6.out (by simp only [mkS, List.length_take, List.length_map, HR.out]; omega)
          rw [show ((mkS rs).take 0).length = 0 by rw [List.length_take, mkS, List.length_map, HR.out]; omega] at this
          exact this
        clear o5 b5 P5 P6
        obtain ⟨m1, m2, m3⟩ := owns_meta9 RT.out
        rcases hy12 with rfl | rfl
        · go_wp2_with fail
          refine (HS6.out 0 _).mono ?_
          rintro e w6 ⟨rfl, b6⟩
          have B6 : Hid (Below w.heap.size w w6) := B5.out.trans (b6.mono B5.out.size)
          clear b6
          go_wp2_with fail
          go_ret
          exact ⟨rfl, B6.out⟩
        · go_wp2_with fail
          refine (HS6.out 0 _).mono ?_
          rintro e w6 ⟨rfl, b6⟩
          have B6 : Hid (Below w.heap.size w w6) := B5.out.trans (b6.mono B5.out.size)
          clear b6
          go_wp2_with fail
          go_ret
          exact ⟨rfl, B6.out⟩
    · obtain ⟨g9, r9, rfl, hr9, _⟩ := hR0.out (by omega)
      have c94 : w4.cell? ⟨g9, R - 1, none⟩ = some (.int .i64 (E : Nat)) := by
        obtain ⟨g, r, e1, e2, e3⟩ := ends_row RE.out HR.out b24.out (j := R - 1) (by omega)
        cases e1
        rw [e3]
        have := end_take e2
        rw [show R - 1 + 1 = R by omega, List.take_of_length_le (by rw [recs_count, HR.out]; omega), HE.out] at this
        rw [this]
      have hEE : ((E : Int) != (E : Int)) = false := by simp
      have hR1 : ((R : Int) - 1) = ((R - 1 : Nat) : Int) := by omega
      have hR2 : decide (0 < (R : Int)) = true := decide_eq_true (by omega)
      clear hr9 hR0
      by_cases hKz : K = 0
      · subst hKz
        obtain rfl : F = 0 := by rw [← HF.out]; exact end_none _
        go_wp2_with fail
        go_loopw [13] (fun i wr => ∃ k : Nat, k ≤ 0 ∧ i = .int .i64 (k : Nat) ∧ ∃ q, wr = w4.drewN q) (fun i _ => 0 - (intOf i).toNat)
        case atStart => exact ⟨0, by omega, rfl, 0, rfl⟩
        case round =>
          obtain ⟨k, hk, rfl, z, rfl⟩ := hrel
          have b24z : Hid (Below w2.heap.size w2 (w4.drewN z)) := b24.out.trans (belD _ _ |>.mono b24.out.size)
          have B4z : Hid (Below w.heap.size w (w4.drewN z)) := B4.out.trans (belD _ _ |>.mono B4.out.size)
          obtain rfl : k = 0 := by omega
          have HS2 := HSC2.out _ b24z.out
          obtain ⟨g, r, e1, e2, e3⟩ := ends_row RE.out HR.out b24z.out (j := 0) (by omega)
          cases e1
          have hgt := kN_out (rs := rs) (n := n) (r := r) (by rw [HKK.out]; exact e2)
          obtain ⟨er, her⟩ : ∃ er, r.2 = er := ⟨_, rfl⟩
          rw [her] at hgt e3
          have hkR2 : (0 : Int) < (R : Int) := by omega
          have hgtI : ¬ ((er : Int) ≤ (n : Int)) := by omega
          clear e2 her
          go_wp2_with fail
          refine Calls.mono HS2 ?_
          rintro e w5 ⟨v5, rfl, o5, b5⟩
          obtain ⟨a5, c5, rfl⟩ := form9 o5
          have B5 : Hid (Below w.heap.size w w5) := B4z.out.trans (b5.mono B4z.out.size)
          have b25 : Hid (Below w2.heap.size w2 w5) := b24z.out.trans (b5.mono b24z.out.size)
          have P5 : Hid (StrsAt w5 a5 ((mkS rs).take 0)) := by
            have := strs_of_owns o5 (by rw [List.length_take, recs_count, HR.out]; omega)
            rw [texts_take] at this
            exact this
          have P6 : Hid (StrsAt w5 a10 ((mkS rs).take 0)) := strs_prefix (ls := mkS rs) (fun j s hj => by
            obtain ⟨bb, off, e, hlt, hc⟩ := strs_of_rows RT.out HR.out j s hj
            exact ⟨bb, off, e, Nat.lt_of_lt_of_le hlt b25.out.size, (b25.out.cell (p := ⟨bb, off + j, none⟩) hlt).trans hc⟩) (List.take_prefix _ _)
          have HS6 : Hid (∀ (q c : Nat), Calls Try.prog 19 #[.slice a5 0 c5, .slice a10 0 c] (w5.drewN q) fun r w' => r = .returned (.bool true) ∧ Below (w5.drewN q).heap.size (w5.drewN q) w') := fun q c => by
            have := sameTexts_eq a5 a10 c5 c ((mkS rs).take 0) (w5.drewN q) P5.out P6.out (by simp only [mkS, List.length_take, List.length_map, HR.out]; omega)
            rw [show ((mkS rs).take 0).length = 0 by rw [List.length_take, mkS, List.length_map, HR.out]; omega] at this
            exact this
          clear o5 b5 P5 P6
          obtain ⟨m1, m2, m3⟩ := owns_meta9 RT.out
          rcases hy12 with rfl | rfl
          · go_wp2_with fail
            refine (HS6.out 0 _).mono ?_
            rintro e w6 ⟨rfl, b6⟩
            have B6 : Hid (Below w.heap.size w w6) := B5.out.trans (b6.mono B5.out.size)
            clear b6
            go_wp2_with fail
            go_ret
            exact ⟨rfl, B6.out⟩
          · go_wp2_with fail
            refine (HS6.out 0 _).mono ?_
            rintro e w6 ⟨rfl, b6⟩
            have B6 : Hid (Below w.heap.size w w6) := B5.out.trans (b6.mono B5.out.size)
            clear b6
            go_wp2_with fail
            go_ret
            exact ⟨rfl, B6.out⟩
      · have HC : Hid (∀ W : World, Below w2.heap.size w2 W → W.cell? ⟨g9, K - 1, none⟩ = some (.int .i64 (F : Nat))) := fun W hB => by
          obtain ⟨g, r, e1, e2, e3⟩ := ends_row RE.out HR.out hB (j := K - 1) (by omega)
          cases e1
          rw [e3]
          have := end_take e2
          rw [show K - 1 + 1 = K by omega, HF.out] at this
          rw [this]
        have hK1 : ((K : Int) - 1) = ((K - 1 : Nat) : Int) := by omega
        have hK2 : decide (0 < (K : Int)) = true := decide_eq_true (by omega)
        have hK3 : decide ((K : Int) = 0) = false := decide_eq_false (by omega)
        go_wp2_with fail
        go_loopw [13] (fun i wr => ∃ k : Nat, k ≤ K ∧ i = .int .i64 (k : Nat) ∧ ∃ q, wr = w4.drewN q) (fun i _ => K - (intOf i).toNat)
        case atStart => exact ⟨0, by omega, rfl, 0, rfl⟩
        case round =>
          obtain ⟨k, hk, rfl, z, rfl⟩ := hrel
          have b24z : Hid (Below w2.heap.size w2 (w4.drewN z)) := b24.out.trans (belD _ _ |>.mono b24.out.size)
          have B4z : Hid (Below w.heap.size w (w4.drewN z)) := B4.out.trans (belD _ _ |>.mono B4.out.size)
          by_cases hkK : k < K
          · obtain ⟨g, r, e1, e2, e3⟩ := ends_row RE.out HR.out b24z.out (j := k) (by omega)
            cases e1
            have hle := kN_in (by rw [HKK.out]; exact hkK) e2
            obtain ⟨er, her⟩ : ∃ er, r.2 = er := ⟨_, rfl⟩
            rw [her] at hle e3
            have hkR : (k : Int) < (R : Int) := by omega
            have hleI : (er : Int) ≤ (n : Int) := by omega
            clear e2 her
            go_wp2_with fail
            go_roundw
            case rel => exact ⟨k + 1, by omega, by go_num, z, rfl⟩
            case measure => simp [intOf]; omega
          · obtain rfl : K = k := by omega
            have HS2 := HSC2.out _ b24z.out
            by_cases hkR : K < R
            · obtain ⟨g, r, e1, e2, e3⟩ := ends_row RE.out HR.out b24z.out (j := K) hkR
              cases e1
              have hgt := kN_out (rs := rs) (n := n) (r := r) (by rw [HKK.out]; exact e2)
              obtain ⟨er, her⟩ : ∃ er, r.2 = er := ⟨_, rfl⟩
              rw [her] at hgt e3
              have hkR2 : (K : Int) < (R : Int) := by omega
              have hgtI : ¬ ((er : Int) ≤ (n : Int)) := by omega
              clear e2 her
              go_wp2_with fail
              refine Calls.mono HS2 ?_
              rintro e w5 ⟨v5, rfl, o5, b5⟩
              obtain ⟨a5, c5, rfl⟩ := form9 o5
              have B5 : Hid (Below w.heap.size w w5) := B4z.out.trans (b5.mono B4z.out.size)
              have b25 : Hid (Below w2.heap.size w2 w5) := b24z.out.trans (b5.mono b24z.out.size)
              have P5 : Hid (StrsAt w5 a5 ((mkS rs).take K)) := by
                have := strs_of_owns o5 (by rw [List.length_take, recs_count, HR.out]; omega)
                rw [texts_take] at this
                exact this
              have P6 : Hid (StrsAt w5 a10 ((mkS rs).take K)) := strs_prefix (ls := mkS rs) (fun j s hj => by
                obtain ⟨bb, off, e, hlt, hc⟩ := strs_of_rows RT.out HR.out j s hj
                exact ⟨bb, off, e, Nat.lt_of_lt_of_le hlt b25.out.size, (b25.out.cell (p := ⟨bb, off + j, none⟩) hlt).trans hc⟩) (List.take_prefix _ _)
              have HS6 : Hid (∀ (q c : Nat), Calls Try.prog 19 #[.slice a5 K c5, .slice a10 K c] (w5.drewN q) fun r w' => r = .returned (.bool true) ∧ Below (w5.drewN q).heap.size (w5.drewN q) w') := fun q c => by
                have := sameTexts_eq a5 a10 c5 c ((mkS rs).take K) (w5.drewN q) P5.out P6.out (by simp only [mkS, List.length_take, List.length_map, HR.out]; omega)
                rw [show ((mkS rs).take K).length = K by rw [List.length_take, mkS, List.length_map, HR.out]; omega] at this
                exact this
              clear o5 b5 P5 P6
              obtain ⟨m1, m2, m3⟩ := owns_meta9 RT.out
              rcases hy12 with rfl | rfl
              · go_wp2_with fail
                refine (HS6.out 0 _).mono ?_
                rintro e w6 ⟨rfl, b6⟩
                have B6 : Hid (Below w.heap.size w w6) := B5.out.trans (b6.mono B5.out.size)
                have c6 := HC.out _ (b25.out.trans (b6.mono b25.out.size))
                clear b6
                go_wp2_with fail
                go_ret
                exact ⟨rfl, B6.out⟩
              · go_wp2_with fail
                refine (HS6.out 0 _).mono ?_
                rintro e w6 ⟨rfl, b6⟩
                have B6 : Hid (Below w.heap.size w w6) := B5.out.trans (b6.mono B5.out.size)
                have c6 := HC.out _ (b25.out.trans (b6.mono b25.out.size))
                clear b6
                go_wp2_with fail
                go_ret
                exact ⟨rfl, B6.out⟩
            · obtain rfl : K = R := by omega
              go_wp2_with fail
              refine Calls.mono HS2 ?_
              rintro e w5 ⟨v5, rfl, o5, b5⟩
              obtain ⟨a5, c5, rfl⟩ := form9 o5
              have B5 : Hid (Below w.heap.size w w5) := B4z.out.trans (b5.mono B4z.out.size)
              have b25 : Hid (Below w2.heap.size w2 w5) := b24z.out.trans (b5.mono b24z.out.size)
              have P5 : Hid (StrsAt w5 a5 ((mkS rs).take K)) := by
                have := strs_of_owns o5 (by rw [List.length_take, recs_count, HR.out]; omega)
                rw [texts_take] at this
                exact this
              have P6 : Hid (StrsAt w5 a10 ((mkS rs).take K)) := strs_prefix (ls := mkS rs) (fun j s hj => by
                obtain ⟨bb, off, e, hlt, hc⟩ := strs_of_rows RT.out HR.out j s hj
                exact ⟨bb, off, e, Nat.lt_of_lt_of_le hlt b25.out.size, (b25.out.cell (p := ⟨bb, off + j, none⟩) hlt).trans hc⟩) (List.take_prefix _ _)
              have HS6 : Hid (∀ (q c : Nat), Calls Try.prog 19 #[.slice a5 K c5, .slice a10 K c] (w5.drewN q) fun r w' => r = .returned (.bool true) ∧ Below (w5.drewN q).heap.size (w5.drewN q) w') := fun q c => by
                have := sameTexts_eq a5 a10 c5 c ((mkS rs).take K) (w5.drewN q) P5.out P6.out (by simp only [mkS, List.length_take, List.length_map, HR.out]; omega)
                rw [show ((mkS rs).take K).length = K by rw [List.length_take, mkS, List.length_map, HR.out]; omega] at this
                exact this
              clear o5 b5 P5 P6
              obtain ⟨m1, m2, m3⟩ := owns_meta9 RT.out
              rcases hy12 with rfl | rfl
              · go_wp2_with fail
                refine (HS6.out 0 _).mono ?_
                rintro e w6 ⟨rfl, b6⟩
                have B6 : Hid (Below w.heap.size w w6) := B5.out.trans (b6.mono B5.out.size)
                have c6 := HC.out _ (b25.out.trans (b6.mono b25.out.size))
                clear b6
                go_wp2_with fail
                go_ret
                exact ⟨rfl, B6.out⟩
              · go_wp2_with fail
                refine (HS6.out 0 _).mono ?_
                rintro e w6 ⟨rfl, b6⟩
                have B6 : Hid (Below w.heap.size w w6) := B5.out.trans (b6.mono B5.out.size)
                have c6 := HC.out _ (b25.out.trans (b6.mono b25.out.size))
                clear b6
                go_wp2_with fail
                go_ret
                exact ⟨rfl, B6.out⟩
  · obtain ⟨n, rfl⟩ : ∃ n : Nat, q = (n : Int) := ⟨q.toNat, by omega⟩
    have d1 : decide ((n : Int) < 0) = false := decide_eq_false hneg
    have hnL : n ≤ L := by omega
    have hLc : L ≤ c8 := (owns_meta RB.out).1
    have hnc : n ≤ c8 := by omega
    have hncI : (n : Int) ≤ (c8 : Int) := by omega
    obtain ⟨K, hK⟩ : ∃ K, kN rs n = K := ⟨_, rfl⟩
    have HKK : Hid _ := hK
    have hKR : K ≤ R := by rw [← hK, ← HR.out]; exact kN_le rs n
    obtain ⟨F, hF⟩ : ∃ F, endOf ((recsOf rs 0).take K) = F := ⟨_, rfl⟩
    have HF : Hid _ := hF
    obtain ⟨y, hy, hy12⟩ : ∃ y, (scanL ((logOf rs 0).take n)).2 = y ∧ (y = 1 ∨ y = 2) := ⟨_, rfl, (scan_cut rs n).2⟩
    have HSC2 : Hid (∀ W : World, Below w2.heap.size w2 W → Calls Try.prog 17 #[.slice a8 n c8] W fun r w' => ∃ v, r = .returned (.tuple #[v, .int .i64 (F : Nat), .int .i64 (y : Nat)]) ∧ w'.ownsRow W.heap.size 9 1 v K (((recsOf rs 0).take K).map textV) ∧ Below W.heap.size W w') := fun W hB => by
      obtain ⟨m1, m2, m3⟩ := owns_meta RB.out
      have hlt : ((logOf rs 0).take n).length = n := by rw [List.length_take, HLL.out]; omega
      have hby : BytesAt W a8 ((logOf rs 0).take n) := fun j c hj => by
        have hjn := (List.getElem?_eq_some_iff.1 hj).1
        rw [hlt] at hjn
        rw [List.getElem?_take_of_lt hjn] at hj
        exact (bytes_of_owns RB.out HLL.out).below (Nat.le_refl _) hB j c hj
      have := scan_any a8 c8 ((logOf rs 0).take n) W hby (by rw [hlt]; omega) (by rw [hlt]; omega) m2 m3
      rw [hlt, hy, scan_first, hK, hF, List.length_take, recs_count, HR.out, Nat.min_eq_left hKR] at this
      exact this
    clear hK hF hy
    go_wp2_with fail
    refine (HSC1.out).mono ?_
    rintro e w3 ⟨v3, rfl, o3, b3⟩
    obtain ⟨a3, c3, rfl⟩ := form9 o3
    have B3 : Hid (Below w.heap.size w w3) := B2.out.trans (b3.mono B2.out.size)
    have P3 : Hid (StrsAt w3 a3 (mkS rs)) := by
      have := strs_of_owns o3 (by rw [recs_count, HR.out])
      rw [texts_recs] at this
      exact this
    have P2 : Hid (StrsAt w3 a10 (mkS rs)) := fun j s hj => by
      obtain ⟨bb, off, e, hlt, hc⟩ := strs_of_rows RT.out HR.out j s hj
      exact ⟨bb, off, e, Nat.lt_of_lt_of_le hlt b3.size, (b3.cell (p := ⟨bb, off + j, none⟩) hlt).trans hc⟩
    have HST : Hid (∀ q, Calls Try.prog 19 #[.slice a3 R c3, .slice a10 R c10] (w3.drewN q) fun r w' => r = .returned (.bool true) ∧ Below (w3.drewN q).heap.size (w3.drewN q) w') := fun q => by
      have := sameTexts_eq a3 a10 c3 c10 (mkS rs) (w3.drewN q) P3.out P2.out (by simp only [mkS, List.length_map, HR.out]; omega)
      rw [show (mkS rs).length = R by simp [mkS, HR.out]] at this
      exact this
    have b23 : Hid (Below w2.heap.size w2 w3) := b3
    clear o3 b3
    have hR0 : Hid (0 < R → ∃ g r, a9 = some ⟨g, 0, none⟩ ∧ (recsOf rs 0)[R - 1]? = some r ∧ w3.cell? ⟨g, R - 1, none⟩ = some (.int .i64 (r.2 : Nat))) := fun h => ends_row RE.out HR.out b23.out (by omega)
    obtain ⟨E, hE⟩ : ∃ E, endOf (recsOf rs 0) = E := ⟨_, rfl⟩
    rw [hE]
    have HE : Hid _ := hE
    clear hE
    go_wp2_with fail
    refine (HST.out 0).mono ?_
    rintro e w4 ⟨rfl, b4⟩
    have b24 : Hid (Below w2.heap.size w2 w4) := b23.out.trans (b4.mono b23.out.size)
    have B4 : Hid (Below w.heap.size w w4) := B3.out.trans (b4.mono B3.out.size)
    clear b4
    have hne1 : ((1 : Int) != 1) = false := by simp
    by_cases hRz : R = 0
    · subst hRz
      obtain rfl : K = 0 := by omega
      obtain rfl : F = 0 := by rw [← HF.out]; exact end_none _
      clear hR0
      go_wp2_with fail
      go_loopw [13] (fun i wr => ∃ k : Nat, k ≤ 0 ∧ i = .int .i64 (k : Nat) ∧ ∃ q, wr = w4.drewN q) (fun i _ => 0 - (intOf i).toNat)
      case atStart => exact ⟨0, by omega, rfl, 0, rfl⟩
      case round =>
        obtain ⟨k, hk, rfl, z, rfl⟩ := hrel
        have b24z : Hid (Below w2.heap.size w2 (w4.drewN z)) := b24.out.trans (belD _ _ |>.mono b24.out.size)
        have B4z : Hid (Below w.heap.size w (w4.drewN z)) := B4.out.trans (belD _ _ |>.mono B4.out.size)
        obtain rfl : k = 0 := by omega
        have HS2 := HSC2.out _ b24z.out
        go_wp2_with fail
        refine Calls.mono HS2 ?_
        rintro e w5 ⟨v5, rfl, o5, b5⟩
        obtain ⟨a5, c5, rfl⟩ := form9 o5
        have B5 : Hid (Below w.heap.size w w5) := B4z.out.trans (b5.mono B4z.out.size)
        have b25 : Hid (Below w2.heap.size w2 w5) := b24z.out.trans (b5.mono b24z.out.size)
        have P5 : Hid (StrsAt w5 a5 ((mkS rs).take 0)) := by
          have := strs_of_owns o5 (by rw [List.length_take, recs_count, HR.out]; omega)
          rw [texts_take] at this
          exact this
        have P6 : Hid (StrsAt w5 a10 ((mkS rs).take 0)) := strs_prefix (ls := mkS rs) (fun j s hj => by
          obtain ⟨bb, off, e, hlt, hc⟩ := strs_of_rows RT.out HR.out j s hj
          exact ⟨bb, off, e, Nat.lt_of_lt_of_le hlt b25.out.size, (b25.out.cell (p := ⟨bb, off + j, none⟩) hlt).trans hc⟩) (List.take_prefix _ _)
        have HS6 : Hid (∀ (q c : Nat), Calls Try.prog 19 #[.slice a5 0 c5, .slice a10 0 c] (w5.drewN q) fun r w' => r = .returned (.bool true) ∧ Below (w5.drewN q).heap.size (w5.drewN q) w') := fun q c => by
          have := sameTexts_eq a5 a10 c5 c ((mkS rs).take 0) (w5.drewN q) P5.out P6.out (by simp only [mkS, List.length_take, List.length_map, HR.out]; omega)
          rw [show ((mkS rs).take 0).length = 0 by rw [List.length_take, mkS, List.length_map, HR.out]; omega] at this
          exact this
        clear o5 b5 P5 P6
        obtain ⟨m1, m2, m3⟩ := owns_meta9 RT.out
        rcases hy12 with rfl | rfl
        · go_wp2_with fail
          refine (HS6.out 0 _).mono ?_
          rintro e w6 ⟨rfl, b6⟩
          have B6 : Hid (Below w.heap.size w w6) := B5.out.trans (b6.mono B5.out.size)
          clear b6
          go_wp2_with fail
          go_ret
          exact ⟨rfl, B6.out⟩
        · go_wp2_with fail
          refine (HS6.out 0 _).mono ?_
          rintro e w6 ⟨rfl, b6⟩
          have B6 : Hid (Below w.heap.size w w6) := B5.out.trans (b6.mono B5.out.size)
          clear b6
          go_wp2_with fail
          go_ret
          exact ⟨rfl, B6.out⟩
    · obtain ⟨g9, r9, rfl, hr9, _⟩ := hR0.out (by omega)
      have c94 : w4.cell? ⟨g9, R - 1, none⟩ = some (.int .i64 (E : Nat)) := by
        obtain ⟨g, r, e1, e2, e3⟩ := ends_row RE.out HR.out b24.out (j := R - 1) (by omega)
        cases e1
        rw [e3]
        have := end_take e2
        rw [show R - 1 + 1 = R by omega, List.take_of_length_le (by rw [recs_count, HR.out]; omega), HE.out] at this
        rw [this]
      have hEE : ((E : Int) != (E : Int)) = false := by simp
      have hR1 : ((R : Int) - 1) = ((R - 1 : Nat) : Int) := by omega
      have hR2 : decide (0 < (R : Int)) = true := decide_eq_true (by omega)
      clear hr9 hR0
      by_cases hKz : K = 0
      · subst hKz
        obtain rfl : F = 0 := by rw [← HF.out]; exact end_none _
        go_wp2_with fail
        go_loopw [13] (fun i wr => ∃ k : Nat, k ≤ 0 ∧ i = .int .i64 (k : Nat) ∧ ∃ q, wr = w4.drewN q) (fun i _ => 0 - (intOf i).toNat)
        case atStart => exact ⟨0, by omega, rfl, 0, rfl⟩
        case round =>
          obtain ⟨k, hk, rfl, z, rfl⟩ := hrel
          have b24z : Hid (Below w2.heap.size w2 (w4.drewN z)) := b24.out.trans (belD _ _ |>.mono b24.out.size)
          have B4z : Hid (Below w.heap.size w (w4.drewN z)) := B4.out.trans (belD _ _ |>.mono B4.out.size)
          obtain rfl : k = 0 := by omega
          have HS2 := HSC2.out _ b24z.out
          obtain ⟨g, r, e1, e2, e3⟩ := ends_row RE.out HR.out b24z.out (j := 0) (by omega)
          cases e1
          have hgt := kN_out (rs := rs) (n := n) (r := r) (by rw [HKK.out]; exact e2)
          obtain ⟨er, her⟩ : ∃ er, r.2 = er := ⟨_, rfl⟩
          rw [her] at hgt e3
          have hkR2 : (0 : Int) < (R : Int) := by omega
          have hgtI : ¬ ((er : Int) ≤ (n : Int)) := by omega
          clear e2 her
          go_wp2_with fail
          refine Calls.mono HS2 ?_
          rintro e w5 ⟨v5, rfl, o5, b5⟩
          obtain ⟨a5, c5, rfl⟩ := form9 o5
          have B5 : Hid (Below w.heap.size w w5) := B4z.out.trans (b5.mono B4z.out.size)
          have b25 : Hid (Below w2.heap.size w2 w5) := b24z.out.trans (b5.mono b24z.out.size)
          have P5 : Hid (StrsAt w5 a5 ((mkS rs).take 0)) := by
            have := strs_of_owns o5 (by rw [List.length_take, recs_count, HR.out]; omega)
            rw [texts_take] at this
            exact this
          have P6 : Hid (StrsAt w5 a10 ((mkS rs).take 0)) := strs_prefix (ls := mkS rs) (fun j s hj => by
            obtain ⟨bb, off, e, hlt, hc⟩ := strs_of_rows RT.out HR.out j s hj
            exact ⟨bb, off, e, Nat.lt_of_lt_of_le hlt b25.out.size, (b25.out.cell (p := ⟨bb, off + j, none⟩) hlt).trans hc⟩) (List.take_prefix _ _)
          have HS6 : Hid (∀ (q c : Nat), Calls Try.prog 19 #[.slice a5 0 c5, .slice a10 0 c] (w5.drewN q) fun r w' => r = .returned (.bool true) ∧ Below (w5.drewN q).heap.size (w5.drewN q) w') := fun q c => by
            have := sameTexts_eq a5 a10 c5 c ((mkS rs).take 0) (w5.drewN q) P5.out P6.out (by simp only [mkS, List.length_take, List.length_map, HR.out]; omega)
            rw [show ((mkS rs).take 0).length = 0 by rw [List.length_take, mkS, List.length_map, HR.out]; omega] at this
            exact this
          clear o5 b5 P5 P6
          obtain ⟨m1, m2, m3⟩ := owns_meta9 RT.out
          rcases hy12 with rfl | rfl
          · go_wp2_with fail
            refine (HS6.out 0 _).mono ?_
            rintro e w6 ⟨rfl, b6⟩
            have B6 : Hid (Below w.heap.size w w6) := B5.out.trans (b6.mono B5.out.size)
            clear b6
            go_wp2_with fail
            go_ret
            exact ⟨rfl, B6.out⟩
          · go_wp2_with fail
            refine (HS6.out 0 _).mono ?_
            rintro e w6 ⟨rfl, b6⟩
            have B6 : Hid (Below w.heap.size w w6) := B5.out.trans (b6.mono B5.out.size)
            clear b6
            go_wp2_with fail
            go_ret
            exact ⟨rfl, B6.out⟩
      · have HC : Hid (∀ W : World, Below w2.heap.size w2 W → W.cell? ⟨g9, K - 1, none⟩ = some (.int .i64 (F : Nat))) := fun W hB => by
          obtain ⟨g, r, e1, e2, e3⟩ := ends_row RE.out HR.out hB (j := K - 1) (by omega)
          cases e1
          rw [e3]
          have := end_take e2
          rw [show K - 1 + 1 = K by omega, HF.out] at this
          rw [this]
        have hK1 : ((K : Int) - 1) = ((K - 1 : Nat) : Int) := by omega
        have hK2 : decide (0 < (K : Int)) = true := decide_eq_true (by omega)
        have hK3 : decide ((K : Int) = 0) = false := decide_eq_false (by omega)
        go_wp2_with fail
        go_loopw [13] (fun i wr => ∃ k : Nat, k ≤ K ∧ i = .int .i64 (k : Nat) ∧ ∃ q, wr = w4.drewN q) (fun i _ => K - (intOf i).toNat)
        case atStart => exact ⟨0, by omega, rfl, 0, rfl⟩
        case round =>
          obtain ⟨k, hk, rfl, z, rfl⟩ := hrel
          have b24z : Hid (Below w2.heap.size w2 (w4.drewN z)) := b24.out.trans (belD _ _ |>.mono b24.out.size)
          have B4z : Hid (Below w.heap.size w (w4.drewN z)) := B4.out.trans (belD _ _ |>.mono B4.out.size)
          by_cases hkK : k < K
          · obtain ⟨g, r, e1, e2, e3⟩ := ends_row RE.out HR.out b24z.out (j := k) (by omega)
            cases e1
            have hle := kN_in (by rw [HKK.out]; exact hkK) e2
            obtain ⟨er, her⟩ : ∃ er, r.2 = er := ⟨_, rfl⟩
            rw [her] at hle e3
            have hkR : (k : Int) < (R : Int) := by omega
            have hleI : (er : Int) ≤ (n : Int) := by omega
            clear e2 her
            go_wp2_with fail
            go_roundw
            case rel => exact ⟨k + 1, by omega, by go_num, z, rfl⟩
            case measure => simp [intOf]; omega
          · obtain rfl : K = k := by omega
            have HS2 := HSC2.out _ b24z.out
            by_cases hkR : K < R
            · obtain ⟨g, r, e1, e2, e3⟩ := ends_row RE.out HR.out b24z.out (j := K) hkR
              cases e1
              have hgt := kN_out (rs := rs) (n := n) (r := r) (by rw [HKK.out]; exact e2)
              obtain ⟨er, her⟩ : ∃ er, r.2 = er := ⟨_, rfl⟩
              rw [her] at hgt e3
              have hkR2 : (K : Int) < (R : Int) := by omega
              have hgtI : ¬ ((er : Int) ≤ (n : Int)) := by omega
              clear e2 her
              go_wp2_with fail
              refine Calls.mono HS2 ?_
              rintro e w5 ⟨v5, rfl, o5, b5⟩
              obtain ⟨a5, c5, rfl⟩ := form9 o5
              have B5 : Hid (Below w.heap.size w w5) := B4z.out.trans (b5.mono B4z.out.size)
              have b25 : Hid (Below w2.heap.size w2 w5) := b24z.out.trans (b5.mono b24z.out.size)
              have P5 : Hid (StrsAt w5 a5 ((mkS rs).take K)) := by
                have := strs_of_owns o5 (by rw [List.length_take, recs_count, HR.out]; omega)
                rw [texts_take] at this
                exact this
              have P6 : Hid (StrsAt w5 a10 ((mkS rs).take K)) := strs_prefix (ls := mkS rs) (fun j s hj => by
                obtain ⟨bb, off, e, hlt, hc⟩ := strs_of_rows RT.out HR.out j s hj
                exact ⟨bb, off, e, Nat.lt_of_lt_of_le hlt b25.out.size, (b25.out.cell (p := ⟨bb, off + j, none⟩) hlt).trans hc⟩) (List.take_prefix _ _)
              have HS6 : Hid (∀ (q c : Nat), Calls Try.prog 19 #[.slice a5 K c5, .slice a10 K c] (w5.drewN q) fun r w' => r = .returned (.bool true) ∧ Below (w5.drewN q).heap.size (w5.drewN q) w') := fun q c => by
                have := sameTexts_eq a5 a10 c5 c ((mkS rs).take K) (w5.drewN q) P5.out P6.out (by simp only [mkS, List.length_take, List.length_map, HR.out]; omega)
                rw [show ((mkS rs).take K).length = K by rw [List.length_take, mkS, List.length_map, HR.out]; omega] at this
                exact this
              clear o5 b5 P5 P6
              obtain ⟨m1, m2, m3⟩ := owns_meta9 RT.out
              rcases hy12 with rfl | rfl
              · go_wp2_with fail
                refine (HS6.out 0 _).mono ?_
                rintro e w6 ⟨rfl, b6⟩
                have B6 : Hid (Below w.heap.size w w6) := B5.out.trans (b6.mono B5.out.size)
                have c6 := HC.out _ (b25.out.trans (b6.mono b25.out.size))
                clear b6
                go_wp2_with fail
                go_ret
                exact ⟨rfl, B6.out⟩
              · go_wp2_with fail
                refine (HS6.out 0 _).mono ?_
                rintro e w6 ⟨rfl, b6⟩
                have B6 : Hid (Below w.heap.size w w6) := B5.out.trans (b6.mono B5.out.size)
                have c6 := HC.out _ (b25.out.trans (b6.mono b25.out.size))
                clear b6
                go_wp2_with fail
                go_ret
                exact ⟨rfl, B6.out⟩
            · obtain rfl : K = R := by omega
              go_wp2_with fail
              refine Calls.mono HS2 ?_
              rintro e w5 ⟨v5, rfl, o5, b5⟩
              obtain ⟨a5, c5, rfl⟩ := form9 o5
              have B5 : Hid (Below w.heap.size w w5) := B4z.out.trans (b5.mono B4z.out.size)
              have b25 : Hid (Below w2.heap.size w2 w5) := b24z.out.trans (b5.mono b24z.out.size)
              have P5 : Hid (StrsAt w5 a5 ((mkS rs).take K)) := by
                have := strs_of_owns o5 (by rw [List.length_take, recs_count, HR.out]; omega)
                rw [texts_take] at this
                exact this
              have P6 : Hid (StrsAt w5 a10 ((mkS rs).take K)) := strs_prefix (ls := mkS rs) (fun j s hj => by
                obtain ⟨bb, off, e, hlt, hc⟩ := strs_of_rows RT.out HR.out j s hj
                exact ⟨bb, off, e, Nat.lt_of_lt_of_le hlt b25.out.size, (b25.out.cell (p := ⟨bb, off + j, none⟩) hlt).trans hc⟩) (List.take_prefix _ _)
              have HS6 : Hid (∀ (q c : Nat), Calls Try.prog 19 #[.slice a5 K c5, .slice a10 K c] (w5.drewN q) fun r w' => r = .returned (.bool true) ∧ Below (w5.drewN q).heap.size (w5.drewN q) w') := fun q c => by
                have := sameTexts_eq a5 a10 c5 c ((mkS rs).take K) (w5.drewN q) P5.out P6.out (by simp only [mkS, List.length_take, List.length_map, HR.out]; omega)
                rw [show ((mkS rs).take K).length = K by rw [List.length_take, mkS, List.length_map, HR.out]; omega] at this
                exact this
              clear o5 b5 P5 P6
              obtain ⟨m1, m2, m3⟩ := owns_meta9 RT.out
              rcases hy12 with rfl | rfl
              · go_wp2_with fail
                refine (HS6.out 0 _).mono ?_
                rintro e w6 ⟨rfl, b6⟩
                have B6 : Hid (Below w.heap.size w w6) := B5.out.trans (b6.mono B5.out.size)
                have c6 := HC.out _ (b25.out.trans (b6.mono b25.out.size))
                clear b6
                go_wp2_with fail
                go_ret
                exact ⟨rfl, B6.out⟩
              · go_wp2_with fail
                refine (HS6.out 0 _).mono ?_
                rintro e w6 ⟨rfl, b6⟩
                have B6 : Hid (Below w.heap.size w w6) := B5.out.trans (b6.mono B5.out.size)
                have c6 := HC.out _ (b25.out.trans (b6.mono b25.out.size))
                clear b6
                go_wp2_with fail
                go_ret
                exact ⟨rfl, B6.out⟩
end Go.Proofs.Ytefigcnfcbdecaa
