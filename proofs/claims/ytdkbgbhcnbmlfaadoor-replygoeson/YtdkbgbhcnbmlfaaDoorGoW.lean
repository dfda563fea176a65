/-
  The walk of ReplyGoesOn.
-/
import Derived.Test.YtdkbgbhcnbmlfaaDoorPfx
import Derived.Test.YtdkbgbhcnbmlfaaDoorApW
namespace Go.Proofs.YtdkbgbhcnbmlfaaDoor
open Go.RowKit
set_option maxRecDepth 20000 in
set_option maxHeartbeats 16000000 in
theorem goes_walk (r : Rp) (hz : rpZ r) (w : World) (ht : TabP w) : Calls Tryd.prog 5 #[rpV r] w fun e w' => e = .returned (.bool true) ∧ Below w.heap.size w w' := by
  have HTB : Hid (∀ W, Below w.heap.size w W → TabP W) := fun W q => tab_below ht q
  have H1 : Hid (∀ W, Below w.heap.size w W → _) := fun W q => awake_any W (HTB.out W q)
  have H2 : Hid (∀ W, Below w.heap.size w W → _) := fun W q => write_any r hz W (HTB.out W q)
  obtain ⟨W0, hW0⟩ : ∃ W0, w.alloc (.cells (rpA r) 23) = W0 := ⟨_, rfl⟩
  have HB0 : Hid (Below w.heap.size w W0) := by rw [Hid, ← hW0]; exact (Below.refl _ _).alloc (Nat.le_refl _) _
  have HX0 : Hid (RpB W0 w.heap.size r) := by rw [Hid, ← hW0]; exact block_alloc_at _ _
  have HCLS : Hid (∀ W, RpB W w.heap.size r → _) := fun W q => RpB.cells q
  unfold rpA at hW0
  unfold rpV at H2 ⊢
  clear ht
  cases hok : okR r with
  | false =>
    rw [wrR_no hok] at H2
    simp only at H2
    rw [show mkB [] = ⟨#[]⟩ from rfl] at H2
    go_enter Tryd.func5, Tryd.ntmps5
    go_wp2_with fail
    try rw [hW0]
    refine (H1.out _ HB0.out).mono ?_
    rintro e w1 ⟨rfl, b1⟩
    have HB1 : Hid (Below w.heap.size w w1) := HB0.out.trans (b1.mono HB0.out.size)
    have HX1 : Hid (RpB w1 w.heap.size r) := HX0.out.below b1
    clear b1 hW0
    obtain ⟨c0, c1, c2, c3⟩ := HCLS.out _ HX1.out
    go_wp2_with fail
    refine (H2.out _ HB1.out).mono ?_
    rintro e w2 ⟨rfl, b2⟩
    have HB2 : Hid (Below w.heap.size w w2) := HB1.out.trans (b2.mono HB1.out.size)
    clear b2
    go_wp2_with fail
    go_ret
    exact ⟨rfl, HB2.out⟩
  | true =>
    rw [wrR_ok hok] at H2
    simp only at H2
    have hn1 := wrL_len hok
    have HP : Hid (∀ k, k < (wrL r).length → ∀ W, Below w.heap.size w W → _) := fun k hk W q => parse_any ((mkB (wrL r)).extract 0 k) (by rw [ByteArray.size_extract, mkB_size]; omega) W (HTB.out W q)
    have HQ : Hid (∀ k, k < (wrL r).length → parR ((mkB (wrL r)).extract 0 k).data.toList = (rpl0 0, 0, 20)) := fun k hk => by
      rw [mkB_pre, mkB_list]
      exact par_cut hok ⟨List.take_prefix _ _, by rw [List.length_take]; omega⟩
    have hsz := mkB_size (wrL r)
    rw [← hsz] at hn1 HP HQ
    obtain ⟨A, hA⟩ : ∃ A, mkB (wrL r) = A := ⟨_, rfl⟩
    simp only [hA] at H2 HP HQ hn1
    obtain ⟨st, hst⟩ : ∃ st, 1 + A.size / 200 = st := ⟨_, rfl⟩
    have q1 : (A.size : Int).tdiv 200 = ((A.size / 200 : Nat) : Int) := by rw [Int.tdiv_eq_ediv_of_nonneg (by omega)]; omega
    have q2 : (1 : Int) + ((A.size / 200 : Nat) : Int) = (st : Int) := by omega
    have hs1 : 1 ≤ st ∧ st ≤ 10000000 := by omega
    obtain ⟨dv, hdv⟩ : ∃ dv, A.size / 200 = dv := ⟨_, rfl⟩
    rw [hdv] at q1 q2
    have hd1 : dv ≤ 10000000 := by omega
    clear hA hsz hok hst hdv
    go_enter Tryd.func5, Tryd.ntmps5
    go_wp2_with fail
    try rw [hW0]
    refine (H1.out _ HB0.out).mono ?_
    rintro e w1 ⟨rfl, b1⟩
    have HB1 : Hid (Below w.heap.size w w1) := HB0.out.trans (b1.mono HB0.out.size)
    have HX1 : Hid (RpB w1 w.heap.size r) := HX0.out.below b1
    clear b1 hW0
    obtain ⟨c0, c1, c2, c3⟩ := HCLS.out _ HX1.out
    go_wp2_with fail
    refine (H2.out _ HB1.out).mono ?_
    rintro e w2 ⟨rfl, b2⟩
    have HB2 : Hid (Below w.heap.size w w2) := HB1.out.trans (b2.mono HB1.out.size)
    clear b2 c0 c1 c2 c3
    go_wp2_with fail
    go_loopw [6] (fun i wr => ∃ k : Nat, k ≤ 20000000 ∧ i = .int .i64 (k : Nat) ∧ Hid (Below w.heap.size w wr)) (fun i _ => A.size - (intOf i).toNat)
    case atStart => exact ⟨0, by omega, rfl, HB2.out⟩
    case round =>
      obtain ⟨k, hk, rfl, HB⟩ := hrel
      by_cases hlt : k < A.size
      · have hlz : (k : Int) < (A.size : Int) := by omega
        have hle : k ≤ A.size := by omega
        have H3 : Hid (∀ W, Below w.heap.size w W → _) := fun W q => HP.out k hlt W q
        rw [HQ.out k hlt] at H3
        have HRV : Hid (rpV (rpl0 0) = .agg #[.int .i64 0, .string ⟨#[]⟩, .string ⟨#[]⟩, .bool false]) := rfl
        simp only [HRV.out] at H3
        go_upto_region 11 with (go_at_call 14; refine (H3.out _ HB.out).mono ?_; rintro e w5 ⟨rfl, b5⟩; have HB5 : Hid (Below w.heap.size w w5) := HB.out.trans (b5.mono HB.out.size); clear b5)
        obtain ⟨V1, hV1⟩ : ∃ V1, w5.alloc (.cells #[.int .i64 0, .string ⟨#[]⟩, .string ⟨#[]⟩, .bool false] 23) = V1 := ⟨_, rfl⟩
        have HBV : Hid (Below w.heap.size w V1) := by rw [Hid, ← hV1]; exact HB5.out.alloc HB5.out.size _
        rw [hV1]
        clear hV1
        go_wp2_with fail
        go_roundw
        case rel => exact ⟨k + st, by omega, by go_num, HBV.out⟩
        case measure => simp [intOf]; omega
      · have hlz : ¬ (k : Int) < (A.size : Int) := by omega
        go_wp2_with fail
        go_ret
        exact ⟨rfl, HB.out⟩
end Go.Proofs.YtdkbgbhcnbmlfaaDoor
