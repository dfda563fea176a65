/-
  The contracts of the twin's find and Unhex.
-/
import Derived.Test.YtcpbofjpfapegaaDoorUnhex
namespace Go.Proofs.YtcpbofjpfapegaaDoor
open Go.RowKit
theorem ib_at : ∀ (l : List UInt8) (c : UInt8) (k : Nat), (∀ j, j < k → l[j]? ≠ some c) → l[k]? = some c → Lib.indexByte l c = (k : Int)
  | [], _, _, _, h => by simp at h
  | b :: l, c, 0, _, h => by
    simp only [List.getElem?_cons_zero, Option.some.injEq] at h
    subst h
    simp [Lib.indexByte]
  | b :: l, c, k + 1, h1, h2 => by
    have hb : ¬ b = c := fun e => h1 0 (by omega) (by simp [e])
    have ih := ib_at l c k (fun j hj => by have := h1 (j + 1) (by omega); simpa using this) (by simpa using h2)
    simp only [Lib.indexByte, beq_iff_eq, hb, if_false, ih]
    rw [if_neg (by omega)]
    omega
theorem ib_none : ∀ (l : List UInt8) (c : UInt8), (∀ j : Nat, l[j]? ≠ some c) → Lib.indexByte l c = -1
  | [], _, _ => rfl
  | b :: l, c, h => by
    have hb : ¬ b = c := fun e => h 0 (by simp [e])
    have ih := ib_none l c (fun j => by have := h (j + 1); simpa using this)
    simp only [Lib.indexByte, beq_iff_eq, hb, if_false, ih]
    rfl
theorem byteAt_get {s : ByteArray} {k : Nat} (h : k < s.size) : s.data.toList[k]? = some (UInt8.ofNat (byteAt s k)) := by
  have hl : s.data.toList.length = s.size := by simp
  rw [List.getElem?_eq_getElem (by omega), byteAt, List.getD_eq_getElem?_getD, List.getElem?_eq_getElem (by omega)]
  simp
theorem ofNat_inj8 {x y : Nat} (hx : x < 256) (hy : y < 256) : UInt8.ofNat x = UInt8.ofNat y ↔ x = y := by
  constructor
  · intro e
    have := congrArg UInt8.toNat e
    simp only [UInt8.toNat_ofNat'] at this
    rw [Nat.mod_eq_of_lt hx, Nat.mod_eq_of_lt hy] at this
    exact this
  · intro e; rw [e]
set_option maxRecDepth 20000 in
set_option maxHeartbeats 1000000 in
theorem find_any (s : ByteArray) (x : Nat) (hx : x < 256) (hs : s.size ≤ 140737488355328) (w : World) :
    Calls Tryd.prog 38 #[.string s, .int .u8 (x : Int)] w fun e w' => e = .returned (.int .i64 (Lib.indexByte s.data.toList (UInt8.ofNat x))) ∧ w' = w := by
  go_enter Tryd.func38, Tryd.ntmps38
  go_wp2_with fail
  go_loopw [5] (fun i wr => ∃ k : Nat, k ≤ s.size ∧ i = .int .i64 k ∧ Hid (∀ j, j < k → byteAt s j ≠ x) ∧ wr = w) (fun i _ => s.size - (intOf i).toNat)
  case atStart => exact ⟨0, by omega, rfl, fun j hj => by omega, rfl⟩
  case round =>
    obtain ⟨k, hk, rfl, HJ, rfl⟩ := hrel
    by_cases hlt : k < s.size
    · have r0 := fun W => run_byte s (i := k) (z := (k : Int)) rfl hlt W
      obtain ⟨y, hy⟩ : ∃ y, byteAt s k = y := ⟨_, rfl⟩
      have HY : Hid _ := hy
      rw [hy] at r0
      have hyl : y < 256 := by rw [← hy]; exact byteAt_lt s k
      clear hy
      by_cases he : y = x
      · subst he
        have HE : Hid (Lib.indexByte s.data.toList (UInt8.ofNat y) = (k : Int)) := ib_at _ _ k (fun j hj e => by
          rw [byteAt_get (by omega), Option.some.injEq, ofNat_inj8 (byteAt_lt s j) hyl] at e
          exact HJ.out j hj e) (by rw [byteAt_get hlt, HY.out])
        go_wp2_with fail
        go_ret
        exact ⟨by rw [HE.out]; rfl, rfl⟩
      · have hne : ((y : Int) == (x : Int)) = false := by simp; omega
        go_wp2_with fail
        exact ⟨⟨k + 1, by omega, by go_num, fun j hj => by
          rcases Nat.lt_succ_iff_lt_or_eq.1 hj with h | rfl
          · exact HJ.out j h
          · rw [HY.out]; exact he, by first | rfl | trivial⟩, by simp [intOf]; omega⟩
    · obtain rfl : k = s.size := by omega
      have HE : Hid (Lib.indexByte s.data.toList (UInt8.ofNat x) = -1) := ib_none _ _ (fun j e => by
        by_cases hj : j < s.size
        · rw [byteAt_get hj, Option.some.injEq, ofNat_inj8 (byteAt_lt s j) hx] at e
          exact HJ.out j hj e
        · rw [List.getElem?_eq_none (by have : s.data.toList.length = s.size := by simp
                                        omega)] at e
          cases e)
      go_wp2_with fail
      go_ret
      exact ⟨by rw [HE.out]; rfl, rfl⟩
theorem fd_any (x : Nat) (hx : x < 256) (w : World) : Calls Tryd.prog 38 #[.string ⟨#[48, 49, 50, 51, 52, 53, 54, 55, 56, 57, 97, 98, 99, 100, 101, 102]⟩, .int .u8 (x : Int)] w fun e w' => e = .returned (.int .i64 (dig (UInt8.ofNat x))) ∧ w' = w := find_any digitsB x hx (by decide) w
set_option maxRecDepth 20000 in
set_option maxHeartbeats 4000000 in
theorem refUnhex_any (s : ByteArray) (w : World) (hs : s.size ≤ 140737488355328) :
    Calls Tryd.prog 28 #[.string s] w fun e w' => e = .returned (.tuple (unhexV s.data.toList)) ∧ Below w.heap.size w w' := by
  obtain ⟨i0, hi, hz0, hz1, hz2⟩ := info_parts info5
  have hll : s.data.toList.length = s.size := by simp
  obtain ⟨r, hr⟩ : ∃ r, s.size % 2 = r := ⟨_, rfl⟩
  have hrem : (s.size : Int).tmod 2 = (r : Int) := by rw [Int.tmod_eq_emod_of_nonneg (by omega)]; omega
  by_cases hodd : r = 0
  · subst hodd
    obtain ⟨m, hm⟩ : ∃ m, s.size / 2 = m := ⟨_, rfl⟩
    have hquo : (s.size : Int).tdiv 2 = (m : Int) := by rw [Int.tdiv_eq_ediv_of_nonneg (by omega)]; omega
    have HR : Hid _ := hr
    have HM : Hid _ := hm
    have HLL : Hid _ := hll
    have HW : Hid (wrap64 (m : Int) = (m : Int)) := by rw [Hid]; unfold wrap64; omega
    clear hr hm hll
    obtain ⟨l, hl⟩ : ∃ l, s.data.toList = l := ⟨_, rfl⟩
    have HSl : Hid (l = s.data.toList) := hl.symm
    rw [hl]
    clear hl
    go_enter Tryd.func28, Tryd.ntmps28
    go_wp2_with fail
    go_loopw [4, 5] (fun v i wr => ∃ (k : Nat) (cur : List UInt8), 2 * k ≤ s.size ∧ i = .int .i64 ((2 * k : Nat) : Int) ∧ Hid (unhexL l = (unhexL (s.data.toList.drop (2 * k))).map (cur ++ ·)) ∧ Hid (cur.length = k) ∧ wr.ownsRow w.heap.size 5 1 v cur.length (cellsOf cur) ∧ Below w.heap.size w wr) (fun _ i _ => s.size - (intOf i).toNat)
    case atStart => exact ⟨0, [], by omega, rfl, by rw [Hid, HSl.out]; simp, rfl, World.ownsRow_nil _ _ _ _, Below.refl _ _⟩
    case round =>
      obtain ⟨k, cur, hk, rfl, HU, HL, hown, hb⟩ := hrel
      have hsz := hb.size
      obtain ⟨a, cap, rfl⟩ := form_of_row hown
      obtain ⟨q, hq⟩ : ∃ q, 2 * k = q := ⟨_, rfl⟩
      have HQ : Hid _ := hq
      rw [hq]
      clear hq
      by_cases hlt : q < s.size
      · have hq1 : q + 1 < s.size := by have := HR.out; have := HQ.out; omega
        obtain ⟨q1, hq1'⟩ : ∃ q1, q + 1 = q1 := ⟨_, rfl⟩
        have r0 := fun W => run_byte s (i := q) (z := (q : Int)) rfl hlt W
        have r1 := fun W => run_byte s (i := q1) (z := (q : Int) + 1) (by omega) (by omega) W
        obtain ⟨x, hx⟩ : ∃ x, byteAt s q = x := ⟨_, rfl⟩
        obtain ⟨y, hy⟩ : ∃ y, byteAt s q1 = y := ⟨_, rfl⟩
        have hxl : x < 256 := by rw [← hx]; exact byteAt_lt s q
        have hyl : y < 256 := by rw [← hy]; exact byteAt_lt s q1
        rw [hx] at r0
        rw [hy] at r1
        have hw1 : IntKind.i64.wrap ((q : Int) + 1) = (q : Int) + 1 := by rw [IntKind.wrap_i64]; omega
        have HS := unhex_step (k := k) (cur := cur) (by have := HQ.out; omega) HU.out
        rw [HQ.out, hq1', hx, hy] at HS
        obtain ⟨dx, hdx⟩ : ∃ dx, dig (UInt8.ofNat x) = dx := ⟨_, rfl⟩
        obtain ⟨dy, hdy⟩ : ∃ dy, dig (UInt8.ofNat y) = dy := ⟨_, rfl⟩
        have HP1 : Hid (∀ W, _) := fun W => fd_any x hxl W
        have HP2 : Hid (∀ W, _) := fun W => fd_any y hyl W
        have cx := dig_cases (UInt8.ofNat x)
        have cy := dig_cases (UInt8.ofNat y)
        rw [hdx] at HP1 HS cx
        rw [hdy] at HP2 HS cy
        have HH : Hid _ := HS
        clear HS hx hy hdx hdy hq1'
        go_wp2_with fail
        go_quiet (first
          | (go_at_call_of 38 (Value.int .u8 (x : Int)); exact Calls.quiet_of_same (HP1.out _))
          | (go_at_call_of 38 (Value.int .u8 (y : Int)); exact Calls.quiet_of_same (HP2.out _)))
        obtain ⟨v3, hv3⟩ : ∃ v3, wr.drewN nq = v3 := ⟨_, rfl⟩
        have hown3 : v3.ownsRow w.heap.size 5 1 (.slice a cur.length cap) cur.length (cellsOf cur) := by rw [← hv3]; exact hown
        have hb3 : Below w.heap.size w v3 := by rw [← hv3]; exact ⟨hb.os, hb.tape, hb.output, hb.size, hb.block⟩
        have hsz3 := hb3.size
        rw [hv3]
        clear hv3 nq hown hb hsz r0 r1 hw1
        by_cases hx0 : dx < 0
        · have HN : Hid (unhexV l = #[.string ⟨#[]⟩, .bool false]) := by rw [Hid, unhexV, HH.out, if_pos (Or.inl hx0)]
          go_wp2_with fail
          go_ret2
          exact ⟨by rw [HN.out]; rfl, hb3⟩
        by_cases hy0 : dy < 0
        · have HN : Hid (unhexV l = #[.string ⟨#[]⟩, .bool false]) := by rw [Hid, unhexV, HH.out, if_pos (Or.inr hy0)]
          go_wp2_with fail
          go_ret2
          exact ⟨by rw [HN.out]; rfl, hb3⟩
        obtain ⟨X, hX⟩ : ∃ X : Nat, dx = (X : Int) := ⟨dx.toNat, by omega⟩
        obtain ⟨Y, hY⟩ : ∃ Y : Nat, dy = (Y : Int) := ⟨dy.toNat, by omega⟩
        subst hX hY
        have hX16 : X < 16 := by omega
        have hY16 : Y < 16 := by omega
        obtain ⟨Z, hZ⟩ : ∃ Z, 16 * X + Y = Z := ⟨_, rfl⟩
        have hZ2 : Z < 256 := by omega
        obtain ⟨c, hc⟩ : ∃ c, UInt8.ofNat Z = c := ⟨_, rfl⟩
        have HCv : Hid (cellsOf [c] = [Value.int .u8 (16 * (X : Int) + (Y : Int))]) := by
          rw [Hid, ← hc]
          show [Value.int .u8 ((UInt8.ofNat Z).toNat : Int)] = _
          rw [UInt8.toNat_ofNat', Nat.mod_eq_of_lt hZ2, ← hZ]
          rfl
        have HU2 : Hid (unhexL l = (unhexL (s.data.toList.drop (2 * (k + 1)))).map ((cur ++ [c]) ++ ·)) := by
          rw [Hid, HH.out, if_neg (by omega), Int.toNat_natCast, Int.toNat_natCast, hZ, hc]
        have hx16 : (X : Int) < 16 := by omega
        clear cx cy hc HH HU
        have hxy : 16 * (X : Int) + (Y : Int) < 256 := by omega
        clear hZ
        go_wp2_with (at_builtin; refine wpList_append_own _ rfl (.tmp 33) (.tmp 39) 28 rfl w.heap.size 5 i0 (.int .u8 0) 1 1 Tryd.underlying28 hi hz0 hz1 hz2 rfl (by decide) _ _ _ rfl (hown3.alloc _) ⟨_, 0, none⟩ 1 1 [Value.int .u8 (16 * (X : Int) + (Y : Int))] rfl rfl (new_cells _ [Value.int .u8 (16 * (X : Int) + (Y : Int))] _) (by rw [← HCv.out]; exact cellsOf_one _) (by have := HL.out; unfold maxLen; omega) (by have := HL.out; omega) (by simp; omega) ?_)
        intro v1 w5 hown1 hgrow _
        obtain ⟨a1, cap1, rfl⟩ := form_of_row hown1
        have HR5 : Hid (w5.ownsRow w.heap.size 5 1 (.slice a1 (cur.length + 1) cap1) (cur ++ [c]).length (cellsOf (cur ++ [c]))) := by
          rw [Hid, cellsOf_append, snoc_len rfl, HCv.out]; exact hown1
        have HB : Hid (Below w.heap.size w w5) := (hb3.alloc hsz3 _).grown hgrow (by simp; omega) (fun i hi => (hown3.lt i hi).1)
        clear hown1 hgrow hown3
        go_wp2_with fail
        go_roundw
        case rel => exact ⟨k + 1, cur ++ [c], by have := HQ.out; omega, val_int (by have := HQ.out; omega), HU2.out, by rw [Hid, snoc_len HL.out], by first | exact HR5.out | (rw [snoc_len rfl]; have := HR5.out; rw [snoc_len rfl] at this; exact this), HB.out⟩
        case measure => have := HQ.out; simp [intOf]; omega
      · have HE : Hid (unhexV l = #[.string ⟨cur.toArray⟩, .bool true]) := by
          have e := HU.out
          rw [List.drop_eq_nil_of_le (by have := HQ.out; have := HLL.out; omega), unhexL, Option.map_some, List.append_nil] at e
          rw [Hid, unhexV, e]
        have hqe : q = s.size := by have := HQ.out; omega
        have hc := conv_row hown
        go_wp2_with fail
        go_ret2
        exact ⟨by rw [HE.out]; rfl, hb⟩
  · have HN : Hid (unhexV s.data.toList = #[.string ⟨#[]⟩, .bool false]) := by
      rw [Hid, unhexV, unhex_odd _ _ (Nat.le_refl _) (by omega)]
    have hr1 : r = 1 := by omega
    subst hr1
    go_enter Tryd.func28, Tryd.ntmps28
    go_wp2_with fail
    go_ret2
    exact ⟨by rw [HN.out]; rfl, Below.refl _ _⟩
end Go.Proofs.YtcpbofjpfapegaaDoor
