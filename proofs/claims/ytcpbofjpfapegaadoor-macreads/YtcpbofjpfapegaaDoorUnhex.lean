/-
  The contracts of Unhex, of the twin's find, Hex and Unhex.
-/
import Derived.Test.YtcpbofjpfapegaaDoorShelf
import Derived.Test.YtcpbofjpfapegaaDoorRefSum
import Derived.Deep.RegionWith
namespace Go.Proofs.YtcpbofjpfapegaaDoor
open Go.RowKit
/-- Where a byte stands among the digits; -1: nowhere. -/
def dig (c : UInt8) : Int := Lib.indexByte digitsB.data.toList c
theorem dig_all : ∀ c : Fin 256, (dig (UInt8.ofNat c.val) = -1 ∨ (0 ≤ dig (UInt8.ofNat c.val) ∧ dig (UInt8.ofNat c.val) < 16 ∧ hexD (dig (UInt8.ofNat c.val)).toNat = UInt8.ofNat c.val)) := by decide +kernel
theorem dig_cases (c : UInt8) : dig c = -1 ∨ (0 ≤ dig c ∧ dig c < 16 ∧ hexD (dig c).toNat = c) := by
  have := dig_all ⟨c.toNat, c.toNat_lt⟩
  simpa using this
theorem dig_hexD : ∀ q : Fin 16, dig (hexD q.val) = (q.val : Int) := by decide +kernel
def unhexL : List UInt8 → Option (List UInt8)
  | [] => some []
  | [_] => none
  | a :: b :: l => if dig a < 0 ∨ dig b < 0 then none else (unhexL l).map (UInt8.ofNat (16 * (dig a).toNat + (dig b).toNat) :: ·)
theorem unhex_hex : ∀ l, unhexL (hexOf l) = some l
  | [] => rfl
  | c :: l => by
    have h1 := dig_hexD ⟨c.toNat / 16, by have := c.toNat_lt; omega⟩
    have h2 := dig_hexD ⟨c.toNat % 16, Nat.mod_lt _ (by decide)⟩
    simp only at h1 h2
    rw [hexOf, unhexL, h1, h2, if_neg (by omega), unhex_hex l]
    simp only [Option.map_some, Int.toNat_natCast, Nat.div_add_mod]
    rw [show UInt8.ofNat c.toNat = c by simp]
theorem hex_unhex : ∀ (n : Nat) (l r : List UInt8), l.length ≤ n → unhexL l = some r → hexOf r = l
  | _, [], r, _, h => by
    simp only [unhexL, Option.some.injEq] at h
    subst h
    rfl
  | _, [_], r, _, h => by simp [unhexL] at h
  | 0, a :: b :: l, r, hl, _ => by simp at hl
  | n + 1, a :: b :: l, r, hl, h => by
    rw [unhexL] at h
    split at h
    · cases h
    · rename_i hd
      obtain ⟨r', hr', rfl⟩ := Option.map_eq_some_iff.1 h
      have ih := hex_unhex n l r' (by simp at hl; omega) hr'
      rcases dig_cases a with ha | ⟨a1, a2, a3⟩
      · omega
      rcases dig_cases b with hb | ⟨b1, b2, b3⟩
      · omega
      have e : (UInt8.ofNat (16 * (dig a).toNat + (dig b).toNat)).toNat = 16 * (dig a).toNat + (dig b).toNat := by
        rw [UInt8.toNat_ofNat', Nat.mod_eq_of_lt (by omega)]
      rw [hexOf, e, show (16 * (dig a).toNat + (dig b).toNat) / 16 = (dig a).toNat by omega, show (16 * (dig a).toNat + (dig b).toNat) % 16 = (dig b).toNat by omega, a3, b3, ih]
theorem byteAt_drop {s : ByteArray} {k : Nat} (h : k < s.size) : s.data.toList.drop k = UInt8.ofNat (byteAt s k) :: s.data.toList.drop (k + 1) := by
  have hl : s.data.toList.length = s.size := by simp
  rw [List.drop_eq_getElem_cons (by omega), byteAt, List.getD_eq_getElem?_getD, List.getElem?_eq_getElem (by omega)]
  simp
theorem unhex_odd : ∀ (n : Nat) (l : List UInt8), l.length ≤ n → l.length % 2 = 1 → unhexL l = none
  | _, [], _, h => by simp at h
  | _, [_], _, _ => rfl
  | 0, a :: b :: l, hl, _ => by simp at hl
  | n + 1, a :: b :: l, hl, h => by
    rw [unhexL]
    split
    · rfl
    · rw [unhex_odd n l (by simp at hl; omega) (by simp at h; omega)]
      rfl
/-- What both tell of a text. -/
def unhexV (l : List UInt8) : Array Value := match unhexL l with
  | some r => #[.string ⟨r.toArray⟩, .bool true]
  | none => #[.string ⟨#[]⟩, .bool false]
theorem ib_eq (x : Nat) : Lib.indexByte digitsB.data.toList (x : Int).toNat.toUInt8 = dig (UInt8.ofNat x) := rfl
theorem hexdig_bits {x y : Nat} (hx : x < 16) (hy : y < 16) : bits BinOp.or IntKind.i64 ((x : Int) * 16) (y : Int) = ((16 * x + y : Nat) : Int) := by
  have : ∀ (x y : Fin 16), bits BinOp.or IntKind.i64 ((x.val : Int) * 16) (y.val : Int) = ((16 * x.val + y.val : Nat) : Int) := by decide +kernel
  exact this ⟨x, hx⟩ ⟨y, hy⟩
theorem ib_any (x : Nat) (w : World) : Calls Tryd.prog 37 #[.string ⟨#[48, 49, 50, 51, 52, 53, 54, 55, 56, 57, 97, 98, 99, 100, 101, 102]⟩, .int .u8 (x : Int)] w fun e w' => e = .returned (.int .i64 (dig (UInt8.ofNat x))) ∧ w' = w := Tryd.indexByte digitsB (x : Int) w
theorem unhex_step {l cur : List UInt8} {s : ByteArray} {k : Nat} (h : 2 * k + 1 < s.size) (H : unhexL l = (unhexL (s.data.toList.drop (2 * k))).map (cur ++ ·)) :
    unhexL l = if dig (UInt8.ofNat (byteAt s (2 * k))) < 0 ∨ dig (UInt8.ofNat (byteAt s (2 * k + 1))) < 0 then none else (unhexL (s.data.toList.drop (2 * (k + 1)))).map ((cur ++ [UInt8.ofNat (16 * (dig (UInt8.ofNat (byteAt s (2 * k)))).toNat + (dig (UInt8.ofNat (byteAt s (2 * k + 1)))).toNat)]) ++ ·) := by
  rw [H, byteAt_drop (by omega), byteAt_drop (s := s) (k := 2 * k + 1) h, unhexL]
  split
  · rfl
  · rw [show 2 * (k + 1) = 2 * k + 1 + 1 by omega]
    cases unhexL (s.data.toList.drop (2 * k + 1 + 1)) <;> simp
set_option maxRecDepth 20000 in
set_option maxHeartbeats 4000000 in
theorem unhex_any (s : ByteArray) (w : World) (hs : s.size ≤ 140737488355328) :
    Calls Tryd.prog 22 #[.string s] w fun e w' => e = .returned (.tuple (unhexV s.data.toList)) ∧ Below w.heap.size w w' := by
  obtain ⟨i0, hi, hz0, hz1, hz2⟩ := info_parts info5
  have hll : s.data.toList.length = s.size := by simp
  obtain ⟨r, hr⟩ : ∃ r, s.size % 2 = r := ⟨_, rfl⟩
  have hrem : (s.size : Int).tmod 2 = (r : Int) := by rw [Int.tmod_eq_emod_of_nonneg (by omega)]; omega
  by_cases hodd : r = 0
  · subst hodd
    obtain ⟨m, hm⟩ : ∃ m, s.size / 2 = m := ⟨_, rfl⟩
    have hquo : (s.size : Int).tdiv 2 = (m : Int) := by rw [Int.tdiv_eq_ediv_of_nonneg (by omega)]; omega
    have HR : Hid _ := hr
    have HM : Hid _ := hm
    have HLL : Hid _ := hll
    have HW : Hid (wrap64 (m : Int) = (m : Int)) := by rw [Hid]; unfold wrap64; omega
    clear hr hm hll
    obtain ⟨l, hl⟩ : ∃ l, s.data.toList = l := ⟨_, rfl⟩
    have HSl : Hid (l = s.data.toList) := hl.symm
    rw [hl]
    clear hl
    go_enter Tryd.func22, Tryd.ntmps22
    go_wp2_with (refine wpList_make_own _ rfl _ _ 28 rfl w.heap.size 5 i0 (.int .u8 0) 1 Tryd.underlying28 hi hz0 hz1 .i64 .i64 _ m rfl rfl (by first | exact HW.out | rfl) (by rw [hz2]; have := HM.out; omega) (by unfold maxLen; have := HM.out; omega) (Nat.le_refl _) ?_; intro w1 hown1 hg1)
    have hb1 : Below w.heap.size w w1 := (Below.refl _ w).grown hg1 (Nat.le_refl _) (fun i hi => by cases hi)
    go_loopw [4, 5] (fun v i wr => ∃ (k : Nat) (cur : List UInt8), 2 * k ≤ s.size ∧ i = .int .i64 ((2 * k : Nat) : Int) ∧ Hid (unhexL l = (unhexL (s.data.toList.drop (2 * k))).map (cur ++ ·)) ∧ Hid (cur.length = k) ∧ wr.ownsRow w.heap.size 5 1 v cur.length (cellsOf cur) ∧ Below w.heap.size w wr) (fun _ i _ => s.size - (intOf i).toNat)
    case atStart => exact ⟨0, [], by omega, rfl, by rw [Hid, HSl.out]; simp, rfl, hown1, hb1⟩
    case round =>
      clear hown1 hg1 hb1
      obtain ⟨k, cur, hk, rfl, HU, HL, hown, hb⟩ := hrel
      have hsz := hb.size
      obtain ⟨a, cap, rfl⟩ := form_of_row hown
      obtain ⟨q, hq⟩ : ∃ q, 2 * k = q := ⟨_, rfl⟩
      have HQ : Hid _ := hq
      rw [hq]
      clear hq
      by_cases hlt : q < s.size
      · have hq1 : q + 1 < s.size := by have := HR.out; have := HQ.out; omega
        obtain ⟨q1, hq1'⟩ : ∃ q1, q + 1 = q1 := ⟨_, rfl⟩
        have r0 := fun W => run_byte s (i := q) (z := (q : Int)) rfl hlt W
        have r1 := fun W => run_byte s (i := q1) (z := (q : Int) + 1) (by omega) (by omega) W
        obtain ⟨x, hx⟩ : ∃ x, byteAt s q = x := ⟨_, rfl⟩
        obtain ⟨y, hy⟩ : ∃ y, byteAt s q1 = y := ⟨_, rfl⟩
        rw [hx] at r0
        rw [hy] at r1
        have HS := unhex_step (k := k) (cur := cur) (by have := HQ.out; omega) HU.out
        rw [HQ.out, hq1', hx, hy] at HS
        obtain ⟨dx, hdx⟩ : ∃ dx, dig (UInt8.ofNat x) = dx := ⟨_, rfl⟩
        obtain ⟨dy, hdy⟩ : ∃ dy, dig (UInt8.ofNat y) = dy := ⟨_, rfl⟩
        have HP1 : Hid (∀ W, _) := fun W => ib_any x W
        have HP2 : Hid (∀ W, _) := fun W => ib_any y W
        have cx := dig_cases (UInt8.ofNat x)
        have cy := dig_cases (UInt8.ofNat y)
        rw [hdx] at HP1 HS cx
        rw [hdy] at HP2 HS cy
        have HH : Hid _ := HS
        clear HS hx hy hdx hdy hq1'
        go_wp2_with fail
        refine (HP1.out _).mono ?_
        rintro e1 w2 ⟨rfl, rfl⟩
        go_wp2_with fail
        refine (HP2.out _).mono ?_
        rintro e2 w3 ⟨rfl, rfl⟩
        by_cases hx0 : dx < 0
        · have HN : Hid (unhexV l = #[.string ⟨#[]⟩, .bool false]) := by rw [Hid, unhexV, HH.out, if_pos (Or.inl hx0)]
          go_wp2_with fail
          go_ret2
          exact ⟨by rw [HN.out]; rfl, hb⟩
        by_cases hy0 : dy < 0
        · have HN : Hid (unhexV l = #[.string ⟨#[]⟩, .bool false]) := by rw [Hid, unhexV, HH.out, if_pos (Or.inr hy0)]
          go_wp2_with fail
          go_ret2
          exact ⟨by rw [HN.out]; rfl, hb⟩
        obtain ⟨X, hX⟩ : ∃ X : Nat, dx = (X : Int) := ⟨dx.toNat, by omega⟩
        obtain ⟨Y, hY⟩ : ∃ Y : Nat, dy = (Y : Int) := ⟨dy.toNat, by omega⟩
        subst hX hY
        have hX16 : X < 16 := by omega
        have hY16 : Y < 16 := by omega
        obtain ⟨Z, hZ⟩ : ∃ Z, 16 * X + Y = Z := ⟨_, rfl⟩
        have hZ2 : Z < 256 := by omega
        have jb : bits BinOp.or IntKind.i64 ((X : Int) * 16) (Y : Int) = (Z : Int) := by rw [← hZ]; exact hexdig_bits hX16 hY16
        obtain ⟨c, hc⟩ : ∃ c, UInt8.ofNat Z = c := ⟨_, rfl⟩
        have HCv : Hid (cellsOf [c] = [Value.int .u8 (Z : Int)]) := by
          rw [Hid, ← hc]
          show [Value.int .u8 ((UInt8.ofNat Z).toNat : Int)] = _
          rw [UInt8.toNat_ofNat', Nat.mod_eq_of_lt hZ2]
        have HU2 : Hid (unhexL l = (unhexL (s.data.toList.drop (2 * (k + 1)))).map ((cur ++ [c]) ++ ·)) := by
          rw [Hid, HH.out, if_neg (by omega), Int.toNat_natCast, Int.toNat_natCast, hZ, hc]
        clear cx cy hc hZ HH HU
        go_wp2_with (at_builtin; refine wpList_append_own _ rfl (.tmp 37) (.tmp 43) 28 rfl w.heap.size 5 i0 (.int .u8 0) 1 1 Tryd.underlying28 hi hz0 hz1 hz2 rfl (by decide) _ _ _ rfl (hown.alloc _) ⟨_, 0, none⟩ 1 1 [Value.int .u8 (Z : Int)] rfl rfl (new_cells _ [Value.int .u8 (Z : Int)] _) (by rw [← HCv.out]; exact cellsOf_one _) (by have := HL.out; unfold maxLen; omega) (by have := HL.out; omega) (by simp; omega) ?_)
        intro v1 w5 hown1 hgrow _
        obtain ⟨a1, cap1, rfl⟩ := form_of_row hown1
        have HR5 : Hid (w5.ownsRow w.heap.size 5 1 (.slice a1 (cur.length + 1) cap1) (cur ++ [c]).length (cellsOf (cur ++ [c]))) := by
          rw [Hid, cellsOf_append, snoc_len rfl, HCv.out]; exact hown1
        have HB : Hid (Below w.heap.size w w5) := (hb.alloc hsz _).grown hgrow (by simp; omega) (fun i hi => (hown.lt i hi).1)
        clear hown1 hgrow hown
        go_wp2_with fail
        go_roundw
        case rel => exact ⟨k + 1, cur ++ [c], by have := HQ.out; omega, val_int (by have := HQ.out; omega), HU2.out, by rw [Hid, snoc_len HL.out], by first | exact HR5.out | (rw [snoc_len rfl]; have := HR5.out; rw [snoc_len rfl] at this; exact this), HB.out⟩
        case measure => have := HQ.out; simp [intOf]; omega
      · have HE : Hid (unhexV l = #[.string ⟨cur.toArray⟩, .bool true]) := by
          have e := HU.out
          rw [List.drop_eq_nil_of_le (by have := HQ.out; have := HLL.out; omega), unhexL, Option.map_some, List.append_nil] at e
          rw [Hid, unhexV, e]
        have hqe : q = s.size := by have := HQ.out; omega
        have hc := conv_row hown
        go_wp2_with fail
        go_ret2
        exact ⟨by rw [HE.out]; rfl, hb⟩
  · have HN : Hid (unhexV s.data.toList = #[.string ⟨#[]⟩, .bool false]) := by
      rw [Hid, unhexV, unhex_odd _ _ (Nat.le_refl _) (by omega)]
    have hr1 : r = 1 := by omega
    subst hr1
    go_enter Tryd.func22, Tryd.ntmps22
    go_wp2_with fail
    go_ret2
    exact ⟨by rw [HN.out]; rfl, Below.refl _ _⟩
end Go.Proofs.YtcpbofjpfapegaaDoor
