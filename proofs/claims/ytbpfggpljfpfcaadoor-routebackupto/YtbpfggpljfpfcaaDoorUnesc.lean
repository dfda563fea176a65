/-
  What stands behind percents, and the contract of Unescape.
-/
import Derived.Test.YtbpfggpljfpfcaaDoorSmall
namespace Go.Proofs.YtbpfggpljfpfcaaDoor
open Go.RowKit
theorem hexV_cases (x : Nat) : hexV x = -1 ∨ (0 ≤ hexV x ∧ hexV x < 16) := by
  unfold hexV
  repeat' split
  all_goals omega
/-- The text behind percents; none: one of them is not followed by two digits. -/
def unesc : List UInt8 → Option (List UInt8)
  | [] => some []
  | c :: l => if c.toNat = 37 then (match l with
      | a :: b :: r => if hexV a.toNat < 0 ∨ hexV b.toNat < 0 then none else (unesc r).map (UInt8.ofNat (16 * (hexV a.toNat).toNat + (hexV b.toNat).toNat) :: ·)
      | _ => none) else (unesc l).map (c :: ·)
theorem unesc_plain {c : UInt8} {l : List UInt8} (h : c.toNat ≠ 37) : unesc (c :: l) = (unesc l).map (c :: ·) := by
  match l with
  | [] => simp [unesc, h]
  | [_] => simp [unesc, h]
  | _ :: _ :: _ => conv => lhs; rw [unesc]
                   rw [if_neg h]
theorem unesc_short {c : UInt8} {l : List UInt8} (h : c.toNat = 37) (hl : l.length < 2) : unesc (c :: l) = none := by
  rw [unesc.eq_def]
  match l, hl with
  | [], _ => simp [h]
  | [_], _ => simp [h]
theorem unesc_two {c a b : UInt8} {r : List UInt8} (h : c.toNat = 37) : unesc (c :: a :: b :: r) = if hexV a.toNat < 0 ∨ hexV b.toNat < 0 then none else (unesc r).map (UInt8.ofNat (16 * (hexV a.toNat).toNat + (hexV b.toNat).toNat) :: ·) := by
  rw [unesc, if_pos h]
/-- What is told of a text. -/
def unescV (l : List UInt8) : Array Value := match unesc l with
  | some r => #[.string ⟨r.toArray⟩, .int .i64 0]
  | none => #[.string ⟨#[]⟩, .int .i64 150]
theorem ofNat_toNat {x : Nat} (h : x < 256) : (UInt8.ofNat x).toNat = x := by rw [UInt8.toNat_ofNat', Nat.mod_eq_of_lt h]
theorem map_app (o : Option (List UInt8)) (cur : List UInt8) (c : UInt8) : (o.map (c :: ·)).map (cur ++ ·) = o.map ((cur ++ [c]) ++ ·) := by cases o <;> simp
theorem un_plain {s : ByteArray} {l cur : List UInt8} {k x : Nat} (hk : k < s.size) (hx : byteAt s k = x) (h : x ≠ 37) (H : unesc l = (unesc (s.data.toList.drop k)).map (cur ++ ·)) :
    unesc l = (unesc (s.data.toList.drop (k + 1))).map ((cur ++ [UInt8.ofNat x]) ++ ·) := by
  have hl := byteAt_lt s k
  rw [H, byteAt_drop hk, hx, unesc_plain (by rw [ofNat_toNat (by omega)]; exact h), map_app]
theorem un_short {s : ByteArray} {l cur : List UInt8} {k : Nat} (hk : k < s.size) (hx : byteAt s k = 37) (h : s.size - k < 3) (H : unesc l = (unesc (s.data.toList.drop k)).map (cur ++ ·)) : unesc l = none := by
  rw [H, byteAt_drop hk, hx, unesc_short (by decide) (by simp; omega)]
  rfl
theorem un_two {s : ByteArray} {l cur : List UInt8} {k x y : Nat} (hk : k + 2 < s.size) (h37 : byteAt s k = 37) (hx : byteAt s (k + 1) = x) (hy : byteAt s (k + 2) = y) (H : unesc l = (unesc (s.data.toList.drop k)).map (cur ++ ·)) :
    unesc l = if hexV x < 0 ∨ hexV y < 0 then none else (unesc (s.data.toList.drop (k + 3))).map ((cur ++ [UInt8.ofNat (16 * (hexV x).toNat + (hexV y).toNat)]) ++ ·) := by
  have h1 := byteAt_lt s (k + 1)
  have h2 := byteAt_lt s (k + 2)
  rw [H, byteAt_drop (by omega), byteAt_drop (k := k + 1) (by omega), byteAt_drop (k := k + 1 + 1) (by omega), h37, hx, show k + 1 + 1 = k + 2 by omega, hy, unesc_two (by decide), ofNat_toNat (by omega), ofNat_toNat (by omega)]
  split
  · rfl
  · rw [map_app]
theorem hexdig_bits {x y : Nat} (hx : x < 16) (hy : y < 16) : bits BinOp.or IntKind.i64 ((x : Int) * 16) (y : Int) = ((16 * x + y : Nat) : Int) := by
  have : ∀ (x y : Fin 16), bits BinOp.or IntKind.i64 ((x.val : Int) * 16) (y.val : Int) = ((16 * x.val + y.val : Nat) : Int) := by decide +kernel
  exact this ⟨x, hx⟩ ⟨y, hy⟩
set_option maxRecDepth 20000 in
set_option maxHeartbeats 4000000 in
theorem unescape_any (s : ByteArray) (w : World) (hs : s.size ≤ 140737488355327) :
    Calls Tryd.prog 32 #[.string s] w fun e w' => e = .returned (.tuple (unescV s.data.toList)) ∧ Below w.heap.size w w' := by
  obtain ⟨i0, hi, hz0, hz1, hz2⟩ := info_parts info5
  have HLL : Hid (s.data.toList.length = s.size) := by rw [Hid]; simp
  obtain ⟨l, hl⟩ : ∃ l, s.data.toList = l := ⟨_, rfl⟩
  have HSl : Hid (l = s.data.toList) := hl.symm
  rw [hl]
  clear hl
  go_enter Tryd.func32, Tryd.ntmps32
  go_wp2_with (refine wpList_make_own _ rfl _ _ 72 rfl w.heap.size 5 i0 (.int .u8 0) 1 Tryd.underlying72 hi hz0 hz1 .i64 .i64 _ s.size rfl rfl rfl (by rw [hz2]; omega) (by unfold maxLen; omega) (Nat.le_refl _) ?_; intro w1 hown1 hg1)
  have hb1 : Below w.heap.size w w1 := (Below.refl _ w).grown hg1 (Nat.le_refl _) (fun i hi => by cases hi)
  go_loopw [4, 5] (fun v i wr => ∃ (k : Nat) (cur : List UInt8), k ≤ s.size ∧ i = .int .i64 (k : Int) ∧ Hid (unesc l = (unesc (s.data.toList.drop k)).map (cur ++ ·)) ∧ Hid (cur.length ≤ k) ∧ wr.ownsRow w.heap.size 5 1 v cur.length (cellsOf cur) ∧ Below w.heap.size w wr) (fun _ i _ => s.size - (intOf i).toNat)
  case atStart => exact ⟨0, [], by omega, rfl, by rw [Hid, HSl.out]; simp, Nat.le_refl _, hown1, hb1⟩
  case round =>
    clear hown1 hg1 hb1
    obtain ⟨k, cur, hk, rfl, HU, HL, hown, hb⟩ := hrel
    have hsz := hb.size
    obtain ⟨a, cap, rfl⟩ := form_of_row hown
    by_cases hlt : k < s.size
    · have r0 := fun W => run_byte s (i := k) (z := (k : Int)) rfl hlt W
      have hxl := byteAt_lt s k
      obtain ⟨x, hx⟩ : ∃ x, byteAt s k = x := ⟨_, rfl⟩
      rw [hx] at r0 hxl
      by_cases h37 : x = 37
      · subst h37
        by_cases hsh : s.size - k < 3
        · have HN : Hid (unescV l = #[.string ⟨#[]⟩, .int .i64 150]) := by rw [Hid, unescV, un_short hlt hx hsh HU.out]
          have hq : (s.size : Int) - (k : Int) < 3 := by omega
          have hne : (((37 : Nat) : Int) != 37) = false := by decide
          clear hx hxl
          go_wp2_with fail
          go_ret2
          exact ⟨by rw [HN.out]; rfl, hb⟩
        · have hq : ¬ (s.size : Int) - (k : Int) < 3 := by omega
          have hne : (((37 : Nat) : Int) != 37) = false := by decide
          have r1 := fun W => run_byte s (i := k + 1) (z := (k : Int) + 1) (by omega) (by omega) W
          have r2 := fun W => run_byte s (i := k + 2) (z := (k : Int) + 2) (by omega) (by omega) W
          have hyl := byteAt_lt s (k + 1)
          have hzl := byteAt_lt s (k + 2)
          obtain ⟨y, hy⟩ : ∃ y, byteAt s (k + 1) = y := ⟨_, rfl⟩
          obtain ⟨z, hz⟩ : ∃ z, byteAt s (k + 2) = z := ⟨_, rfl⟩
          rw [hy] at r1 hyl
          rw [hz] at r2 hzl
          have HS := un_two (by omega) hx hy hz HU.out
          have HP1 : Hid (∀ W, _) := fun W => hexDigit_any y hyl W
          have HP2 : Hid (∀ W, _) := fun W => hexDigit_any z hzl W
          have cx := hexV_cases y
          have cy := hexV_cases z
          obtain ⟨dx, hdx⟩ : ∃ dx, hexV y = dx := ⟨_, rfl⟩
          obtain ⟨dy, hdy⟩ : ∃ dy, hexV z = dy := ⟨_, rfl⟩
          rw [hdx] at HP1 HS cx
          rw [hdy] at HP2 HS cy
          have HH : Hid _ := HS
          clear HS hx hxl hy hz hdx hdy
          go_wp2_with fail
          go_quiet (first
            | (go_at_call_of 47 (Value.int .u8 (y : Int)); exact Calls.quiet_of_same (HP1.out _))
            | (go_at_call_of 47 (Value.int .u8 (z : Int)); exact Calls.quiet_of_same (HP2.out _)))
          obtain ⟨v3, hv3⟩ : ∃ v3, wr.drewN nq = v3 := ⟨_, rfl⟩
          have hown3 : v3.ownsRow w.heap.size 5 1 (.slice a cur.length cap) cur.length (cellsOf cur) := by rw [← hv3]; exact hown
          have hb3 : Below w.heap.size w v3 := by rw [← hv3]; exact ⟨hb.os, hb.tape, hb.output, hb.size, hb.block⟩
          have hsz3 := hb3.size
          rw [hv3]
          clear hv3 nq hown hb hsz r0 r1 r2
          by_cases hx0 : dx < 0
          · have HN : Hid (unescV l = #[.string ⟨#[]⟩, .int .i64 150]) := by rw [Hid, unescV, HH.out, if_pos (Or.inl hx0)]
            go_wp2_with fail
            go_ret2
            exact ⟨by rw [HN.out]; rfl, hb3⟩
          by_cases hy0 : dy < 0
          · have HN : Hid (unescV l = #[.string ⟨#[]⟩, .int .i64 150]) := by rw [Hid, unescV, HH.out, if_pos (Or.inr hy0)]
            go_wp2_with fail
            go_ret2
            exact ⟨by rw [HN.out]; rfl, hb3⟩
          obtain ⟨X, hX⟩ : ∃ X : Nat, dx = (X : Int) := ⟨dx.toNat, by omega⟩
          obtain ⟨Y, hY⟩ : ∃ Y : Nat, dy = (Y : Int) := ⟨dy.toNat, by omega⟩
          subst hX hY
          have hX16 : X < 16 := by omega
          have hY16 : Y < 16 := by omega
          obtain ⟨Z, hZ⟩ : ∃ Z, 16 * X + Y = Z := ⟨_, rfl⟩
          have hZ2 : Z < 256 := by omega
          have jb : bits BinOp.or IntKind.i64 ((X : Int) * 16) (Y : Int) = (Z : Int) := by rw [← hZ]; exact hexdig_bits hX16 hY16
          obtain ⟨c, hc⟩ : ∃ c, UInt8.ofNat Z = c := ⟨_, rfl⟩
          have HCv : Hid (cellsOf [c] = [Value.int .u8 (Z : Int)]) := by
            rw [Hid, ← hc]
            show [Value.int .u8 ((UInt8.ofNat Z).toNat : Int)] = _
            rw [ofNat_toNat hZ2]
          have HU2 : Hid (unesc l = (unesc (s.data.toList.drop (k + 3))).map ((cur ++ [c]) ++ ·)) := by
            rw [Hid, HH.out, if_neg (by omega), Int.toNat_natCast, Int.toNat_natCast, hZ, hc]
          have HK3 : Hid (k + 3 ≤ s.size) := by rw [Hid]; omega
          clear cx cy hc hZ HH HU
          go_wp2_with (at_builtin; refine wpList_append_own _ rfl (.tmp 48) (.tmp 54) 72 rfl w.heap.size 5 i0 (.int .u8 0) 1 1 Tryd.underlying72 hi hz0 hz1 hz2 rfl (by decide) _ _ _ rfl (hown3.alloc _) ⟨_, 0, none⟩ 1 1 [Value.int .u8 (Z : Int)] rfl rfl (new_cells _ [Value.int .u8 (Z : Int)] _) (by rw [← HCv.out]; exact cellsOf_one _) (by have := HL.out; unfold maxLen; omega) (by have := HL.out; omega) (by simp; omega) ?_)
          intro v1 w5 hown1 hgrow _
          obtain ⟨a1, cap1, rfl⟩ := form_of_row hown1
          have HR5 : Hid (w5.ownsRow w.heap.size 5 1 (.slice a1 (cur.length + 1) cap1) (cur ++ [c]).length (cellsOf (cur ++ [c]))) := by
            rw [Hid, cellsOf_append, snoc_len rfl, HCv.out]; exact hown1
          have HB : Hid (Below w.heap.size w w5) := (hb3.alloc hsz3 _).grown hgrow (by simp; omega) (fun i hi => (hown3.lt i hi).1)
          clear hown1 hgrow hown3
          go_wp2_with fail
          go_roundw
          case rel => exact ⟨k + 3, cur ++ [c], HK3.out, val_int (by omega), HU2.out, by have := HL.out; rw [Hid, snoc_len rfl]; omega, by first | exact HR5.out | (rw [snoc_len rfl]; have := HR5.out; rw [snoc_len rfl] at this; exact this), HB.out⟩
          case measure => have := HK3.out; simp [intOf]; omega
      · have HU2 : Hid _ := un_plain hlt hx h37 HU.out
        have hne : ((x : Int) != 37) = true := by simp; omega
        obtain ⟨c, hc⟩ : ∃ c, UInt8.ofNat x = c := ⟨_, rfl⟩
        have HCv : Hid (cellsOf [c] = [Value.int .u8 (x : Int)]) := by
          rw [Hid, ← hc]
          show [Value.int .u8 ((UInt8.ofNat x).toNat : Int)] = _
          rw [ofNat_toNat hxl]
        rw [hc] at HU2
        clear hc hx h37 HU
        go_wp2_with (at_builtin; refine wpList_append_own _ rfl (.tmp 21) (.tmp 25) 72 rfl w.heap.size 5 i0 (.int .u8 0) 1 1 Tryd.underlying72 hi hz0 hz1 hz2 rfl (by decide) _ _ _ rfl (hown.alloc _) ⟨_, 0, none⟩ 1 1 [Value.int .u8 (x : Int)] rfl rfl (new_cells _ [Value.int .u8 (x : Int)] _) (by rw [← HCv.out]; exact cellsOf_one _) (by have := HL.out; unfold maxLen; omega) (by have := HL.out; omega) (by simp; omega) ?_)
        intro v1 w5 hown1 hgrow _
        obtain ⟨a1, cap1, rfl⟩ := form_of_row hown1
        have HR5 : Hid (w5.ownsRow w.heap.size 5 1 (.slice a1 (cur.length + 1) cap1) (cur ++ [c]).length (cellsOf (cur ++ [c]))) := by
          rw [Hid, cellsOf_append, snoc_len rfl, HCv.out]; exact hown1
        have HB : Hid (Below w.heap.size w w5) := (hb.alloc hsz _).grown hgrow (by simp; omega) (fun i hi => (hown.lt i hi).1)
        clear hown1 hgrow hown
        go_wp2_with fail
        go_roundw
        case rel => exact ⟨k + 1, cur ++ [c], by omega, val_int (by omega), HU2.out, by have := HL.out; rw [Hid, snoc_len rfl]; omega, by first | exact HR5.out | (rw [snoc_len rfl]; have := HR5.out; rw [snoc_len rfl] at this; exact this), HB.out⟩
        case measure => simp [intOf]; omega
    · have HE : Hid (unescV l = #[.string ⟨cur.toArray⟩, .int .i64 0]) := by
        have e := HU.out
        rw [List.drop_eq_nil_of_le (by have := HLL.out; omega), unesc, Option.map_some, List.append_nil] at e
        rw [Hid, unescV, e]
      have hc := conv_row hown
      go_wp2_with fail
      go_ret2
      exact ⟨by rw [HE.out]; rfl, hb⟩
end Go.Proofs.YtbpfggpljfpfcaaDoor
