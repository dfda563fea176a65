/-
  The contract of the twin's Unescape.
-/
import Derived.Test.YtbpfggpljfpfcaaDoorUnesc
import Derived.Test.YtbpfggpljfpfcaaDoorRHex
namespace Go.Proofs.YtbpfggpljfpfcaaDoor
open Go.RowKit
theorem hexdig_wrap {x y : Nat} (hx : x < 16) (hy : y < 16) : ((16 * x + y : Nat) : Int) = IntKind.u8.wrap (IntKind.i64.wrap (IntKind.i64.wrap (16 * (x : Int)) + (y : Int))) := by
  have : ∀ (x y : Fin 16), ((16 * x.val + y.val : Nat) : Int) = IntKind.u8.wrap (IntKind.i64.wrap (IntKind.i64.wrap (16 * (x.val : Int)) + (y.val : Int))) := by decide +kernel
  exact this ⟨x, hx⟩ ⟨y, hy⟩
set_option maxRecDepth 20000 in
set_option maxHeartbeats 4000000 in
theorem runescape_any (s : ByteArray) (w : World) (hs : s.size ≤ 140737488355327) :
    Calls Tryd.prog 26 #[.string s] w fun e w' => e = .returned (.tuple (unescV s.data.toList)) ∧ Below w.heap.size w w' := by
  obtain ⟨i0, hi, hz0, hz1, hz2⟩ := info_parts info5
  have HLL : Hid (s.data.toList.length = s.size) := by rw [Hid]; simp
  obtain ⟨l, hl⟩ : ∃ l, s.data.toList = l := ⟨_, rfl⟩
  have HSl : Hid (l = s.data.toList) := hl.symm
  rw [hl]
  clear hl
  go_enter Tryd.func26, Tryd.ntmps26
  go_wp2_with fail
  go_loopw [4, 5] (fun v i wr => ∃ (k : Nat) (cur : List UInt8), k ≤ s.size ∧ i = .int .i64 (k : Int) ∧ Hid (unesc l = (unesc (s.data.toList.drop k)).map (cur ++ ·)) ∧ Hid (cur.length ≤ k) ∧ wr.ownsRow w.heap.size 5 1 v cur.length (cellsOf cur) ∧ Below w.heap.size w wr) (fun _ i _ => s.size - (intOf i).toNat)
  case atStart => exact ⟨0, [], by omega, rfl, by rw [Hid, HSl.out]; simp, Nat.le_refl _, World.ownsRow_nil _ _ _ _, Below.refl _ _⟩
  case round =>
    obtain ⟨k, cur, hk, rfl, HU, HL, hown, hb⟩ := hrel
    have hsz := hb.size
    obtain ⟨a, cap, rfl⟩ := form_of_row hown
    by_cases hlt : k < s.size
    · have r0 := fun W => run_byte s (i := k) (z := (k : Int)) rfl hlt W
      have hxl := byteAt_lt s k
      obtain ⟨x, hx⟩ : ∃ x, byteAt s k = x := ⟨_, rfl⟩
      rw [hx] at r0 hxl
      by_cases h37 : x = 37
      · subst h37
        by_cases hsh : s.size - k < 3
        · have HN : Hid (unescV l = #[.string ⟨#[]⟩, .int .i64 150]) := by rw [Hid, unescV, un_short hlt hx hsh HU.out]
          have hq : (s.size : Int) ≤ (k : Int) + 2 := by omega
          have hne : (((37 : Nat) : Int) != 37) = false := by decide
          clear hx hxl
          go_wp2_with fail
          go_ret2
          exact ⟨by rw [HN.out]; rfl, hb⟩
        · have hq : ¬ (s.size : Int) ≤ (k : Int) + 2 := by omega
          have hne : (((37 : Nat) : Int) != 37) = false := by decide
          have r1 := fun W => run_byte s (i := k + 1) (z := (k : Int) + 1) (by omega) (by omega) W
          have r2 := fun W => run_byte s (i := k + 2) (z := (k : Int) + 2) (by omega) (by omega) W
          have hyl := byteAt_lt s (k + 1)
          have hzl := byteAt_lt s (k + 2)
          obtain ⟨y, hy⟩ : ∃ y, byteAt s (k + 1) = y := ⟨_, rfl⟩
          obtain ⟨z, hz⟩ : ∃ z, byteAt s (k + 2) = z := ⟨_, rfl⟩
          rw [hy] at r1 hyl
          rw [hz] at r2 hzl
          have HS := un_two (by omega) hx hy hz HU.out
          have HP1 : Hid (∀ W, _) := fun W => rhex_any y hyl W
          have HP2 : Hid (∀ W, _) := fun W => rhex_any z hzl W
          have cx := hexV_cases y
          have cy := hexV_cases z
          obtain ⟨dx, hdx⟩ : ∃ dx, hexV y = dx := ⟨_, rfl⟩
          obtain ⟨dy, hdy⟩ : ∃ dy, hexV z = dy := ⟨_, rfl⟩
          rw [hdx] at HP1 HS cx
          rw [hdy] at HP2 HS cy
          have HH : Hid _ := HS
          clear HS hx hxl hy hz hdx hdy
          by_cases hx0 : dx < 0
          · have HN : Hid (unescV l = #[.string ⟨#[]⟩, .int .i64 150]) := by rw [Hid, unescV, HH.out, if_pos (Or.inl hx0)]
            go_wp2_with (go_at_call_of 41 (Value.int .u8 (y : Int)); refine (HP1.out _).mono ?_; rintro e w' ⟨rfl, rfl⟩)
            go_ret2
            exact ⟨by rw [HN.out]; rfl, hb⟩
          by_cases hy0 : dy < 0
          · have HN : Hid (unescV l = #[.string ⟨#[]⟩, .int .i64 150]) := by rw [Hid, unescV, HH.out, if_pos (Or.inr hy0)]
            go_wp2_with (first
              | (go_at_call_of 41 (Value.int .u8 (y : Int)); refine (HP1.out _).mono ?_; rintro e w' ⟨rfl, rfl⟩)
              | (go_at_call_of 41 (Value.int .u8 (z : Int)); refine (HP2.out _).mono ?_; rintro e w' ⟨rfl, rfl⟩))
            go_ret2
            exact ⟨by rw [HN.out]; rfl, hb⟩
          obtain ⟨X, hX⟩ : ∃ X : Nat, dx = (X : Int) := ⟨dx.toNat, by omega⟩
          obtain ⟨Y, hY⟩ : ∃ Y : Nat, dy = (Y : Int) := ⟨dy.toNat, by omega⟩
          subst hX hY
          have hX16 : X < 16 := by omega
          have hY16 : Y < 16 := by omega
          obtain ⟨Z, hZ⟩ : ∃ Z, 16 * X + Y = Z := ⟨_, rfl⟩
          have hZ2 : Z < 256 := by omega
          have hzw : (Z : Int) = IntKind.u8.wrap (IntKind.i64.wrap (IntKind.i64.wrap (16 * (X : Int)) + (Y : Int))) := by rw [← hZ]; exact hexdig_wrap hX16 hY16
          obtain ⟨c, hc⟩ : ∃ c, UInt8.ofNat Z = c := ⟨_, rfl⟩
          have HCv : Hid (cellsOf [c] = [Value.int .u8 (IntKind.u8.wrap (IntKind.i64.wrap (IntKind.i64.wrap (16 * (X : Int)) + (Y : Int))))]) := by
            rw [Hid, ← hc]
            show [Value.int .u8 ((UInt8.ofNat Z).toNat : Int)] = _
            rw [ofNat_toNat hZ2, hzw]
          have HU2 : Hid (unesc l = (unesc (s.data.toList.drop (k + 3))).map ((cur ++ [c]) ++ ·)) := by
            rw [Hid, HH.out, if_neg (by omega), Int.toNat_natCast, Int.toNat_natCast, hZ, hc]
          have HK3 : Hid (k + 3 ≤ s.size) := by rw [Hid]; omega
          have hX0 : (0 : Int) ≤ (X : Int) := by omega
          have hY0 : (0 : Int) ≤ (Y : Int) := by omega
          have hXY : 16 * (X : Int) + (Y : Int) < 256 := by omega
          have hxi : (X : Int) < 16 := by omega
          have hyi : (Y : Int) < 16 := by omega
          have n1 : ¬ (X : Int) < 0 := by omega
          have n2 : ¬ (Y : Int) < 0 := by omega
          clear cx cy hc hZ HH HU hx0 hy0 hzw
          go_wp2_with (first
              | (go_at_call_of 41 (Value.int .u8 (y : Int)); refine (HP1.out _).mono ?_; rintro e w' ⟨rfl, rfl⟩)
              | (go_at_call_of 41 (Value.int .u8 (z : Int)); refine (HP2.out _).mono ?_; rintro e w' ⟨rfl, rfl⟩))
          have hw1 : IntKind.i64.wrap ((k : Int) + 1) = (k : Int) + 1 := by rw [IntKind.wrap_i64]; omega
          have hw2 : IntKind.i64.wrap ((k : Int) + 2) = (k : Int) + 2 := by rw [IntKind.wrap_i64]; omega
          go_region_law (first
            | (have hno := HP1; go_simp; go_wp2_with (go_at_call_of 41 (Value.int .u8 (y : Int)); refine (HP1.out _).mono ?_; rintro e w' ⟨rfl, hw5⟩; subst hw5); clear HP1)
            | (have hno := HP2; go_simp; go_wp2_with (go_at_call_of 41 (Value.int .u8 (z : Int)); refine (HP2.out _).mono ?_; rintro e w' ⟨rfl, hw5⟩; subst hw5); clear HP2)
            | (refine step_append_own rfl (.tmp 43) (.tmp 57) 72 rfl w.heap.size 5 i0 (.int .u8 0) 1 1 Tryd.underlying72 hi hz0 hz1 hz2 rfl (by decide) _ _ _ rfl (hown.alloc _) ⟨_, 0, none⟩ 1 1 [Value.int .u8 (IntKind.u8.wrap (IntKind.i64.wrap (IntKind.i64.wrap (16 * (X : Int)) + (Y : Int))))] rfl rfl (new_cells _ [Value.int .u8 (IntKind.u8.wrap (IntKind.i64.wrap (IntKind.i64.wrap (16 * (X : Int)) + (Y : Int))))] _) (by rw [← HCv.out]; exact cellsOf_one _) (by have := HL.out; unfold maxLen; omega) (by have := HL.out; omega) (by simp; omega) ?_; intro v1 w5 hown1 hgrow))
          all_goals
            obtain ⟨a1, cap1, rfl⟩ := form_of_row hown1
            have HR5 : Hid (w5.ownsRow w.heap.size 5 1 (.slice a1 (cur.length + 1) cap1) (cur ++ [c]).length (cellsOf (cur ++ [c]))) := by
              rw [Hid, cellsOf_append, snoc_len rfl, HCv.out]; exact hown1
            have HB : Hid (Below w.heap.size w w5) := (hb.alloc hsz _).grown (grownBy_undrew hgrow) (by simp; omega) (fun i hi => (hown.lt i hi).1)
            clear hown1 hgrow hown
            go_wp2_with fail
            go_roundw
            case rel => exact ⟨k + 3, cur ++ [c], HK3.out, val_int (by omega), HU2.out, by have := HL.out; rw [Hid, snoc_len rfl]; omega, by first | exact HR5.out | (rw [snoc_len rfl]; have := HR5.out; rw [snoc_len rfl] at this; exact this), HB.out⟩
            case measure => have := HK3.out; simp [intOf]; omega
      · have HU2 : Hid _ := un_plain hlt hx h37 HU.out
        have hne : ((x : Int) != 37) = true := by simp; omega
        obtain ⟨c, hc⟩ : ∃ c, UInt8.ofNat x = c := ⟨_, rfl⟩
        have HCv : Hid (cellsOf [c] = [Value.int .u8 (x : Int)]) := by
          rw [Hid, ← hc]
          show [Value.int .u8 ((UInt8.ofNat x).toNat : Int)] = _
          rw [ofNat_toNat hxl]
        rw [hc] at HU2
        clear hc hx h37 HU
        go_wp2_with (at_builtin; refine wpList_append_own _ rfl (.tmp 16) (.tmp 20) 72 rfl w.heap.size 5 i0 (.int .u8 0) 1 1 Tryd.underlying72 hi hz0 hz1 hz2 rfl (by decide) _ _ _ rfl (hown.alloc _) ⟨_, 0, none⟩ 1 1 [Value.int .u8 (x : Int)] rfl rfl (new_cells _ [Value.int .u8 (x : Int)] _) (by rw [← HCv.out]; exact cellsOf_one _) (by have := HL.out; unfold maxLen; omega) (by have := HL.out; omega) (by simp; omega) ?_)
        intro v1 w5 hown1 hgrow _
        obtain ⟨a1, cap1, rfl⟩ := form_of_row hown1
        have HR5 : Hid (w5.ownsRow w.heap.size 5 1 (.slice a1 (cur.length + 1) cap1) (cur ++ [c]).length (cellsOf (cur ++ [c]))) := by
          rw [Hid, cellsOf_append, snoc_len rfl, HCv.out]; exact hown1
        have HB : Hid (Below w.heap.size w w5) := (hb.alloc hsz _).grown hgrow (by simp; omega) (fun i hi => (hown.lt i hi).1)
        clear hown1 hgrow hown
        go_wp2_with fail
        go_roundw
        case rel => exact ⟨k + 1, cur ++ [c], by omega, val_int (by omega), HU2.out, by have := HL.out; rw [Hid, snoc_len rfl]; omega, by first | exact HR5.out | (rw [snoc_len rfl]; have := HR5.out; rw [snoc_len rfl] at this; exact this), HB.out⟩
        case measure => simp [intOf]; omega
    · have HE : Hid (unescV l = #[.string ⟨cur.toArray⟩, .int .i64 0]) := by
        have e := HU.out
        rw [List.drop_eq_nil_of_le (by have := HLL.out; omega), unesc, Option.map_some, List.append_nil] at e
        rw [Hid, unescV, e]
      have hc := conv_row hown
      go_wp2_with fail
      go_ret2
      exact ⟨by rw [HE.out]; rfl, hb⟩
end Go.Proofs.YtbpfggpljfpfcaaDoor
