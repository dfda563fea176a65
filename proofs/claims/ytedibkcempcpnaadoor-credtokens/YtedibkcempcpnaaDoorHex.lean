/-
  The contract of Hex; Base64 of two bytes.
-/
import Derived.Test.YtedibkcempcpnaaDoorSum
import Derived.Deep.RegionLaw
namespace Go.Proofs.YtedibkcempcpnaaDoor
open Go.RowKit
def digitsB : ByteArray := ⟨#[48, 49, 50, 51, 52, 53, 54, 55, 56, 57, 97, 98, 99, 100, 101, 102]⟩
def hexD (n : Nat) : UInt8 := digitsB.data.toList.getD n 0
def hexOf : List UInt8 → List UInt8
  | [] => []
  | c :: l => hexD (c.toNat / 16) :: hexD (c.toNat % 16) :: hexOf l
theorem hexOf_append (a b : List UInt8) : hexOf (a ++ b) = hexOf a ++ hexOf b := by
  induction a with
  | nil => rfl
  | cons c l ih => simp [hexOf, ih]
theorem hexOf_len (a : List UInt8) : (hexOf a).length = 2 * a.length := by
  induction a with
  | nil => rfl
  | cons c l ih => simp [hexOf, ih]; omega
theorem take_snoc (s : ByteArray) (k : Nat) (h : k < s.size) : s.data.toList.take (k + 1) = s.data.toList.take k ++ [s[k]] := by
  rw [List.take_succ_eq_append_getElem (by simpa using h)]; rfl
theorem hex_at {q : Nat} (h : q < 16) : ∀ (p : q < (⟨#[48, 49, 50, 51, 52, 53, 54, 55, 56, 57, 97, 98, 99, 100, 101, 102]⟩ : ByteArray).size), (⟨#[48, 49, 50, 51, 52, 53, 54, 55, 56, 57, 97, 98, 99, 100, 101, 102]⟩ : ByteArray)[q]'p = hexD q := by
  intro p
  have : q = 0 ∨ q = 1 ∨ q = 2 ∨ q = 3 ∨ q = 4 ∨ q = 5 ∨ q = 6 ∨ q = 7 ∨ q = 8 ∨ q = 9 ∨ q = 10 ∨ q = 11 ∨ q = 12 ∨ q = 13 ∨ q = 14 ∨ q = 15 := by omega
  rcases this with rfl | rfl | rfl | rfl | rfl | rfl | rfl | rfl | rfl | rfl | rfl | rfl | rfl | rfl | rfl | rfl <;> rfl
theorem run_hex {q : Nat} (h : q < 16) (W : World) : (Instr.index 9 (.string ⟨#[48, 49, 50, 51, 52, 53, 54, 55, 56, 57, 97, 98, 99, 100, 101, 102]⟩) (.int .u8 (q : Int))).run Tryd.prog W = .ok (.int .u8 ((hexD q).toNat : Int)) W := by
  rw [run_index_string W 9 _ .u8 (q : Int) Tryd.underlying9, dif_pos ⟨by omega, by show (q : Int) < 16; omega⟩]
  congr 3
  exact congrArg UInt8.toNat (hex_at h (by show q < 16; exact h))
theorem step_append_own {P : Program} {ops : Array Oper} {o : Oper} {a : Act} {w : World} {K : Act → World → Prop} {Q : Exit → Act → World → Prop} {E : Prop}
    (hg : o.guard = none) (s x : Operand) (t : TypeId) (hop : o.op = Op.call { callee := Callee.builtin Builtin.append, args := #[s, x], argTypes := #[t, t] })
    (base : Nat) (e : TypeId) (i : TypeInfo) (z : Value) (size bytes : Nat) (ht : P.underlying t = some (.slice e)) (hi : P.info? e = some i) (hz : i.zero = some z)
    (hsize : i.size = size) (hby : i.bytes = bytes) (hzs : z.cells.size = size) (hsz : 0 < size)
    (v : Value) (n : Nat) (xs : List Value) (hs : a.eval s = v) (hown : w.ownsRow base e size v n xs)
    (ad : Addr) (m c : Nat) (news : List Value) (hx : a.eval x = .slice (some ad) m c) (hl : news.length = m * size) (hnews : ∀ j u, news[j]? = some u → w.cell? (ad.add j) = some u) (h1 : ∀ u ∈ news, u.oneCell' = true)
    (h63 : n + m ≤ maxLen) (hbytes : (n + m) * bytes ≤ 140737488355328) (hbase : base ≤ w.heap.size)
    (hK : ∀ v' w', w'.ownsRow base e size v' (n + m) (xs ++ news) → w.grownBy w' v.ownBlock → K (a.put o.dst v') w') :
    if Region.wanted o (yielded ops a.tmps) = true then Oper.wp P o a w K Q else E := by
  have hw : Region.wanted o (yielded ops a.tmps) = true := by simp [Region.wanted, hg]
  rw [if_pos hw]
  exact wp_append_own w s x t hop base e i z size bytes ht hi hz hsize hby hzs hsz v n xs hs hown ad m c news hx hl hnews h1 h63 hbytes hbase (fun v' w' h2 h3 _ => hK v' w' h2 h3)
theorem grownBy_undrew {w w' : World} {row : Option Nat} (h : w.drew.grownBy w' row) : w.grownBy w' row := ⟨h.os, h.tape, h.output, h.size, h.block⟩
theorem own_drew {w : World} {base : Nat} {v : Value} {n : Nat} {xs : List Value} (h : w.ownsRow base 5 1 v n xs) : w.drew.ownsRow base 5 1 v n xs := h
set_option maxRecDepth 20000 in
set_option maxHeartbeats 2000000 in
theorem hex_any (s : ByteArray) (w : World) (hs : s.size ≤ 1048576) : Calls Tryd.prog 24 #[.string s] w fun e w' => e = .returned (.string ⟨(hexOf s.data.toList).toArray⟩) ∧ Below w.heap.size w w' := by
  obtain ⟨i0, hi, hz0, hz1, hz2⟩ := info_parts info5
  obtain ⟨m, hm⟩ : ∃ m, 2 * s.size = m := ⟨_, rfl⟩
  have hmul : wrap64 (2 * (s.size : Int)) = (m : Int) := by unfold wrap64; omega
  go_enter Tryd.func24, Tryd.ntmps24
  go_wp2_with (refine wpList_make_own _ rfl _ _ 37 rfl w.heap.size 5 i0 (.int .u8 0) 1 Tryd.underlying37 hi hz0 hz1 .i64 .i64 _ m rfl rfl (by first | exact hmul | rfl | omega) (by rw [hz2]; omega) (by unfold maxLen; omega) (Nat.le_refl _) ?_; intro w1 hown1 hg1)
  have hb1 : Below w.heap.size w w1 := (Below.refl _ w).grown hg1 (Nat.le_refl _) (fun i hi => by cases hi)
  go_loopw [3, 11] (fun v i wr => ∃ k : Nat, ∃ cur : List UInt8, k ≤ s.size ∧ i = .int .i64 k ∧ Hid (cur = hexOf (s.data.toList.take k)) ∧ wr.ownsRow w.heap.size 5 1 v cur.length (cellsOf cur) ∧ Below w.heap.size w wr) (fun _ i _ => s.size - (intOf i).toNat)
  case atStart => exact ⟨0, [], by omega, rfl, rfl, hown1, hb1⟩
  case round =>
    clear hown1 hg1 hb1
    obtain ⟨k, cur, hk, rfl, HC, hown, hb⟩ := hrel
    have hsz := hb.size
    obtain ⟨a, cap, rfl⟩ := form_of_row hown
    by_cases hlt : k < s.size
    · have HL' : Hid (cur.length = 2 * k) := by
        show _ = _
        rw [HC.out, hexOf_len, List.length_take]
        have : s.data.toList.length = s.size := by simp
        omega
      obtain ⟨c, hc⟩ : ∃ c, s[k] = c := ⟨_, rfl⟩
      have HX : Hid (cur ++ [hexD (c.toNat / 16), hexD (c.toNat % 16)] = hexOf (s.data.toList.take (k + 1))) := by
        show _ = _
        rw [take_snoc s k hlt, hexOf_append, HC.out, hc]
        rfl
      have hcl := c.toNat_lt
      obtain ⟨q1, hq1⟩ : ∃ q1, c.toNat / 16 = q1 := ⟨_, rfl⟩
      obtain ⟨q2, hq2⟩ : ∃ q2, c.toNat % 16 = q2 := ⟨_, rfl⟩
      have e1 : (c.toNat : Int) / 16 = (q1 : Int) := by omega
      have e2 : bits BinOp.and IntKind.u8 (c.toNat : Int) 15 = (q2 : Int) := by
        have := u8_and_nat c.toNat 15 hcl (by decide)
        rw [Nat.and_two_pow_sub_one_eq_mod c.toNat 4] at this
        rw [← hq2]
        exact this
      have l1 : q1 < 16 := by omega
      have l2 : q2 < 16 := by omega
      rw [hq1, hq2] at HX
      have r1 := fun W => run_hex l1 W
      have r2 := fun W => run_hex l2 W
      clear hq1 hq2
      go_wp2_with fail
      go_region_law (refine step_append_own rfl (.tmp 14) (.tmp 25) 37 rfl w.heap.size 5 i0 (.int .u8 0) 1 1 Tryd.underlying37 hi hz0 hz1 hz2 rfl (by decide) _ _ _ rfl (hown.alloc _) ⟨wr.heap.size, 0, none⟩ 2 2 (cellsOf [hexD q1, hexD q2]) rfl rfl (new_cells _ (cellsOf [hexD q1, hexD q2]) _) (cellsOf_one _) (by have := HL'.out; unfold maxLen; omega) (by have := HL'.out; omega) (by simp; omega) ?_; intro v1 w5 hown1 hgrow)
      all_goals
        obtain ⟨a1, cap1, rfl⟩ := form_of_row hown1
        have HR : Hid (w5.ownsRow w.heap.size 5 1 (.slice a1 (cur.length + 2) cap1) (cur ++ [hexD q1, hexD q2]).length (cellsOf (cur ++ [hexD q1, hexD q2]))) := by
          rw [Hid, cellsOf_append, List.length_append]; exact hown1
        have HB : Hid (Below w.heap.size w w5) := (hb.alloc hsz _).grown (grownBy_undrew hgrow) (by simp; omega) (fun i hi => (hown.lt i hi).1)
        clear hown1 hgrow hown r1 r2
        go_wp2_with fail
        go_roundw
        case rel => exact ⟨k + 1, cur ++ [hexD q1, hexD q2], by omega, by go_num, HX.out, by first | exact HR.out | (rw [List.length_append]; have := HR.out; rw [List.length_append] at this; exact this), HB.out⟩
        case measure => simp [intOf]; omega
    · obtain rfl : k = s.size := by omega
      have hcv := conv_row hown
      have HC' : Hid (cur = hexOf s.data.toList) := by show _ = _; rw [HC.out, List.take_of_length_le (by simp)]
      go_wp2_with fail
      go_ret
      exact ⟨by rw [← HC'.out]; rfl, hb⟩
end Go.Proofs.YtedibkcempcpnaaDoor
