/-
  The contracts of a writer's U64.
-/
import Derived.Test.YtedibkcempcpnaaDoorTKcd
import Derived.Deep.RegionLaw
namespace Go.Proofs.YtedibkcempcpnaaDoor.T.K
open Go.RowKit
theorem step_append_own {P : Program} {ops : Array Oper} {o : Oper} {a : Act} {w : World} {K : Act → World → Prop} {Q : Exit → Act → World → Prop} {E : Prop}
    (hg : o.guard = none) (s x : Operand) (t : TypeId) (hop : o.op = Op.call { callee := Callee.builtin Builtin.append, args := #[s, x], argTypes := #[t, t] })
    (base : Nat) (e : TypeId) (i : TypeInfo) (z : Value) (size bytes : Nat) (ht : P.underlying t = some (.slice e)) (hi : P.info? e = some i) (hz : i.zero = some z)
    (hsize : i.size = size) (hby : i.bytes = bytes) (hzs : z.cells.size = size) (hsz : 0 < size)
    (v : Value) (n : Nat) (xs : List Value) (hs : a.eval s = v) (hown : w.ownsRow base e size v n xs)
    (ad : Addr) (m c : Nat) (news : List Value) (hx : a.eval x = .slice (some ad) m c) (hl : news.length = m * size) (hnews : ∀ j u, news[j]? = some u → w.cell? (ad.add j) = some u) (h1 : ∀ u ∈ news, u.oneCell' = true)
    (h63 : n + m ≤ maxLen) (hbytes : (n + m) * bytes ≤ 140737488355328) (hbase : base ≤ w.heap.size)
    (hK : ∀ v' w', w'.ownsRow base e size v' (n + m) (xs ++ news) → w.grownBy w' v.ownBlock → K (a.put o.dst v') w') :
    if Region.wanted o (yielded ops a.tmps) = true then Oper.wp P o a w K Q else E := by
  have hw : Region.wanted o (yielded ops a.tmps) = true := by simp [Region.wanted, hg]
  rw [if_pos hw]
  exact wp_append_own w s x t hop base e i z size bytes ht hi hz hsize hby hzs hsz v n xs hs hown ad m c news hx hl hnews h1 h63 hbytes hbase (fun v' w' h2 h3 _ => hK v' w' h2 h3)
theorem grownBy_undrew {w w' : World} {row : Option Nat} (h : w.drew.grownBy w' row) : w.grownBy w' row := ⟨h.os, h.tape, h.output, h.size, h.block⟩
/-- A number's lowest byte. -/
def bt (x : Nat) : UInt8 := UInt8.ofNat x
theorem u8wrap (x : Nat) : IntKind.u8.wrap (x : Int) = ((bt x).toNat : Int) := by
  rw [IntKind.wrap_u8]
  simp [bt]
theorem u8wrap_div (x d : Nat) : IntKind.u8.wrap ((x : Int) / (d : Int)) = ((bt (x / d)).toNat : Int) := by
  rw [← u8wrap]
  simp
theorem one_bound {l : Nat} (h : l + 1 ≤ 140737488355328) : l + 1 ≤ maxLen := by unfold maxLen; omega
theorem one_one (u : Int) : ∀ x ∈ [Value.int .u8 u], x.oneCell' = true := by
  intro x hx
  simp at hx
  subst hx
  rfl
def be8 (n : Nat) : List UInt8 := [bt (n / 72057594037927936), bt (n / 281474976710656), bt (n / 1099511627776), bt (n / 4294967296), bt (n / 16777216), bt (n / 65536), bt (n / 256), bt n]
section
variable {base b : Nat} {most : Int} {bs : List UInt8} {v : Value} {w : World}
set_option maxRecDepth 100000 in
set_option maxHeartbeats 8000000 in
theorem put64_ok (n : Nat) (h : WIs w base b most bs false v) (hbase : base ≤ w.heap.size) (hn : n < 18446744073709551616) (hm : 0 ≤ most) (hm' : most ≤ 9223372036854775807) (hl : bs.length + 10 ≤ 140737488355328) (hr : 8 ≤ most - bs.length) :
    Calls Tryd.prog 54 #[.pointer (some ⟨b, 0, none⟩), .int .u64 n] w fun r w' => r = .returned (.tuple #[]) ∧ (∃ v', WIs w' base b most (bs ++ be8 n) false v') ∧ WKeeps base b w w' := by
  obtain ⟨i0, hi, hz0, hz1, hz2⟩ := info_parts info5
  have HL : Hid _ := hl
  clear hl
  go_enter Tryd.func54, Tryd.ntmps54
  go_wp2_with fail
  refine (width64 _).mono ?_
  rintro e w1 ⟨rfl, rfl⟩
  go_wp2_with fail
  refine (room_yes _ h hm hm' hr).mono ?_
  rintro e w2 ⟨rfl, q, rfl⟩
  have h0 := h.drewN q
  have hk0 : WKeeps base b w1 (w1.drewN q) := (Keeps.refl _ _).drewN q
  have hbase' : base ≤ (w1.drewN q).heap.size := hbase
  generalize w1.drewN q = w2 at *
  go_wp2_with fail
  go_loopw [12] (fun i wr => ∃ k : Nat, ∃ cur v', k ≤ 8 ∧ i = .int .i64 k ∧ Hid (cur = bs ++ (be8 n).take k) ∧ WIs wr base b most cur false v' ∧ WKeeps base b w1 wr ∧ base ≤ wr.heap.size) (fun i _ => 8 - (intOf i).toNat)
  case atStart => exact ⟨0, bs, v, by omega, rfl, by simp [Hid], h0, hk0, hbase'⟩
  case round =>
    clear h0 hk0 hbase' h hbase
    obtain ⟨k, cur, v', hk1, rfl, HC, h', hk, hbase'⟩ := hrel
    obtain ⟨a, cap, rfl⟩ := h'.form
    have h1 := h'.c1; have f1 := h'.f1
    have h1' : ∀ o, (wr.alloc o).cell? ⟨b, 1, none⟩ = _ := fun o => (h'.alloc o).c1
    have ju : IntKind.u64.wrap (n : Int) = n := by rw [IntKind.wrap_u64]; omega
    by_cases hlt : k < 8
    · have HN : Hid (cur.length + 1 ≤ 140737488355328) := by
        have e := congrArg List.length HC.out
        have := HL.out
        simp only [List.length_append, List.length_take] at e
        unfold Hid
        omega
      have cases : k = 0 ∨ k = 1 ∨ k = 2 ∨ k = 3 ∨ k = 4 ∨ k = 5 ∨ k = 6 ∨ k = 7 := by omega
      rcases cases with rfl | rfl | rfl | rfl | rfl | rfl | rfl | rfl
      · have j0 : IntKind.i64.wrap 0 = 0 := by decide
        have j7 : IntKind.i64.wrap 7 = 7 := by decide
        have j56 : IntKind.i64.wrap 56 = 56 := by decide
        have jv : IntKind.u8.wrap ((n : Int) / 72057594037927936) = ((bt (n / 72057594037927936)).toNat : Int) := u8wrap_div n 72057594037927936
        have jw : ((n : Int) / 72057594037927936) % 256 = ((bt (n / 72057594037927936)).toNat : Int) := by rw [← jv, IntKind.wrap_u8]
        go_wp2_with fail
        go_region_law (refine step_append_own rfl (.tmp 19) (.tmp 28) 37 rfl base 5 i0 (.int .u8 0) 1 1 Tryd.underlying37 hi hz0 hz1 hz2 rfl (by decide) _ _ _ rfl (by exact h'.row.alloc _) ⟨wr.heap.size, 0, none⟩ 1 1 [.int .u8 ((bt (n / 72057594037927936)).toNat : Int)] rfl rfl (by exact one_cell _ _ _) (one_one _) (one_bound HN.out) (by have := HN.out; omega) (by simp; omega) ?_; intro v1 w1' hown hgrow; have hb := h'.grown (grownBy_undrew hgrow); have k1 : w1'.cell? ⟨b, 1, none⟩ = _ := cell_of_block hb rfl; have k2 : w1'.frozen? ⟨b, 1, none⟩ = false := free_of_block hb 1; obtain ⟨a1, cap1, rfl⟩ := form_of_row hown; have HR : Hid (WIs (w1'.setCell ⟨b, 1, none⟩ (.slice a1 (cur.length + 1) cap1)) base b most (cur ++ [bt (n / 72057594037927936)]) false (.slice a1 (cur.length + 1) cap1)) := appended hb hown; have HK : Hid (WKeeps base b w1 (w1'.setCell ⟨b, 1, none⟩ (.slice a1 (cur.length + 1) cap1))) := kept_append h' hk (grownBy_undrew hgrow); have HG : Hid (base ≤ w1'.heap.size) := Nat.le_trans hbase' (by have := hgrow.size; simp at this; omega); clear hown hgrow hb)
        all_goals
          go_wp2_with fail
          go_roundw
          case rel => exact ⟨1, _, _, by omega, by first | rfl | go_num, by rw [Hid, HC.out]; simp [be8], HR.out, HK.out, by simpa using HG.out⟩
          case measure => simp [intOf]
      · have j0 : IntKind.i64.wrap 0 = 0 := by decide
        have j6 : IntKind.i64.wrap 6 = 6 := by decide
        have j7 : IntKind.i64.wrap 7 = 7 := by decide
        have j48 : IntKind.i64.wrap 48 = 48 := by decide
        have jv : IntKind.u8.wrap ((n : Int) / 281474976710656) = ((bt (n / 281474976710656)).toNat : Int) := u8wrap_div n 281474976710656
        have jw : ((n : Int) / 281474976710656) % 256 = ((bt (n / 281474976710656)).toNat : Int) := by rw [← jv, IntKind.wrap_u8]
        go_wp2_with fail
        go_region_law (refine step_append_own rfl (.tmp 19) (.tmp 28) 37 rfl base 5 i0 (.int .u8 0) 1 1 Tryd.underlying37 hi hz0 hz1 hz2 rfl (by decide) _ _ _ rfl (by exact h'.row.alloc _) ⟨wr.heap.size, 0, none⟩ 1 1 [.int .u8 ((bt (n / 281474976710656)).toNat : Int)] rfl rfl (by exact one_cell _ _ _) (one_one _) (one_bound HN.out) (by have := HN.out; omega) (by simp; omega) ?_; intro v1 w1' hown hgrow; have hb := h'.grown (grownBy_undrew hgrow); have k1 : w1'.cell? ⟨b, 1, none⟩ = _ := cell_of_block hb rfl; have k2 : w1'.frozen? ⟨b, 1, none⟩ = false := free_of_block hb 1; obtain ⟨a1, cap1, rfl⟩ := form_of_row hown; have HR : Hid (WIs (w1'.setCell ⟨b, 1, none⟩ (.slice a1 (cur.length + 1) cap1)) base b most (cur ++ [bt (n / 281474976710656)]) false (.slice a1 (cur.length + 1) cap1)) := appended hb hown; have HK : Hid (WKeeps base b w1 (w1'.setCell ⟨b, 1, none⟩ (.slice a1 (cur.length + 1) cap1))) := kept_append h' hk (grownBy_undrew hgrow); have HG : Hid (base ≤ w1'.heap.size) := Nat.le_trans hbase' (by have := hgrow.size; simp at this; omega); clear hown hgrow hb)
        all_goals
          go_wp2_with fail
          go_roundw
          case rel => exact ⟨2, _, _, by omega, by first | rfl | go_num, by rw [Hid, HC.out]; simp [be8], HR.out, HK.out, by simpa using HG.out⟩
          case measure => simp [intOf]
      · have j0 : IntKind.i64.wrap 0 = 0 := by decide
        have j5 : IntKind.i64.wrap 5 = 5 := by decide
        have j7 : IntKind.i64.wrap 7 = 7 := by decide
        have j40 : IntKind.i64.wrap 40 = 40 := by decide
        have jv : IntKind.u8.wrap ((n : Int) / 1099511627776) = ((bt (n / 1099511627776)).toNat : Int) := u8wrap_div n 1099511627776
        have jw : ((n : Int) / 1099511627776) % 256 = ((bt (n / 1099511627776)).toNat : Int) := by rw [← jv, IntKind.wrap_u8]
        go_wp2_with fail
        go_region_law (refine step_append_own rfl (.tmp 19) (.tmp 28) 37 rfl base 5 i0 (.int .u8 0) 1 1 Tryd.underlying37 hi hz0 hz1 hz2 rfl (by decide) _ _ _ rfl (by exact h'.row.alloc _) ⟨wr.heap.size, 0, none⟩ 1 1 [.int .u8 ((bt (n / 1099511627776)).toNat : Int)] rfl rfl (by exact one_cell _ _ _) (one_one _) (one_bound HN.out) (by have := HN.out; omega) (by simp; omega) ?_; intro v1 w1' hown hgrow; have hb := h'.grown (grownBy_undrew hgrow); have k1 : w1'.cell? ⟨b, 1, none⟩ = _ := cell_of_block hb rfl; have k2 : w1'.frozen? ⟨b, 1, none⟩ = false := free_of_block hb 1; obtain ⟨a1, cap1, rfl⟩ := form_of_row hown; have HR : Hid (WIs (w1'.setCell ⟨b, 1, none⟩ (.slice a1 (cur.length + 1) cap1)) base b most (cur ++ [bt (n / 1099511627776)]) false (.slice a1 (cur.length + 1) cap1)) := appended hb hown; have HK : Hid (WKeeps base b w1 (w1'.setCell ⟨b, 1, none⟩ (.slice a1 (cur.length + 1) cap1))) := kept_append h' hk (grownBy_undrew hgrow); have HG : Hid (base ≤ w1'.heap.size) := Nat.le_trans hbase' (by have := hgrow.size; simp at this; omega); clear hown hgrow hb)
        all_goals
          go_wp2_with fail
          go_roundw
          case rel => exact ⟨3, _, _, by omega, by first | rfl | go_num, by rw [Hid, HC.out]; simp [be8], HR.out, HK.out, by simpa using HG.out⟩
          case measure => simp [intOf]
      · have j0 : IntKind.i64.wrap 0 = 0 := by decide
        have j4 : IntKind.i64.wrap 4 = 4 := by decide
        have j7 : IntKind.i64.wrap 7 = 7 := by decide
        have j32 : IntKind.i64.wrap 32 = 32 := by decide
        have jv : IntKind.u8.wrap ((n : Int) / 4294967296) = ((bt (n / 4294967296)).toNat : Int) := u8wrap_div n 4294967296
        have jw : ((n : Int) / 4294967296) % 256 = ((bt (n / 4294967296)).toNat : Int) := by rw [← jv, IntKind.wrap_u8]
        go_wp2_with fail
        go_region_law (refine step_append_own rfl (.tmp 19) (.tmp 28) 37 rfl base 5 i0 (.int .u8 0) 1 1 Tryd.underlying37 hi hz0 hz1 hz2 rfl (by decide) _ _ _ rfl (by exact h'.row.alloc _) ⟨wr.heap.size, 0, none⟩ 1 1 [.int .u8 ((bt (n / 4294967296)).toNat : Int)] rfl rfl (by exact one_cell _ _ _) (one_one _) (one_bound HN.out) (by have := HN.out; omega) (by simp; omega) ?_; intro v1 w1' hown hgrow; have hb := h'.grown (grownBy_undrew hgrow); have k1 : w1'.cell? ⟨b, 1, none⟩ = _ := cell_of_block hb rfl; have k2 : w1'.frozen? ⟨b, 1, none⟩ = false := free_of_block hb 1; obtain ⟨a1, cap1, rfl⟩ := form_of_row hown; have HR : Hid (WIs (w1'.setCell ⟨b, 1, none⟩ (.slice a1 (cur.length + 1) cap1)) base b most (cur ++ [bt (n / 4294967296)]) false (.slice a1 (cur.length + 1) cap1)) := appended hb hown; have HK : Hid (WKeeps base b w1 (w1'.setCell ⟨b, 1, none⟩ (.slice a1 (cur.length + 1) cap1))) := kept_append h' hk (grownBy_undrew hgrow); have HG : Hid (base ≤ w1'.heap.size) := Nat.le_trans hbase' (by have := hgrow.size; simp at this; omega); clear hown hgrow hb)
        all_goals
          go_wp2_with fail
          go_roundw
          case rel => exact ⟨4, _, _, by omega, by first | rfl | go_num, by rw [Hid, HC.out]; simp [be8], HR.out, HK.out, by simpa using HG.out⟩
          case measure => simp [intOf]
      · have j0 : IntKind.i64.wrap 0 = 0 := by decide
        have j3 : IntKind.i64.wrap 3 = 3 := by decide
        have j7 : IntKind.i64.wrap 7 = 7 := by decide
        have j24 : IntKind.i64.wrap 24 = 24 := by decide
        have jv : IntKind.u8.wrap ((n : Int) / 16777216) = ((bt (n / 16777216)).toNat : Int) := u8wrap_div n 16777216
        have jw : ((n : Int) / 16777216) % 256 = ((bt (n / 16777216)).toNat : Int) := by rw [← jv, IntKind.wrap_u8]
        go_wp2_with fail
        go_region_law (refine step_append_own rfl (.tmp 19) (.tmp 28) 37 rfl base 5 i0 (.int .u8 0) 1 1 Tryd.underlying37 hi hz0 hz1 hz2 rfl (by decide) _ _ _ rfl (by exact h'.row.alloc _) ⟨wr.heap.size, 0, none⟩ 1 1 [.int .u8 ((bt (n / 16777216)).toNat : Int)] rfl rfl (by exact one_cell _ _ _) (one_one _) (one_bound HN.out) (by have := HN.out; omega) (by simp; omega) ?_; intro v1 w1' hown hgrow; have hb := h'.grown (grownBy_undrew hgrow); have k1 : w1'.cell? ⟨b, 1, none⟩ = _ := cell_of_block hb rfl; have k2 : w1'.frozen? ⟨b, 1, none⟩ = false := free_of_block hb 1; obtain ⟨a1, cap1, rfl⟩ := form_of_row hown; have HR : Hid (WIs (w1'.setCell ⟨b, 1, none⟩ (.slice a1 (cur.length + 1) cap1)) base b most (cur ++ [bt (n / 16777216)]) false (.slice a1 (cur.length + 1) cap1)) := appended hb hown; have HK : Hid (WKeeps base b w1 (w1'.setCell ⟨b, 1, none⟩ (.slice a1 (cur.length + 1) cap1))) := kept_append h' hk (grownBy_undrew hgrow); have HG : Hid (base ≤ w1'.heap.size) := Nat.le_trans hbase' (by have := hgrow.size; simp at this; omega); clear hown hgrow hb)
        all_goals
          go_wp2_with fail
          go_roundw
          case rel => exact ⟨5, _, _, by omega, by first | rfl | go_num, by rw [Hid, HC.out]; simp [be8], HR.out, HK.out, by simpa using HG.out⟩
          case measure => simp [intOf]
      · have j0 : IntKind.i64.wrap 0 = 0 := by decide
        have j2 : IntKind.i64.wrap 2 = 2 := by decide
        have j7 : IntKind.i64.wrap 7 = 7 := by decide
        have j16 : IntKind.i64.wrap 16 = 16 := by decide
        have jv : IntKind.u8.wrap ((n : Int) / 65536) = ((bt (n / 65536)).toNat : Int) := u8wrap_div n 65536
        have jw : ((n : Int) / 65536) % 256 = ((bt (n / 65536)).toNat : Int) := by rw [← jv, IntKind.wrap_u8]
        go_wp2_with fail
        go_region_law (refine step_append_own rfl (.tmp 19) (.tmp 28) 37 rfl base 5 i0 (.int .u8 0) 1 1 Tryd.underlying37 hi hz0 hz1 hz2 rfl (by decide) _ _ _ rfl (by exact h'.row.alloc _) ⟨wr.heap.size, 0, none⟩ 1 1 [.int .u8 ((bt (n / 65536)).toNat : Int)] rfl rfl (by exact one_cell _ _ _) (one_one _) (one_bound HN.out) (by have := HN.out; omega) (by simp; omega) ?_; intro v1 w1' hown hgrow; have hb := h'.grown (grownBy_undrew hgrow); have k1 : w1'.cell? ⟨b, 1, none⟩ = _ := cell_of_block hb rfl; have k2 : w1'.frozen? ⟨b, 1, none⟩ = false := free_of_block hb 1; obtain ⟨a1, cap1, rfl⟩ := form_of_row hown; have HR : Hid (WIs (w1'.setCell ⟨b, 1, none⟩ (.slice a1 (cur.length + 1) cap1)) base b most (cur ++ [bt (n / 65536)]) false (.slice a1 (cur.length + 1) cap1)) := appended hb hown; have HK : Hid (WKeeps base b w1 (w1'.setCell ⟨b, 1, none⟩ (.slice a1 (cur.length + 1) cap1))) := kept_append h' hk (grownBy_undrew hgrow); have HG : Hid (base ≤ w1'.heap.size) := Nat.le_trans hbase' (by have := hgrow.size; simp at this; omega); clear hown hgrow hb)
        all_goals
          go_wp2_with fail
          go_roundw
          case rel => exact ⟨6, _, _, by omega, by first | rfl | go_num, by rw [Hid, HC.out]; simp [be8], HR.out, HK.out, by simpa using HG.out⟩
          case measure => simp [intOf]
      · have j0 : IntKind.i64.wrap 0 = 0 := by decide
        have j1 : IntKind.i64.wrap 1 = 1 := by decide
        have j7 : IntKind.i64.wrap 7 = 7 := by decide
        have j8 : IntKind.i64.wrap 8 = 8 := by decide
        have jv : IntKind.u8.wrap ((n : Int) / 256) = ((bt (n / 256)).toNat : Int) := u8wrap_div n 256
        have jw : ((n : Int) / 256) % 256 = ((bt (n / 256)).toNat : Int) := by rw [← jv, IntKind.wrap_u8]
        go_wp2_with fail
        go_region_law (refine step_append_own rfl (.tmp 19) (.tmp 28) 37 rfl base 5 i0 (.int .u8 0) 1 1 Tryd.underlying37 hi hz0 hz1 hz2 rfl (by decide) _ _ _ rfl (by exact h'.row.alloc _) ⟨wr.heap.size, 0, none⟩ 1 1 [.int .u8 ((bt (n / 256)).toNat : Int)] rfl rfl (by exact one_cell _ _ _) (one_one _) (one_bound HN.out) (by have := HN.out; omega) (by simp; omega) ?_; intro v1 w1' hown hgrow; have hb := h'.grown (grownBy_undrew hgrow); have k1 : w1'.cell? ⟨b, 1, none⟩ = _ := cell_of_block hb rfl; have k2 : w1'.frozen? ⟨b, 1, none⟩ = false := free_of_block hb 1; obtain ⟨a1, cap1, rfl⟩ := form_of_row hown; have HR : Hid (WIs (w1'.setCell ⟨b, 1, none⟩ (.slice a1 (cur.length + 1) cap1)) base b most (cur ++ [bt (n / 256)]) false (.slice a1 (cur.length + 1) cap1)) := appended hb hown; have HK : Hid (WKeeps base b w1 (w1'.setCell ⟨b, 1, none⟩ (.slice a1 (cur.length + 1) cap1))) := kept_append h' hk (grownBy_undrew hgrow); have HG : Hid (base ≤ w1'.heap.size) := Nat.le_trans hbase' (by have := hgrow.size; simp at this; omega); clear hown hgrow hb)
        all_goals
          go_wp2_with fail
          go_roundw
          case rel => exact ⟨7, _, _, by omega, by first | rfl | go_num, by rw [Hid, HC.out]; simp [be8], HR.out, HK.out, by simpa using HG.out⟩
          case measure => simp [intOf]
      · have j0 : IntKind.i64.wrap 0 = 0 := by decide
        have j7 : IntKind.i64.wrap 7 = 7 := by decide
        have jv : IntKind.u8.wrap (n : Int) = ((bt n).toNat : Int) := u8wrap n
        have jw : (n : Int) % 256 = ((bt n).toNat : Int) := by rw [← jv, IntKind.wrap_u8]
        go_wp2_with fail
        go_region_law (refine step_append_own rfl (.tmp 19) (.tmp 28) 37 rfl base 5 i0 (.int .u8 0) 1 1 Tryd.underlying37 hi hz0 hz1 hz2 rfl (by decide) _ _ _ rfl (by exact h'.row.alloc _) ⟨wr.heap.size, 0, none⟩ 1 1 [.int .u8 ((bt n).toNat : Int)] rfl rfl (by exact one_cell _ _ _) (one_one _) (one_bound HN.out) (by have := HN.out; omega) (by simp; omega) ?_; intro v1 w1' hown hgrow; have hb := h'.grown (grownBy_undrew hgrow); have k1 : w1'.cell? ⟨b, 1, none⟩ = _ := cell_of_block hb rfl; have k2 : w1'.frozen? ⟨b, 1, none⟩ = false := free_of_block hb 1; obtain ⟨a1, cap1, rfl⟩ := form_of_row hown; have HR : Hid (WIs (w1'.setCell ⟨b, 1, none⟩ (.slice a1 (cur.length + 1) cap1)) base b most (cur ++ [bt n]) false (.slice a1 (cur.length + 1) cap1)) := appended hb hown; have HK : Hid (WKeeps base b w1 (w1'.setCell ⟨b, 1, none⟩ (.slice a1 (cur.length + 1) cap1))) := kept_append h' hk (grownBy_undrew hgrow); have HG : Hid (base ≤ w1'.heap.size) := Nat.le_trans hbase' (by have := hgrow.size; simp at this; omega); clear hown hgrow hb)
        all_goals
          go_wp2_with fail
          go_roundw
          case rel => exact ⟨8, _, _, by omega, by first | rfl | go_num, by rw [Hid, HC.out]; simp [be8], HR.out, HK.out, by simpa using HG.out⟩
          case measure => simp [intOf]
    · have e1 : k = 8 := by omega
      subst e1
      go_wp2_with fail
      go_end0
      exact ⟨rfl, ⟨_, by have e := HC.out; rw [List.take_of_length_le (by simp [be8])] at e; rw [← e]; exact h'⟩, hk⟩
theorem wu64_ok (n : Nat) (h : WIs w base b most bs false v) (hbase : base ≤ w.heap.size) (hn : n < 18446744073709551616) (hm : 0 ≤ most) (hm' : most ≤ 9223372036854775807) (hl : bs.length + 10 ≤ 140737488355328) (hr : 8 ≤ most - bs.length) :
    Calls Tryd.prog 35 #[.pointer (some ⟨b, 0, none⟩), .int .u64 n] w fun r w' => r = .returned (.tuple #[]) ∧ (∃ v', WIs w' base b most (bs ++ be8 n) false v') ∧ WKeeps base b w w' := by
  go_enter Tryd.func35, Tryd.ntmps35
  go_wp2_with fail
  refine (put64_ok n h hbase hn hm hm' hl hr).mono ?_
  rintro e w2 ⟨rfl, hw, hk⟩
  go_wp2_with fail
  go_end0
  exact ⟨rfl, hw, hk⟩
end
end Go.Proofs.YtedibkcempcpnaaDoor.T.K
