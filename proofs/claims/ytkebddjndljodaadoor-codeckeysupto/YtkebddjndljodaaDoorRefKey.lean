/-
  The contract of the document's Key: the key of any parts, or why there is none.
-/
import Derived.Test.YtkebddjndljodaaDoorKey
import Derived.Test.YtkebddjndljodaaDoorNumber
import Derived.Deep.RegionLaw
import Derived.Deep.Cut
namespace Go.Proofs.YtkebddjndljodaaDoor
open Go.RowKit
theorem step_append_str {P : Program} {ops : Array Oper} {o : Oper} {a : Act} {w : World} {K : Act → World → Prop} {Q : Exit → Act → World → Prop} {E : Prop}
    (hg : o.guard = none) (sl x : Operand) (t u : TypeId) (ho : o.op = Op.call { callee := Callee.builtin Builtin.append, args := #[sl, x], argTypes := #[t, u] })
    (base : Nat) (e : TypeId) (i : TypeInfo) (ht : P.underlying t = some (.slice e)) (hu : P.underlying u = some .string) (hi : P.info? e = some i) (hz : i.zero = some (.int .u8 0))
    (hsize : i.size = 1) (hby : i.bytes = 1) (v : Value) (n : Nat) (xs : List Value) (hs : a.eval sl = v) (hown : w.ownsRow base e 1 v n xs) (s : ByteArray) (hx : a.eval x = .string s)
    (h63 : n + s.size ≤ maxLen) (hbytes : n + s.size ≤ 140737488355328) (hbase : base ≤ w.heap.size)
    (hK : ∀ v' w', w'.ownsRow base e 1 v' (n + s.size) (xs ++ Lib.strCells s) → w.grownBy w' v.ownBlock → K (a.put o.dst v') w') :
    if Region.wanted o (yielded ops a.tmps) = true then Oper.wp P o a w K Q else E := by
  have hw : Region.wanted o (yielded ops a.tmps) = true := by simp [Region.wanted, hg]
  rw [if_pos hw]
  obtain ⟨v', w', hr, h2, h3, _⟩ := Lib.run_append_own_string (P := P) w base t u o.type e i ht hu hi hz hsize hby v n xs hown s h63 hbytes hbase
  unfold Oper.wp execOp
  simp only [ho, resolve, invoke, builtin, Sem.run_bind, Sem.run_pure, Result.andThen_ok, List.map_toArray, List.map_cons, List.map_nil, hs, hx, hr]
  exact hK v' w' h2 h3
/-- A row of bytes of the call's own, beside the box of a part. -/
structure RB (w W : World) (bx : Nat) (xs : Array Value) (v : Value) (cur : List UInt8) : Prop where
  row : W.ownsRow w.heap.size 5 1 v cur.length (cellsOf cur)
  bel : Below w.heap.size w W
  box : W.heap[bx]? = some (.cells xs 47 (0, 0))
section
variable {w W W' : World} {bx : Nat} {xs : Array Value} {v v' : Value} {cur : List UInt8}
theorem RB.size (h : RB w W bx xs v cur) : w.heap.size ≤ W.heap.size := h.bel.size
theorem RB.drew (h : RB w W bx xs v cur) : RB w W.drew bx xs v cur := ⟨h.row, h.bel.drew, h.box⟩
theorem RB.alloc (h : RB w W bx xs v cur) (o : Obj) : RB w (W.alloc o) bx xs v cur := ⟨h.row.alloc o, h.bel.alloc h.bel.size o, ((Keeps.refl (fun _ => False) W).alloc o).block bx (lt_of_block h.box) (fun f => f) |>.trans h.box⟩
theorem RB.below (h : RB w W bx xs v cur) (k : Below W.heap.size W W') : RB w W' bx xs v cur :=
  ⟨ownsRow_kept h.row (keeps_of_below k) (fun _ _ f => f), h.bel.trans (k.mono h.bel.size), (k.block bx (lt_of_block h.box)).trans h.box⟩
theorem RB.grown (h : RB w W bx xs v cur) (hg : W.grownBy W' v.ownBlock) {news : List UInt8} {m : Nat} (hm : news.length = m) (hr : W'.ownsRow w.heap.size 5 1 v' (cur.length + m) (cellsOf cur ++ cellsOf news)) : RB w W' bx xs v' (cur ++ news) := by
  subst hm
  refine ⟨?_, h.bel.grown hg h.bel.size (fun i hi => (h.row.lt i hi).1), (hg.block bx (lt_of_block h.box) (fun e => ?_)).trans h.box⟩
  · rw [cellsOf_append, List.length_append]; exact hr
  · rcases h.row.2 with ⟨rfl, _⟩ | ⟨g, cap, c, rfl, _, hh, _⟩
    · simp [Value.ownBlock] at e
    · simp [Value.ownBlock] at e
      subst e
      rw [h.box] at hh
      simp at hh
theorem RB.cell (h : RB w W bx xs v cur) {j : Nat} {u : Value} (hj : xs[j]? = some u) : W.cell? ⟨bx, j, none⟩ = some u := cell_of_block h.box hj
theorem RB.form (h : RB w W bx xs v cur) : ∃ a cap, v = .slice a cur.length cap := form_of_row h.row
end
set_option maxRecDepth 100000 in
set_option maxHeartbeats 8000000 in
theorem refKey_any (a : Option Addr) (ca : Nat) (ps : List Prt) (w : World) (hp : Small w a ps) :
    Calls Tryd.prog 8 #[.slice a ps.length ca] w fun r w' => r = .returned (.tuple #[.string ⟨(keyBytes ps).toArray⟩, .int .i64 (keyErr ps)]) ∧ Below w.heap.size w w' := by
  obtain ⟨i0, hi, hz0, hz1, hz2⟩ := info_parts Tryd.info5
  have HA : Hid _ := hp
  have hl := hp.few
  clear hp
  obtain ⟨n, hn⟩ : ∃ n, ps.length = n := ⟨_, rfl⟩
  have HN : Hid _ := hn
  rw [hn] at hl
  rw [hn]
  clear hn
  by_cases h8 : 8 < n
  · have HK := keyErr_long (ps := ps) (by rw [HN.out]; exact h8)
    rw [HK.1, HK.2]
    clear HK
    go_enter Tryd.func8, Tryd.ntmps8
    go_wp2_with fail
    go_ret2
    exact ⟨rfl, Below.refl _ _⟩
  · go_enter Tryd.func8, Tryd.ntmps8
    go_wp2_with fail
    go_loopw [4, 13] (fun v i wr => ∃ k : Nat, ∃ cur, k ≤ n ∧ i = .int .i64 k ∧ Hid (∀ j x, j < k → ps[j]? = some x → okB x = true) ∧ Hid (cur = keyOf (ps.take k)) ∧ wr.ownsRow w.heap.size 5 1 v cur.length (cellsOf cur) ∧ Below w.heap.size w wr) (fun _ i _ => n - (intOf i).toNat)
    case atStart => exact ⟨0, [], by omega, rfl, fun j x hj => by omega, rfl, World.ownsRow_nil _ _ _ _, Below.refl _ _⟩
    case round =>
      obtain ⟨k, cur, hk, rfl, HE, HC, hown, hbel⟩ := hrel
      have HCL : Hid (cur.length ≤ 1073741824) := by
        have h9 := keyOf_len (ps := ps.take k) (fun p hp => HA.out.texts p (List.mem_of_mem_take hp))
        rw [List.length_take] at h9
        have := HN.out
        rw [Hid, HC.out]
        omega
      have hsz := hbel.size
      by_cases hlt : k < n
      · obtain ⟨x, hx⟩ : ∃ x, ps[k]? = some x := ⟨ps[k]'(by rw [HN.out]; exact hlt), List.getElem?_eq_getElem _⟩
        obtain ⟨g, og, rfl, hg1, x0, x1, x2⟩ := HA.out.lies k x hx
        have HX : Hid _ := hx
        have HXS : Hid _ := HA.out.texts x (mem_at hx)
        have HXN : Hid _ := HA.out.nums x (mem_at hx)
        have HNX : Hid (cur ++ enc x = keyOf (ps.take (k + 1))) := by rw [Hid, take_at hx, keyOf_snoc, HC.out]
        clear hx
        replace x0 := (hbel.cell (p := ⟨g, og + k * 3, none⟩) hg1).trans x0
        replace x1 := (hbel.cell (p := ⟨g, og + k * 3 + 1, none⟩) hg1).trans x1
        replace x2 := (hbel.cell (p := ⟨g, og + k * 3 + 2, none⟩) hg1).trans x2
        have HB1 : Hid (∀ o, Below w.heap.size w (wr.alloc o)) := fun o => hbel.alloc hbel.size _
        have HOK : Hid (okB x = true → ∀ j y, j < k + 1 → ps[j]? = some y → okB y = true) := by
          intro e1 j y hj hy
          by_cases hjk : j < k
          · exact HE.out j y hjk hy
          · obtain rfl : j = k := by omega
            rw [HX.out] at hy
            cases hy
            exact e1
        have HBAD : Hid (okB x = false → keyErr ps = 1 ∧ keyBytes ps = []) := fun e => keyErr_bad (by rw [HN.out]; exact h8) HX.out e
        obtain ⟨t, q, i⟩ := x
        dsimp only at x0 x1 x2 HXS HXN
        obtain ⟨sa, cap, rfl⟩ := form_of_row hown
        cases i with
        | true =>
          cases ht : t.toList.isEmpty with
          | true =>
            have HO : Hid _ := HOK.out (by simp [okB, ht])
            have r00 : RB w (wr.alloc (.cells #[.string t, .int .u64 q, .bool true] 47)) wr.heap.size #[.string t, .int .u64 q, .bool true] (.slice sa cur.length cap) cur := ⟨hown.alloc _, hbel.alloc hbel.size _, block_alloc_at _ _⟩
            obtain ⟨N8, hN8⟩ : ∃ N8 : ByteArray, N8 = ⟨(be8 q).toArray⟩ := ⟨_, rfl⟩
            have hN8s : N8.size = 8 := by rw [hN8, size_mk]; rfl
            have HC24 : Hid (∀ W : World, Calls Tryd.prog 24 #[.int .u64 q, .int .i64 8] W fun r W' => r = .returned (.string N8) ∧ Below W.heap.size W W') := fun W => by rw [hN8]; exact number8 q W HXN.out
            have HN8 : Hid (Lib.strCells N8 = cellsOf (be8 q)) := by rw [Hid, strCells_eq, hN8]
            clear hN8
            have HX2 : Hid (cur ++ [1] ++ be8 q = keyOf (ps.take (k + 1))) := by rw [Hid, ← HNX.out]; simp [enc]
            go_wp2_with fail
            obtain ⟨wb, hwb⟩ : ∃ wb, wr.alloc (.cells #[.string t, .int .u64 q, .bool true] 47) = wb := ⟨_, rfl⟩
            obtain ⟨bx, hbx⟩ : ∃ bx, wr.heap.size = bx := ⟨_, rfl⟩
            rw [hwb, hbx] at r00
            rw [hwb, hbx]
            have cb := r00.cell (j := 1) rfl
            have cb2 : ∀ o, (wb.alloc o).cell? ⟨bx, 1, none⟩ = some (.int .u64 q) := fun o => cell_more o cb
            have z0 := r00.size
            clear x0 x1 x2 hown HB1 hwb hbx hbel
            go_region_law (first
              | (refine step_append_own rfl (.tmp 36) (.tmp 37) 49 rfl w.heap.size 5 i0 (.int .u8 0) 1 1 Tryd.underlying49 hi hz0 hz1 hz2 rfl (by decide) _ _ _ rfl ((r00.alloc _).row) ⟨wb.heap.size, 0, none⟩ 1 1 (cellsOf [1]) rfl rfl (one_cell _ _ _) (cellsOf_one _) (by have := HCL.out; unfold maxLen; omega) (by have := HCL.out; omega) (by simp; omega) ?_; intro v1 w1 hown1 hg1; have r1 := (r00.alloc _).grown (grownBy_undrew hg1) (news := [1]) rfl hown1; obtain ⟨a1, cap1, rfl⟩ := form_of_row hown1; have c1 := r1.cell (j := 1) rfl; clear hown1 hg1)
              | (go_simp; go_wp2_with (go_at_call 24; refine (HC24.out _).mono ?_; rintro e2 w2 ⟨rfl, b2⟩); have r2 := r1.below b2; clear b2)
              | (refine step_append_str rfl (.tmp 38) (.tmp 41) 49 9 rfl w.heap.size 5 i0 Tryd.underlying49 Tryd.underlying9 hi hz0 hz1 hz2 _ _ _ rfl r2.row N8 rfl (by have := HCL.out; rw [hN8s, List.length_append]; unfold maxLen; simp; omega) (by have := HCL.out; rw [hN8s, List.length_append]; simp; omega) r2.size ?_; intro v3 w3 hown3 hg3; rw [HN8.out] at hown3; have r3 := r2.grown hg3 (news := be8 q) hN8s.symm hown3; obtain ⟨a3, cap3, rfl⟩ := form_of_row hown3; clear hown3 hg3))
            all_goals
              have hr3 := r3.row
              have e8 : (cur ++ [(1 : UInt8)] : List UInt8).length + N8.size = cur.length + 1 + 8 := by rw [hN8s]; simp
              rw [e8] at hr3
              have HR3 : Hid _ := hr3
              clear hr3
              have HB3 : Hid _ := r3.bel
              clear r3 r2 r1 c1 cb cb2 r00
              go_wp2_with fail
              go_roundw
              case rel => exact ⟨k + 1, cur ++ [1] ++ be8 q, by omega, by go_num, HO.out, HX2.out, HR3.out, HB3.out⟩
              case measure => simp [intOf]; omega
          | false =>
            have HBD := HBAD.out (by simp [okB, ht])
            go_wp2_with fail
            go_ret2
            rw [HBD.1, HBD.2]
            exact ⟨rfl, HB1.out _⟩
        | false =>
          cases hq : ((q : Int) == 0) with
          | false =>
            have HBD := HBAD.out (by simp at hq; simp [okB, hq])
            go_wp2_with fail
            go_ret2
            rw [HBD.1, HBD.2]
            exact ⟨rfl, HB1.out _⟩
          | true =>
            have HO : Hid _ := HOK.out (by simp at hq; simp [okB, hq])
            have r00 : RB w (wr.alloc (.cells #[.string t, .int .u64 q, .bool false] 47)) wr.heap.size #[.string t, .int .u64 q, .bool false] (.slice sa cur.length cap) cur := ⟨hown.alloc _, hbel.alloc hbel.size _, block_alloc_at _ _⟩
            have HX2 : Hid (cur ++ [2] ++ esc t.data.toList ++ [0] = keyOf (ps.take (k + 1))) := by rw [Hid, ← HNX.out]; simp [enc]
            have HTS : Hid (t.data.toList.length = t.size) := (size_list t).symm
            go_upto_region 11 with fail
            obtain ⟨wb, hwb⟩ : ∃ wb, wr.alloc (.cells #[.string t, .int .u64 q, .bool false] 47) = wb := ⟨_, rfl⟩
            obtain ⟨bx, hbx⟩ : ∃ bx, wr.heap.size = bx := ⟨_, rfl⟩
            rw [hwb, hbx] at r00
            rw [hwb, hbx]
            have z0 := r00.size
            clear x0 x1 x2 hown HB1 hwb hbx hbel hsz
            go_wp2_with (at_builtin; refine wpList_append_own _ rfl (.tmp 43) (.tmp 44) 49 rfl w.heap.size 5 i0 (.int .u8 0) 1 1 Tryd.underlying49 hi hz0 hz1 hz2 rfl (by decide) _ _ _ rfl ((r00.alloc _).row) ⟨wb.heap.size, 0, none⟩ 1 1 (cellsOf [2]) rfl rfl (one_cell _ _ _) (cellsOf_one _) (by have := HCL.out; unfold maxLen; omega) (by have := HCL.out; omega) (by simp; omega) ?_)
            intro v1 w1 hown1 hg1 _
            have r1 := (r00.alloc _).grown hg1 (news := [2]) rfl hown1
            obtain ⟨a1, cap1, rfl⟩ := form_of_row hown1
            clear hown1 hg1 r00
            go_wp2_with fail
            go_loopw [4, 7] (fun v i wr => ∃ j : Nat, ∃ cu, j ≤ t.size ∧ i = .int .i64 j ∧ Hid (cu = cur ++ [2] ++ esc (t.data.toList.take j)) ∧ RB w wr bx #[.string t, .int .u64 q, .bool false] v cu) (fun _ i _ => t.size - (intOf i).toNat)
            case atStart => exact ⟨0, cur ++ [2], by omega, rfl, by simp [Hid, esc], r1⟩
            case round =>
              clear r1
              obtain ⟨j, cu, hj, rfl, HCU, r⟩ := hrel
              obtain ⟨a2, cap2, rfl⟩ := r.form
              have c0 : wr.cell? ⟨bx, 0, none⟩ = some (.string t) := r.cell (j := 0) rfl
              have z1 := r.size
              have HTT : t.size ≤ 1048576 := HXS.out
              have HCL2 : Hid (cu.length ≤ 1073741825 + 2097152) := by
                have h1 := esc_len (t.data.toList.take j)
                rw [List.length_take, HTS.out] at h1
                have := HCL.out
                rw [Hid, HCU.out, List.length_append, List.length_append]
                simp only [List.length_cons, List.length_nil]
                omega
              by_cases hlt : j < t.size
              · obtain ⟨c, hc⟩ : ∃ c, t[j] = c := ⟨_, rfl⟩
                have HE1 : Hid (esc (t.data.toList.take (j + 1)) = esc (t.data.toList.take j) ++ esc [c]) := by rw [Hid, take_snoc t j hlt, esc_append, hc]
                go_wp2_with (at_builtin; refine wpList_append_own _ rfl (.tmp 53) (.tmp 58) 49 rfl w.heap.size 5 i0 (.int .u8 0) 1 1 Tryd.underlying49 hi hz0 hz1 hz2 rfl (by decide) _ _ _ rfl ((r.alloc _).row) ⟨wr.heap.size, 0, none⟩ 1 1 (cellsOf [c]) rfl rfl (one_cell _ _ _) (cellsOf_one _) (by have := HCL2.out; unfold maxLen; omega) (by have := HCL2.out; omega) (by simp; omega) ?_)
                intro v1 w1 hown1 hg1 _
                have r1 := (r.alloc _).grown hg1 (news := [c]) rfl hown1
                obtain ⟨a3, cap3, rfl⟩ := form_of_row hown1
                have c1 : w1.cell? ⟨bx, 0, none⟩ = some (.string t) := r1.cell (j := 0) rfl
                have z2 := r1.size
                clear hown1 hg1 r c0
                by_cases h0 : c = 0
                · have hz : ((c.toNat : Int) == 0) = true := by rw [h0]; rfl
                  have HE2 : Hid (cu ++ [c] ++ [255] = cur ++ [2] ++ esc (t.data.toList.take (j + 1))) := by
                    rw [Hid, HE1.out, HCU.out, h0]; simp [esc]
                  clear h0
                  go_wp2_with (at_builtin; refine wpList_append_own _ rfl (.tmp 65) (.tmp 66) 49 rfl w.heap.size 5 i0 (.int .u8 0) 1 1 Tryd.underlying49 hi hz0 hz1 hz2 rfl (by decide) _ _ _ rfl ((r1.alloc _).row) ⟨w1.heap.size, 0, none⟩ 1 1 (cellsOf [255]) rfl rfl (one_cell _ _ _) (cellsOf_one _) (by have := HCL2.out; rw [List.length_append]; unfold maxLen; simp; omega) (by have := HCL2.out; rw [List.length_append]; simp; omega) (by simp; omega) ?_)
                  intro v4 w4 hown4 hg4 _
                  have r4 := (r1.alloc _).grown hg4 (news := [255]) (m := 1) rfl (by rw [List.length_append]; exact hown4)
                  obtain ⟨a4, cap4, rfl⟩ := form_of_row hown4
                  clear hown4 hg4 r1 c1
                  have R4 : Hid _ := r4
                  clear r4
                  go_wp2_with fail
                  go_roundw
                  case rel => exact ⟨j + 1, cu ++ [c] ++ [255], by omega, by go_num, HE2.out, by first | exact R4.out | (have e := R4.out; rw [List.length_append] at e; exact e)⟩
                  case measure => simp [intOf]; omega
                · have hz : ((c.toNat : Int) == 0) = false := by
                    rw [beq_eq_false_iff_ne]
                    exact fun e => h0 (UInt8.toNat_inj.1 (by simpa using e))
                  have HE2 : Hid (cu ++ [c] = cur ++ [2] ++ esc (t.data.toList.take (j + 1))) := by
                    rw [Hid, HE1.out, HCU.out]; simp [esc, h0]
                  clear h0
                  have R1 : Hid _ := r1
                  clear r1
                  go_wp2_with fail
                  go_roundw
                  case rel => exact ⟨j + 1, cu ++ [c], by omega, by go_num, HE2.out, R1.out⟩
                  case measure => simp [intOf]; omega
              · obtain rfl : j = t.size := by omega
                have HE2 : Hid (cu ++ [0] = keyOf (ps.take (k + 1))) := by
                  rw [Hid, ← HX2.out, HCU.out, List.take_of_length_le (by rw [HTS.out]; exact Nat.le_refl _)]
                go_wp2_with (at_builtin; refine wpList_append_own _ rfl (.tmp 68) (.tmp 69) 49 rfl w.heap.size 5 i0 (.int .u8 0) 1 1 Tryd.underlying49 hi hz0 hz1 hz2 rfl (by decide) _ _ _ rfl ((r.alloc _).row) ⟨wr.heap.size, 0, none⟩ 1 1 (cellsOf [0]) rfl rfl (one_cell _ _ _) (cellsOf_one _) (by have := HCL2.out; unfold maxLen; omega) (by have := HCL2.out; omega) (by simp; omega) ?_)
                intro v1 w1 hown1 hg1 _
                have r1 := (r.alloc _).grown hg1 (news := [0]) rfl hown1
                obtain ⟨a3, cap3, rfl⟩ := form_of_row hown1
                have HR3 : Hid _ := r1.row
                have HB3 : Hid _ := r1.bel
                clear hown1 hg1 r c0 r1
                go_wp2_with fail
                go_roundw
                case rel => exact ⟨k + 1, cu ++ [0], by omega, by go_num, HO.out, HE2.out, HR3.out, HB3.out⟩
                case measure => simp [intOf]; omega
      · obtain rfl : k = n := by omega
        have HALL : Hid (∀ x ∈ ps, okB x = true) := by
          intro x hx
          obtain ⟨j, hj, e⟩ := List.getElem_of_mem hx
          exact HE.out j x (by have := HN.out; omega) (by rw [List.getElem?_eq_getElem hj, e])
        have HK : Hid _ := keyErr_ok (ps := ps) (by rw [HN.out]; exact h8) HALL.out
        have HC2 : Hid (cur = keyOf ps) := by rw [Hid, HC.out, List.take_of_length_le (by rw [HN.out]; exact Nat.le_refl _)]
        obtain ⟨sa, cap, rfl⟩ := form_of_row hown
        have hc := conv_row hown
        go_wp2_with fail
        go_ret2
        rw [HK.out.1, HK.out.2, ← HC2.out]
        exact ⟨rfl, hbel⟩
end Go.Proofs.YtkebddjndljodaaDoor
