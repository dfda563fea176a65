/-
  The twin's Quote.
-/
import Derived.Test.YtcdagmgbfihbdaaDoorRqb
namespace Go.Proofs.YtcdagmgbfihbdaaDoor
open Go.RowKit
theorem conv_row {W : World} {base n : Nat} {bs : List UInt8} {a : Option Addr} {cap : Nat} (hn : bs.length = n) (h : W.ownsRow base 5 1 (.slice a n cap) n (Lib.byteCells bs)) :
    (convert 46 9 (.slice a n cap)).run Tryd.prog W = .ok (.string (bOf bs)) W := by
  subst hn
  rcases h.2 with ⟨hv, hn⟩ | ⟨g, cap', cur, hv, _⟩
  · have hb : bs = [] := List.eq_nil_of_length_eq_zero hn
    subst hb
    simp only [Value.slice.injEq] at hv
    obtain ⟨rfl, _, rfl⟩ := hv
    exact run_convert_bytes_nil W 46 5 Tryd.underlying46 Tryd.underlying5 0 0 9 Tryd.underlying9
  · simp only [Value.slice.injEq] at hv
    obtain ⟨rfl, _, rfl⟩ := hv
    refine run_convert_bytes_back W 46 9 5 _ _ bs Tryd.underlying46 Tryd.underlying5 Tryd.underlying9 (fun j hj => ?_)
    exact h.cells rfl j _ (by simp [Lib.byteCells, hj])
theorem below_drewN {B : Nat} {a w : World} (h : Below B a w) (n : Nat) : Below B a (w.drewN n) := ⟨h.os, h.tape, h.output, h.size, h.block⟩
theorem step_append_own {P : Program} {ops : Array Oper} {o : Oper} {a : Act} {w : World} {K : Act → World → Prop} {Q : Exit → Act → World → Prop} {E : Prop}
    (hg : o.guard = none) (s x : Operand) (t : TypeId) (hop : o.op = Op.call { callee := Callee.builtin Builtin.append, args := #[s, x], argTypes := #[t, t] })
    (base : Nat) (e : TypeId) (i : TypeInfo) (z : Value) (size bytes : Nat) (ht : P.underlying t = some (.slice e)) (hi : P.info? e = some i) (hz : i.zero = some z)
    (hsize : i.size = size) (hby : i.bytes = bytes) (hzs : z.cells.size = size) (hsz : 0 < size)
    (v : Value) (n : Nat) (xs : List Value) (hs : a.eval s = v) (hown : w.ownsRow base e size v n xs)
    (ad : Addr) (m c : Nat) (news : List Value) (hx : a.eval x = .slice (some ad) m c) (hl : news.length = m * size) (hnews : ∀ j u, news[j]? = some u → w.cell? (ad.add j) = some u) (h1 : ∀ u ∈ news, u.oneCell' = true)
    (h63 : n + m ≤ maxLen) (hbytes : (n + m) * bytes ≤ 140737488355328) (hbase : base ≤ w.heap.size)
    (hK : ∀ v' w', w'.ownsRow base e size v' (n + m) (xs ++ news) → w.grownBy w' v.ownBlock → K (a.put o.dst v') w') :
    if Region.wanted o (yielded ops a.tmps) = true then Oper.wp P o a w K Q else E := by
  have hw : Region.wanted o (yielded ops a.tmps) = true := by simp [Region.wanted, hg]
  rw [if_pos hw]
  exact wp_append_own w s x t hop base e i z size bytes ht hi hz hsize hby hzs hsz v n xs hs hown ad m c news hx hl hnews h1 h63 hbytes hbase (fun v' w' h2 h3 _ => hK v' w' h2 h3)
set_option maxRecDepth 100000 in
set_option maxHeartbeats 8000000 in
theorem qquote_any (l : List UInt8) (w : World) (hlen : l.length ≤ 30000000000000) :
    Calls Tryd.prog 12 #[.string (bOf l)] w fun e w' => e = .returned (.string (bOf (quoteL l))) ∧ Below w.heap.size w w' := by
  obtain ⟨i0, hi, hz0, hz1, hz2⟩ := info_parts info5
  obtain ⟨n, hn⟩ : ∃ q, l.length = q := ⟨_, rfl⟩
  have HN : Hid (l.length = n) := hn
  have hsz : (bOf l).size = n := by rw [bOf_size]; exact hn
  have hn3 : n ≤ 30000000000000 := by omega
  have HO0 : Hid ((w.alloc (.cells #[.int .u8 34] 5)).ownsRow w.heap.size 5 1 (.slice (some ⟨w.heap.size, 0, none⟩) 1 1) 1 (Lib.byteCells (34 :: (l.take 0).flatMap qB))) := World.ownsRow_lit w #[.int .u8 34] 1 (Nat.le_refl _) (by decide) rfl
  have HB0 : Hid (Below w.heap.size w (w.alloc (.cells #[.int .u8 34] 5))) := below_new _ _
  clear hn hlen
  go_enter Tryd.func12, Tryd.ntmps12
  go_wp2_with fail
  go_loopw [3, 4] (fun v i wr => ∃ k m : Nat, k ≤ n ∧ i = .int .i64 ((k : Nat) : Int) ∧ m ≤ 4 * k + 1 ∧ Hid ((34 :: (l.take k).flatMap qB).length = m) ∧ Hid (wr.ownsRow w.heap.size 5 1 v m (Lib.byteCells (34 :: (l.take k).flatMap qB))) ∧ Hid (Below w.heap.size w wr)) (fun _ i _ => n - (intOf i).toNat)
  case atStart => exact ⟨0, 1, by omega, rfl, by omega, rfl, HO0.out, HB0.out⟩
  case round =>
    obtain ⟨k, m, hk, rfl, hm, HM, HO, HB⟩ := hrel
    clear HO0 HB0
    by_cases hlt : k < n
    · have hlz : ((k : Nat) : Int) < ((n : Nat) : Int) := by omega
      obtain ⟨c, hc⟩ : ∃ c, l[k]? = some c := ⟨_, List.getElem?_eq_getElem (by rw [HN.out]; exact hlt)⟩
      have r0 := fun W => run_byteB l hc W
      have HTK : Hid (34 :: (l.take (k + 1)).flatMap qB = (34 :: (l.take k).flatMap qB) ++ qB c) := by rw [Hid, List.take_add_one, hc, Option.toList, List.flatMap_append]; simp
      obtain ⟨X, hX⟩ : ∃ X, 34 :: (l.take k).flatMap qB = X := ⟨_, rfl⟩
      obtain ⟨Y, hY⟩ : ∃ Y, 34 :: (l.take (k + 1)).flatMap qB = Y := ⟨_, rfl⟩
      rw [hX, hY] at HTK
      rw [hX] at HM HO
      have HY : Hid _ := hY
      have hxl : c.toNat < 256 := c.toNat_lt
      obtain ⟨x, hx⟩ : ∃ x, c.toNat = x := ⟨_, rfl⟩
      have HX : Hid (c.toNat = x) := hx
      rw [hx] at r0 hxl
      clear hc hX hY
      by_cases h2 : x = 34 ∨ x = 92
      · have HQ : Hid (qB c = [92, c]) := by unfold Hid qB; rw [hx, if_neg (by omega), if_pos h2]
        have hsp : (((x : Nat) : Int) == 34) = true ∨ ((((x : Nat) : Int) == 34) = false ∧ (((x : Nat) : Int) == 92) = true) := by
          rcases h2 with h | h
          · exact .inl (by rw [h]; rfl)
          · exact .inr (by rw [h]; exact ⟨rfl, rfl⟩)
        clear hx h2
        rcases hsp with y1 | ⟨y1, y2⟩
        · skip
          go_wp2_with (
              at_builtin
              refine wpList_append_own _ rfl _ _ 46 rfl w.heap.size 5 i0 (.int .u8 0) 1 1 Tryd.underlying46 hi hz0 hz1 hz2 rfl (by decide) _ m _ rfl (World.ownsRow.alloc HO.out _) ⟨wr.heap.size, 0, none⟩ 2 2 [.int .u8 92, .int .u8 ((x : Nat) : Int)] rfl rfl (new_cells _ [.int .u8 92, .int .u8 ((x : Nat) : Int)] _) (by simp [Value.oneCell']) (by unfold maxLen; omega) (by omega) (by have := HB.out.size; simp; omega) ?_
              intro v2 w2 ho2 hg2 _
              have HML : Hid (Y.length = m + 2) := by rw [Hid, HTK.out, List.length_append, HM.out, HQ.out]; rfl
              have HO2 : Hid (w2.ownsRow w.heap.size 5 1 v2 (m + 2) (Lib.byteCells Y)) := by
                rw [Hid, HTK.out, byteC_app, HQ.out]
                show w2.ownsRow w.heap.size 5 1 v2 (m + 2) (Lib.byteCells X ++ [.int .u8 92, .int .u8 ((c.toNat : Nat) : Int)])
                rw [HX.out]
                exact ho2
              have HB2 : Hid (Below w.heap.size w w2) := (HB.out.alloc HB.out.size _).grown hg2 (by have := HB.out.size; simp; omega) (fun j ej => (World.ownsRow.lt HO.out j ej).1)
              clear ho2 hg2)
          go_roundw
          case rel => exact ⟨k + 1, m + 2, by omega, by go_num, by omega, by rw [HY.out]; exact HML.out, by rw [HY.out]; exact HO2.out, HB2.out⟩
          case measure => simp [intOf]; omega
        · skip
          go_wp2_with (
              at_builtin
              refine wpList_append_own _ rfl _ _ 46 rfl w.heap.size 5 i0 (.int .u8 0) 1 1 Tryd.underlying46 hi hz0 hz1 hz2 rfl (by decide) _ m _ rfl (World.ownsRow.alloc HO.out _) ⟨wr.heap.size, 0, none⟩ 2 2 [.int .u8 92, .int .u8 ((x : Nat) : Int)] rfl rfl (new_cells _ [.int .u8 92, .int .u8 ((x : Nat) : Int)] _) (by simp [Value.oneCell']) (by unfold maxLen; omega) (by omega) (by have := HB.out.size; simp; omega) ?_
              intro v2 w2 ho2 hg2 _
              have HML : Hid (Y.length = m + 2) := by rw [Hid, HTK.out, List.length_append, HM.out, HQ.out]; rfl
              have HO2 : Hid (w2.ownsRow w.heap.size 5 1 v2 (m + 2) (Lib.byteCells Y)) := by
                rw [Hid, HTK.out, byteC_app, HQ.out]
                show w2.ownsRow w.heap.size 5 1 v2 (m + 2) (Lib.byteCells X ++ [.int .u8 92, .int .u8 ((c.toNat : Nat) : Int)])
                rw [HX.out]
                exact ho2
              have HB2 : Hid (Below w.heap.size w w2) := (HB.out.alloc HB.out.size _).grown hg2 (by have := HB.out.size; simp; omega) (fun j ej => (World.ownsRow.lt HO.out j ej).1)
              clear ho2 hg2)
          go_roundw
          case rel => exact ⟨k + 1, m + 2, by omega, by go_num, by omega, by rw [HY.out]; exact HML.out, by rw [HY.out]; exact HO2.out, HB2.out⟩
          case measure => simp [intOf]; omega
      · have y1 : (((x : Nat) : Int) == 34) = false := by simp; omega
        have y2 : (((x : Nat) : Int) == 92) = false := by simp; omega
        by_cases h1 : x < 32 ∨ 126 < x
        · have HQ : Hid (qB c = [92, 120, hexL (x / 16), hexL (x % 16)]) := by unfold Hid qB; rw [hx, if_pos h1]
          obtain ⟨q1, hq1⟩ : ∃ q, x / 16 = q := ⟨_, rfl⟩
          obtain ⟨q2, hq2⟩ : ∃ q, x % 16 = q := ⟨_, rfl⟩
          have e1 : (x : Int).tdiv 16 = (q1 : Int) := by rw [Int.tdiv_eq_ediv_of_nonneg (by omega)]; omega
          have e2 : (x : Int).tmod 16 = (q2 : Int) := by rw [Int.tmod_eq_emod_of_nonneg (by omega)]; omega
          have l1 : q1 < 16 := by omega
          have l2 : q2 < 16 := by omega
          have g1 : IntKind.u8.wrap (q1 : Int) = (q1 : Int) := by rw [IntKind.wrap_u8]; omega
          have g2 : IntKind.u8.wrap (q2 : Int) = (q2 : Int) := by rw [IntKind.wrap_u8]; omega
          rw [hq1, hq2] at HQ
          have r1 := fun W => run_hexL l1 W
          have r2 := fun W => run_hexL l2 W
          have hsplit : (¬ (32 : Int) ≤ (x : Int)) ∨ ((32 : Int) ≤ (x : Int) ∧ ¬ (x : Int) ≤ 126) := by omega
          clear hx h1 hq1 hq2 h2
          rcases hsplit with d1 | ⟨d1, d2⟩
          · skip
            go_wp2_with fail
            refine wp_region_held_drew (S := fun _ => True) (by kernel_rfl) trivial (fun hHeld => ?_)
            refine wpAnyH_take (i := 0) (oi := ({ dst := some 36, op := Op.move (Operand.tmp 3), type := 46, pos := "ref.go:78", after := #[], guard := none } : Oper)) (v := ?_) rfl (by kernel_rfl) (by kernel_rfl) (by kernel_rfl) (fun _ _ _ h => h) (Or.inl ⟨by rfl, ?_⟩) (by assumption) ?_
            rotate_left
            · (intro w hSw; go_simp; try with_reducible rfl)
            try simp only [Act.put, List.setIfInBounds_toArray, List.set_cons_zero, List.set_cons_succ]
            refine wpAnyH_take (i := 1) (oi := ({ dst := some 37, op := Op.move (Operand.tmp 5), type := 5, pos := "ref.go:78", after := #[], guard := none } : Oper)) (v := ?_) rfl (by kernel_rfl) (by kernel_rfl) (by kernel_rfl) (fun _ _ _ h => h) (Or.inl ⟨by rfl, ?_⟩) (by assumption) ?_
            rotate_left
            · (intro w hSw; go_simp; try with_reducible rfl)
            try simp only [Act.put, List.setIfInBounds_toArray, List.set_cons_zero, List.set_cons_succ]
            refine wpAnyH_take (i := 2) (oi := ({ dst := some 38, op := Op.binOp BinOp.quo 5 (Operand.tmp 37) (Operand.const (Value.int IntKind.u8 16)) 5, type := 5, pos := "ref.go:78", after := #[{ on := 1, ground := Ground.data }], guard := none } : Oper)) (v := ?_) rfl (by kernel_rfl) (by kernel_rfl) (by kernel_rfl) (fun _ _ _ h => h) (Or.inl ⟨by rfl, ?_⟩) (by assumption) ?_
            rotate_left
            · (intro w hSw; go_simp; try with_reducible rfl)
            try simp only [Act.put, List.setIfInBounds_toArray, List.set_cons_zero, List.set_cons_succ]
            refine wpAnyH_take (i := 3) (oi := ({ dst := some 39, op := Op.index 9 (Operand.const (Value.string { data := #[48, 49, 50, 51, 52, 53, 54, 55, 56, 57, 97, 98, 99, 100, 101, 102] })) (Operand.tmp 38), type := 5, pos := "ref.go:78", after := #[{ on := 2, ground := Ground.data }], guard := none } : Oper)) (v := ?_) rfl (by kernel_rfl) (by kernel_rfl) (by kernel_rfl) (fun _ _ _ h => h) (Or.inl ⟨by rfl, ?_⟩) (by assumption) ?_
            rotate_left
            · (intro w hSw; go_simp; try with_reducible rfl)
            try simp only [Act.put, List.setIfInBounds_toArray, List.set_cons_zero, List.set_cons_succ]
            refine wpAnyH_take (i := 4) (oi := ({ dst := some 40, op := Op.move (Operand.tmp 5), type := 5, pos := "ref.go:78", after := #[], guard := none } : Oper)) (v := ?_) rfl (by kernel_rfl) (by kernel_rfl) (by kernel_rfl) (fun _ _ _ h => h) (Or.inl ⟨by rfl, ?_⟩) (by assumption) ?_
            rotate_left
            · (intro w hSw; go_simp; try with_reducible rfl)
            try simp only [Act.put, List.setIfInBounds_toArray, List.set_cons_zero, List.set_cons_succ]
            refine wpAnyH_take (i := 5) (oi := ({ dst := some 41, op := Op.binOp BinOp.rem 5 (Operand.tmp 40) (Operand.const (Value.int IntKind.u8 16)) 5, type := 5, pos := "ref.go:78", after := #[{ on := 4, ground := Ground.data }], guard := none } : Oper)) (v := ?_) rfl (by kernel_rfl) (by kernel_rfl) (by kernel_rfl) (fun _ _ _ h => h) (Or.inl ⟨by rfl, ?_⟩) (by assumption) ?_
            rotate_left
            · (intro w hSw; go_simp; try with_reducible rfl)
            try simp only [Act.put, List.setIfInBounds_toArray, List.set_cons_zero, List.set_cons_succ]
            refine wpAnyH_take (i := 6) (oi := ({ dst := some 42, op := Op.index 9 (Operand.const (Value.string { data := #[48, 49, 50, 51, 52, 53, 54, 55, 56, 57, 97, 98, 99, 100, 101, 102] })) (Operand.tmp 41), type := 5, pos := "ref.go:78", after := #[{ on := 5, ground := Ground.data }], guard := none } : Oper)) (v := ?_) rfl (by kernel_rfl) (by kernel_rfl) (by kernel_rfl) (fun _ _ _ h => h) (Or.inl ⟨by rfl, ?_⟩) (by assumption) ?_
            rotate_left
            · (intro w hSw; go_simp; try with_reducible rfl)
            try simp only [Act.put, List.setIfInBounds_toArray, List.set_cons_zero, List.set_cons_succ]
            refine wpAnyH_ready (rs := [7]) (by kernel_rfl) (by simp) ?_
            refine AllReadyH.cons rfl (fun K hK => ?_) AllReadyH.nil
            go_simp
            go_wp2_with fail
            refine hK.out _ _ trivial (fun hHeld => ?_)
            clear hK K
            refine wpAnyH_ready (rs := [8]) (by kernel_rfl) (by simp) ?_
            refine AllReadyH.cons rfl (fun K hK => ?_) AllReadyH.nil
            refine step_append_own rfl (.tmp 36) (.tmp 43) 46 rfl w.heap.size 5 i0 (.int .u8 0) 1 1 Tryd.underlying46 hi hz0 hz1 hz2 rfl (by decide) _ m _ rfl (World.ownsRow.alloc HO.out _) ⟨wr.heap.size, 0, none⟩ 4 4 [.int .u8 92, .int .u8 120, .int .u8 (((hexL q1).toNat : Nat) : Int), .int .u8 (((hexL q2).toNat : Nat) : Int)] rfl rfl (new_cells _ [.int .u8 92, .int .u8 120, .int .u8 (((hexL q1).toNat : Nat) : Int), .int .u8 (((hexL q2).toNat : Nat) : Int)] _) (by simp [Value.oneCell']) (by unfold maxLen; omega) (by omega) (by have := HB.out.size; simp; omega) ?_
            intro v2 w2 ho2 hg2
            have HML : Hid (Y.length = m + 4) := by rw [Hid, HTK.out, List.length_append, HM.out, HQ.out]; rfl
            have HO2 : Hid (w2.ownsRow w.heap.size 5 1 v2 (m + 4) (Lib.byteCells Y)) := by
              rw [Hid, HTK.out, byteC_app, HQ.out]
              show w2.ownsRow w.heap.size 5 1 v2 (m + 4) (Lib.byteCells X ++ [.int .u8 92, .int .u8 120, .int .u8 (((hexL q1).toNat : Nat) : Int), .int .u8 (((hexL q2).toNat : Nat) : Int)])
              exact ho2
            have HB2 : Hid (Below w.heap.size w w2) := (below_drewN (HB.out.alloc HB.out.size _) 1).grown hg2 (by have := HB.out.size; simp; omega) (fun j ej => (World.ownsRow.lt HO.out j ej).1)
            clear ho2 hg2
            refine hK.out _ _ trivial (fun hHeld => ?_)
            clear hK K
            refine wpAnyH_take (i := 9) (oi := ({ dst := some 3, op := Op.assign (Operand.tmp 44), type := 46, pos := "ref.go:78", after := #[{ on := 8, ground := Ground.data }, { on := 8, ground := Ground.chain }, { on := 0, ground := Ground.phase }, { on := 1, ground := Ground.phase }, { on := 2, ground := Ground.phase }, { on := 3, ground := Ground.phase }, { on := 4, ground := Ground.phase }, { on := 5, ground := Ground.phase }, { on := 6, ground := Ground.phase }, { on := 7, ground := Ground.phase }, { on := 8, ground := Ground.phase }], guard := none } : Oper)) (v := ?_) rfl (by kernel_rfl) (by kernel_rfl) (by kernel_rfl) (fun _ _ _ h => h) (Or.inl ⟨by rfl, ?_⟩) (by assumption) ?_
            rotate_left
            · (intro w hSw; go_simp; try with_reducible rfl)
            refine wpAnyH_done (by kernel_rfl) ?_ _
            go_wp2_with fail
            go_roundw
            case rel => exact ⟨k + 1, m + 4, by omega, by go_num, by omega, by rw [HY.out]; exact HML.out, by rw [HY.out]; exact HO2.out, HB2.out⟩
            case measure => simp [intOf]; omega
          · skip
            go_wp2_with fail
            refine wp_region_held_drew (S := fun _ => True) (by kernel_rfl) trivial (fun hHeld => ?_)
            refine wpAnyH_take (i := 0) (oi := ({ dst := some 36, op := Op.move (Operand.tmp 3), type := 46, pos := "ref.go:78", after := #[], guard := none } : Oper)) (v := ?_) rfl (by kernel_rfl) (by kernel_rfl) (by kernel_rfl) (fun _ _ _ h => h) (Or.inl ⟨by rfl, ?_⟩) (by assumption) ?_
            rotate_left
            · (intro w hSw; go_simp; try with_reducible rfl)
            try simp only [Act.put, List.setIfInBounds_toArray, List.set_cons_zero, List.set_cons_succ]
            refine wpAnyH_take (i := 1) (oi := ({ dst := some 37, op := Op.move (Operand.tmp 5), type := 5, pos := "ref.go:78", after := #[], guard := none } : Oper)) (v := ?_) rfl (by kernel_rfl) (by kernel_rfl) (by kernel_rfl) (fun _ _ _ h => h) (Or.inl ⟨by rfl, ?_⟩) (by assumption) ?_
            rotate_left
            · (intro w hSw; go_simp; try with_reducible rfl)
            try simp only [Act.put, List.setIfInBounds_toArray, List.set_cons_zero, List.set_cons_succ]
            refine wpAnyH_take (i := 2) (oi := ({ dst := some 38, op := Op.binOp BinOp.quo 5 (Operand.tmp 37) (Operand.const (Value.int IntKind.u8 16)) 5, type := 5, pos := "ref.go:78", after := #[{ on := 1, ground := Ground.data }], guard := none } : Oper)) (v := ?_) rfl (by kernel_rfl) (by kernel_rfl) (by kernel_rfl) (fun _ _ _ h => h) (Or.inl ⟨by rfl, ?_⟩) (by assumption) ?_
            rotate_left
            · (intro w hSw; go_simp; try with_reducible rfl)
            try simp only [Act.put, List.setIfInBounds_toArray, List.set_cons_zero, List.set_cons_succ]
            refine wpAnyH_take (i := 3) (oi := ({ dst := some 39, op := Op.index 9 (Operand.const (Value.string { data := #[48, 49, 50, 51, 52, 53, 54, 55, 56, 57, 97, 98, 99, 100, 101, 102] })) (Operand.tmp 38), type := 5, pos := "ref.go:78", after := #[{ on := 2, ground := Ground.data }], guard := none } : Oper)) (v := ?_) rfl (by kernel_rfl) (by kernel_rfl) (by kernel_rfl) (fun _ _ _ h => h) (Or.inl ⟨by rfl, ?_⟩) (by assumption) ?_
            rotate_left
            · (intro w hSw; go_simp; try with_reducible rfl)
            try simp only [Act.put, List.setIfInBounds_toArray, List.set_cons_zero, List.set_cons_succ]
            refine wpAnyH_take (i := 4) (oi := ({ dst := some 40, op := Op.move (Operand.tmp 5), type := 5, pos := "ref.go:78", after := #[], guard := none } : Oper)) (v := ?_) rfl (by kernel_rfl) (by kernel_rfl) (by kernel_rfl) (fun _ _ _ h => h) (Or.inl ⟨by rfl, ?_⟩) (by assumption) ?_
            rotate_left
            · (intro w hSw; go_simp; try with_reducible rfl)
            try simp only [Act.put, List.setIfInBounds_toArray, List.set_cons_zero, List.set_cons_succ]
            refine wpAnyH_take (i := 5) (oi := ({ dst := some 41, op := Op.binOp BinOp.rem 5 (Operand.tmp 40) (Operand.const (Value.int IntKind.u8 16)) 5, type := 5, pos := "ref.go:78", after := #[{ on := 4, ground := Ground.data }], guard := none } : Oper)) (v := ?_) rfl (by kernel_rfl) (by kernel_rfl) (by kernel_rfl) (fun _ _ _ h => h) (Or.inl ⟨by rfl, ?_⟩) (by assumption) ?_
            rotate_left
            · (intro w hSw; go_simp; try with_reducible rfl)
            try simp only [Act.put, List.setIfInBounds_toArray, List.set_cons_zero, List.set_cons_succ]
            refine wpAnyH_take (i := 6) (oi := ({ dst := some 42, op := Op.index 9 (Operand.const (Value.string { data := #[48, 49, 50, 51, 52, 53, 54, 55, 56, 57, 97, 98, 99, 100, 101, 102] })) (Operand.tmp 41), type := 5, pos := "ref.go:78", after := #[{ on := 5, ground := Ground.data }], guard := none } : Oper)) (v := ?_) rfl (by kernel_rfl) (by kernel_rfl) (by kernel_rfl) (fun _ _ _ h => h) (Or.inl ⟨by rfl, ?_⟩) (by assumption) ?_
            rotate_left
            · (intro w hSw; go_simp; try with_reducible rfl)
            try simp only [Act.put, List.setIfInBounds_toArray, List.set_cons_zero, List.set_cons_succ]
            refine wpAnyH_ready (rs := [7]) (by kernel_rfl) (by simp) ?_
            refine AllReadyH.cons rfl (fun K hK => ?_) AllReadyH.nil
            go_simp
            go_wp2_with fail
            refine hK.out _ _ trivial (fun hHeld => ?_)
            clear hK K
            refine wpAnyH_ready (rs := [8]) (by kernel_rfl) (by simp) ?_
            refine AllReadyH.cons rfl (fun K hK => ?_) AllReadyH.nil
            refine step_append_own rfl (.tmp 36) (.tmp 43) 46 rfl w.heap.size 5 i0 (.int .u8 0) 1 1 Tryd.underlying46 hi hz0 hz1 hz2 rfl (by decide) _ m _ rfl (World.ownsRow.alloc HO.out _) ⟨wr.heap.size, 0, none⟩ 4 4 [.int .u8 92, .int .u8 120, .int .u8 (((hexL q1).toNat : Nat) : Int), .int .u8 (((hexL q2).toNat : Nat) : Int)] rfl rfl (new_cells _ [.int .u8 92, .int .u8 120, .int .u8 (((hexL q1).toNat : Nat) : Int), .int .u8 (((hexL q2).toNat : Nat) : Int)] _) (by simp [Value.oneCell']) (by unfold maxLen; omega) (by omega) (by have := HB.out.size; simp; omega) ?_
            intro v2 w2 ho2 hg2
            have HML : Hid (Y.length = m + 4) := by rw [Hid, HTK.out, List.length_append, HM.out, HQ.out]; rfl
            have HO2 : Hid (w2.ownsRow w.heap.size 5 1 v2 (m + 4) (Lib.byteCells Y)) := by
              rw [Hid, HTK.out, byteC_app, HQ.out]
              show w2.ownsRow w.heap.size 5 1 v2 (m + 4) (Lib.byteCells X ++ [.int .u8 92, .int .u8 120, .int .u8 (((hexL q1).toNat : Nat) : Int), .int .u8 (((hexL q2).toNat : Nat) : Int)])
              exact ho2
            have HB2 : Hid (Below w.heap.size w w2) := (below_drewN (HB.out.alloc HB.out.size _) 1).grown hg2 (by have := HB.out.size; simp; omega) (fun j ej => (World.ownsRow.lt HO.out j ej).1)
            clear ho2 hg2
            refine hK.out _ _ trivial (fun hHeld => ?_)
            clear hK K
            refine wpAnyH_take (i := 9) (oi := ({ dst := some 3, op := Op.assign (Operand.tmp 44), type := 46, pos := "ref.go:78", after := #[{ on := 8, ground := Ground.data }, { on := 8, ground := Ground.chain }, { on := 0, ground := Ground.phase }, { on := 1, ground := Ground.phase }, { on := 2, ground := Ground.phase }, { on := 3, ground := Ground.phase }, { on := 4, ground := Ground.phase }, { on := 5, ground := Ground.phase }, { on := 6, ground := Ground.phase }, { on := 7, ground := Ground.phase }, { on := 8, ground := Ground.phase }], guard := none } : Oper)) (v := ?_) rfl (by kernel_rfl) (by kernel_rfl) (by kernel_rfl) (fun _ _ _ h => h) (Or.inl ⟨by rfl, ?_⟩) (by assumption) ?_
            rotate_left
            · (intro w hSw; go_simp; try with_reducible rfl)
            refine wpAnyH_done (by kernel_rfl) ?_ _
            go_wp2_with fail
            go_roundw
            case rel => exact ⟨k + 1, m + 4, by omega, by go_num, by omega, by rw [HY.out]; exact HML.out, by rw [HY.out]; exact HO2.out, HB2.out⟩
            case measure => simp [intOf]; omega
        · have HQ : Hid (qB c = [c]) := by unfold Hid qB; rw [hx, if_neg h1, if_neg h2]
          have d1 : (32 : Int) ≤ (x : Int) := by omega
          have d2 : (x : Int) ≤ 126 := by omega
          clear hx h1 h2
          go_wp2_with (
              at_builtin
              refine wpList_append_own _ rfl _ _ 46 rfl w.heap.size 5 i0 (.int .u8 0) 1 1 Tryd.underlying46 hi hz0 hz1 hz2 rfl (by decide) _ m _ rfl (World.ownsRow.alloc HO.out _) ⟨wr.heap.size, 0, none⟩ 1 1 [.int .u8 ((x : Nat) : Int)] rfl rfl (new_cells _ [.int .u8 ((x : Nat) : Int)] _) (by simp [Value.oneCell']) (by unfold maxLen; omega) (by omega) (by have := HB.out.size; simp; omega) ?_
              intro v2 w2 ho2 hg2 _
              have HML : Hid (Y.length = m + 1) := by rw [Hid, HTK.out, List.length_append, HM.out, HQ.out]; rfl
              have HO2 : Hid (w2.ownsRow w.heap.size 5 1 v2 (m + 1) (Lib.byteCells Y)) := by
                rw [Hid, HTK.out, byteC_app, HQ.out]
                show w2.ownsRow w.heap.size 5 1 v2 (m + 1) (Lib.byteCells X ++ [.int .u8 ((c.toNat : Nat) : Int)])
                rw [HX.out]
                exact ho2
              have HB2 : Hid (Below w.heap.size w w2) := (HB.out.alloc HB.out.size _).grown hg2 (by have := HB.out.size; simp; omega) (fun j ej => (World.ownsRow.lt HO.out j ej).1)
              clear ho2 hg2)
          go_roundw
          case rel => exact ⟨k + 1, m + 1, by omega, by go_num, by omega, by rw [HY.out]; exact HML.out, by rw [HY.out]; exact HO2.out, HB2.out⟩
          case measure => simp [intOf]; omega
    · obtain rfl : k = n := by omega
      have hlz : ¬ ((k : Nat) : Int) < ((k : Nat) : Int) := by omega
      have HQL : Hid (quoteL l = (34 :: (l.take k).flatMap qB) ++ [34]) := by rw [Hid, ← HN.out, List.take_length]; rfl
      obtain ⟨X, hX⟩ : ∃ X, 34 :: (l.take k).flatMap qB = X := ⟨_, rfl⟩
      rw [hX] at HM HO HQL
      clear hX
      go_wp2_with (
          at_builtin
          refine wpList_append_own _ rfl _ _ 46 rfl w.heap.size 5 i0 (.int .u8 0) 1 1 Tryd.underlying46 hi hz0 hz1 hz2 rfl (by decide) _ m _ rfl (World.ownsRow.alloc HO.out _) ⟨wr.heap.size, 0, none⟩ 1 1 [.int .u8 34] rfl rfl (new_cells _ [.int .u8 34] _) (by simp [Value.oneCell']) (by unfold maxLen; omega) (by omega) (by have := HB.out.size; simp; omega) ?_
          intro v2 w2 ho2 hg2 _
          have HB2 : Hid (Below w.heap.size w w2) := (HB.out.alloc HB.out.size _).grown hg2 (by have := HB.out.size; simp; omega) (fun j ej => (World.ownsRow.lt HO.out j ej).1)
          have ho3 : w2.ownsRow w.heap.size 5 1 v2 (m + 1) (Lib.byteCells (quoteL l)) := by rw [HQL.out, byteC_app]; exact ho2
          obtain ⟨a2, k2, rfl⟩ := row_form ho3
          have hcv := conv_row (by rw [HQL.out, List.length_append, HM.out]; rfl) ho3
          clear ho2 hg2 ho3)
      go_ret
      exact ⟨rfl, HB2.out⟩
end Go.Proofs.YtcdagmgbfihbdaaDoor
