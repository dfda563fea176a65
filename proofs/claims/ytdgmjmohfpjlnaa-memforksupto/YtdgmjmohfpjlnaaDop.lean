/-
  does: a cell is put.
-/
import Derived.Test.YtdgmjmohfpjlnaaDos
import Derived.Deep.RegionHeld
import Derived.Test.YtdgmjmohfpjlnaaRpu
namespace Go.Proofs.Ytdgmjmohfpjlnaa
open Go.RowKit Go.Shelf
theorem OB.put {W : World} {x : Nat} {o : OpR} (h : OB W x o) : W.cell? ⟨x, 1, none⟩ = some (.string o.c.key) ∧ W.cell? ⟨x, 2, none⟩ = some (.int .u64 ((o.c.seq : Nat) : Int)) ∧ W.cell? ⟨x, 3, none⟩ = some (.string o.c.val) ∧ W.cell? ⟨x, 4, none⟩ = some (.bool o.c.gone) ∧ W.cell? ⟨x, 6, none⟩ = some (.int .i64 o.n) := by
  obtain ⟨_, h1, h2, h3, h4, _, h6⟩ := h.cells
  exact ⟨h1, h2, h3, h4, h6⟩
/-- Behind the table's Put, ahead of the twin's. -/
structure PA (z : Nat) (w : World) (k : Nat) (t : St) (B g b s0 r : Nat) (ca : Option Addr) (cc : Nat) (ha : Option Addr) (hc : Nat) (c : Cl) (hgt : Int) (W : World) (b' cap' : Nat) : Prop where
  ma : MA B W g b' cap' (putS c hgt t)
  ra : RA s0 W r (t.E.map En.c) (t.E.map En.h) ca cc ha hc
  kg : KG g b r w W
  bb : b' = b ∨ w.heap.size ≤ b'
theorem DP.on {z : Nat} {w : World} {k B g b s0 r : Nat} {W W' : World} (h : DP z w k B g b s0 r W) (q : Below W.heap.size W W') : DP z w k B g b s0 r W' := by
  obtain ⟨t', b', cap', ca', cc', ha', hc', h1, h2, h3⟩ := h
  exact ⟨t', b', cap', ca', cc', ha', hc', h1.below q, h2.trans (KG.of q) (.inl rfl), h3⟩
theorem put_a {z : Nat} {w W W' : World} {k : Nat} {t : St} {B g b cap s0 r : Nat} {ca : Option Addr} {cc : Nat} {ha : Option Addr} {hc : Nat} {c : Cl} {hgt : Int} {b' cap' : Nat} (h : PT z W k t B g b cap s0 r ca cc ha hc ∧ Below w.heap.size w W)
    (m : MA B W' g b' cap' (putS c hgt t)) (q : KM g b W W') (bb : b' = b ∨ W.heap.size ≤ b') : PA z w k t B g b s0 r ca cc ha hc c hgt W' b' cap' :=
  ⟨m, h.1.ra.km h.1.ma q, (KG.of h.2).trans (KG.m r q) (.inl rfl), by have := h.2.size; omega⟩
theorem put_b {z : Nat} {w : World} {k : Nat} {t : St} {B g b cap s0 r : Nat} {ca : Option Addr} {cc : Nat} {ha : Option Addr} {hc : Nat} {c : Cl} {hgt : Int} (h : PT z w k t B g b cap s0 r ca cc ha hc) (hk : k ≤ 2900000) (W : World) (b' cap' : Nat) (a : PA z w k t B g b s0 r ca cc ha hc c hgt W b' cap') :
    Calls Try.prog 32 #[.pointer (some ⟨r, 0, none⟩), clV c, .int .i64 hgt] W fun e w' => e = .returned (.int .i64 ((putR c hgt t : Nat) : Int)) ∧ DP z w k B g b s0 r w' ∧ KM r r W w' := by
  have hl : (t.E.map En.c).length ≤ 3000000 := by rw [List.length_map]; have := h.len; omega
  refine (rput_any s0 r _ _ ca cc ha hc c hgt W a.ra (Nat.le_trans h.sW a.kg.size) hl).mono ?_
  rintro e w' ⟨rfl, q, ca', cc', ha', hc', ra⟩
  refine ⟨by rw [putQ_eq], ⟨_, b', cap', ca', cc', ha', hc', h.put c hgt (Nat.le_trans a.kg.size q.size) (a.ma.kr a.ra q) ra, a.kg.trans (KG.r g b' q) a.bb, a.bb⟩, q⟩
set_option maxRecDepth 100000 in
set_option maxHeartbeats 16000000 in
theorem does_put (z k : Nat) (t : St) (B g b cap s0 r : Nat) (ca : Option Addr) (cc : Nat) (ha : Option Addr) (hc : Nat) (o : OpR) (w : World) (h : PT z w k t B g b cap s0 r ca cc ha hc) (hk : k ≤ 2900000) (h0 : o.k = 0) :
    Calls Try.prog 13 #[.pointer (some ⟨g, 0, none⟩), .pointer (some ⟨r, 0, none⟩), opV o] w fun e w' => e = .returned (.bool true) ∧ DP z w k B g b s0 r w' := by
  have hlen := h.len
  have hlt := h.ma.lt
  have hrl := h.ra.lt
  obtain ⟨ok, ⟨ckey, cseq, cval, cgone⟩, otw, on⟩ := o
  simp only [opV] at *
  subst h0
  obtain ⟨x, hx⟩ : ∃ q, w.heap.size = q := ⟨_, rfl⟩
  obtain ⟨W0, hW0⟩ : ∃ V, w.alloc (.cells #[.int .i64 0, .string ckey, .int .u64 ((cseq : Nat) : Int), .string cval, .bool cgone, .string otw, .int .i64 on] 35) = V := ⟨_, rfl⟩
  have HX : Hid (w.heap.size = x) := hx
  have HB0 : Hid (Below x w W0) := by rw [Hid, ← hW0, ← hx]; exact below_new _ _
  have HO0 : Hid (OB W0 x ⟨0, ⟨ckey, cseq, cval, cgone⟩, otw, on⟩) := by rw [Hid, ← hW0, ← hx]; exact block_alloc_at _ _
  obtain ⟨o0, o1, o2, o3, o4, o5, o6⟩ := HO0.out.cells
  simp only at o0 o1 o2 o3 o4 o5 o6
  have HP : Hid (∀ V, Below x w V → PT z V k t B g b cap s0 r ca cc ha hc) := fun V hV => h.below (by rw [HX.out]; exact hV)
  have HLT : Hid (g < x ∧ b < x ∧ r < x) := by rw [Hid, ← hx]; exact ⟨hlt.1, hlt.2, hrl⟩
  have HK : Hid (k ≤ 2900000 ∧ t.E.length ≤ k) := ⟨hk, hlen⟩
  have HDP : Hid (∀ V, Below x w V → DP z w k B g b s0 r V) := fun V hV => DP.same h (by rw [HX.out]; exact hV)
  rw [← hW0, ← hx] at o0 o1 o2 o3 o4 o5 o6
  have HW0 : Hid _ := hW0
  clear hW0
  have HPX : Hid (PT z W0.drew k t B g b cap s0 r ca cc ha hc ∧ Below w.heap.size w W0.drew) := by
    have q : Below x w W0.drew := HB0.out.drew
    exact ⟨HP.out _ q, by rw [HX.out]; exact q⟩
  have HOX : Hid (OB W0.drew x ⟨0, ⟨ckey, cseq, cval, cgone⟩, otw, on⟩) := HO0.out
  have HPU : Hid (∀ _ : Unit, _) := fun _ => put_any B g b cap t ⟨ckey, cseq, cval, cgone⟩ on W0.drew HPX.out.1.ma (by have := HPX.out.1.nk; omega) HPX.out.1.sz
  have HQU : Hid (∀ W b' cap', PA z w k t B g b s0 r ca cc ha hc ⟨ckey, cseq, cval, cgone⟩ on W b' cap' → _) := fun W b' cap' a => put_b h hk W b' cap' a
  obtain ⟨Q, hQ⟩ : ∃ q, putR ⟨ckey, cseq, cval, cgone⟩ on t = q := ⟨_, rfl⟩
  rw [hQ] at HPU HQU
  have HCK : Hid (∀ W : World, _) := fun W => check_any ⟨ckey, cseq, cval, cgone⟩ W
  have HRK : Hid (∀ W : World, _) := fun W => rcheck_any ⟨ckey, cseq, cval, cgone⟩ W
  obtain ⟨CK, hCK⟩ : ∃ q, chkR ⟨ckey, cseq, cval, cgone⟩ = q := ⟨_, rfl⟩
  rw [hCK] at HCK HRK
  simp only [clV] at HPU HQU HCK HRK
  have HXS : Hid (w.heap.size = x) := hx
  have hS0 := HOX.out.put
  simp only at hS0
  clear h hk hlen hlt hrl hx hQ hCK
  go_enter Try.func13, Try.ntmps13
  go_wp2_with fail
  rw [HW0.out, HX.out]
  clear o0 o1 o2 o3 o4 o5 o6 HW0
  refine wp_region_held_drew (S := fun V => V.cell? ⟨x, 1, none⟩ = some (.string ckey) ∧ V.cell? ⟨x, 2, none⟩ = some (.int .u64 ((cseq : Nat) : Int)) ∧ V.cell? ⟨x, 3, none⟩ = some (.string cval) ∧ V.cell? ⟨x, 4, none⟩ = some (.bool cgone) ∧ V.cell? ⟨x, 6, none⟩ = some (.int .i64 on)) (by kernel_rfl) hS0 (fun hHeld => ?_)
  refine wpAnyH_take (i := 0) (oi := ({ dst := some 15, op := Op.move (Operand.tmp 0), type := 23, pos := "law.go:104", after := #[], guard := none } : Oper)) (v := ?_) rfl (by kernel_rfl) (by kernel_rfl) (by kernel_rfl) (fun _ _ _ h => h) (Or.inl ⟨by rfl, ?_⟩) (by assumption) ?_
  rotate_left
  · (intro w hSw; (try dsimp only at hSw); go_simp; try with_reducible rfl)
  try simp only [Act.put, List.setIfInBounds_toArray, List.set_cons_zero, List.set_cons_succ]
  refine wpAnyH_take (i := 1) (oi := ({ dst := some 16, op := Op.fieldAddr 35 (Operand.tmp 5) 1, type := 0, pos := "law.go:104", after := #[], guard := none } : Oper)) (v := ?_) rfl (by kernel_rfl) (by kernel_rfl) (by kernel_rfl) (fun _ _ _ h => h) (Or.inl ⟨by rfl, ?_⟩) (by assumption) ?_
  rotate_left
  · (intro w hSw; (try dsimp only at hSw); go_simp; try with_reducible rfl)
  try simp only [Act.put, List.setIfInBounds_toArray, List.set_cons_zero, List.set_cons_succ]
  refine wpAnyH_take (i := 2) (oi := ({ dst := some 17, op := Op.load 33 (Operand.tmp 16), type := 33, pos := "law.go:104", after := #[{ on := 1, ground := Ground.data }], guard := none } : Oper)) (v := ?_) rfl (by kernel_rfl) (by kernel_rfl) (by kernel_rfl) (fun _ _ _ h => h) (Or.inl ⟨by rfl, ?_⟩) (by assumption) ?_
  rotate_left
  · (intro w hSw; (try dsimp only at hSw); go_simp; try with_reducible rfl)
  try simp only [Act.put, List.setIfInBounds_toArray, List.set_cons_zero, List.set_cons_succ]
  refine wpAnyH_take (i := 3) (oi := ({ dst := some 18, op := Op.fieldAddr 35 (Operand.tmp 5) 3, type := 0, pos := "law.go:104", after := #[], guard := none } : Oper)) (v := ?_) rfl (by kernel_rfl) (by kernel_rfl) (by kernel_rfl) (fun _ _ _ h => h) (Or.inl ⟨by rfl, ?_⟩) (by assumption) ?_
  rotate_left
  · (intro w hSw; (try dsimp only at hSw); go_simp; try with_reducible rfl)
  try simp only [Act.put, List.setIfInBounds_toArray, List.set_cons_zero, List.set_cons_succ]
  refine wpAnyH_take (i := 4) (oi := ({ dst := some 19, op := Op.load 3 (Operand.tmp 18), type := 3, pos := "law.go:104", after := #[{ on := 3, ground := Ground.data }], guard := none } : Oper)) (v := ?_) rfl (by kernel_rfl) (by kernel_rfl) (by kernel_rfl) (fun _ _ _ h => h) (Or.inl ⟨by rfl, ?_⟩) (by assumption) ?_
  rotate_left
  · (intro w hSw; (try dsimp only at hSw); go_simp; try with_reducible rfl)
  try simp only [Act.put, List.setIfInBounds_toArray, List.set_cons_zero, List.set_cons_succ]
  refine wpAnyH_take (i := 6) (oi := ({ dst := some 21, op := Op.move (Operand.tmp 1), type := 26, pos := "law.go:104", after := #[], guard := none } : Oper)) (v := ?_) rfl (by kernel_rfl) (by kernel_rfl) (by kernel_rfl) (fun _ _ _ h => h) (Or.inl ⟨by rfl, ?_⟩) (by assumption) ?_
  rotate_left
  · (intro w hSw; (try dsimp only at hSw); go_simp; try with_reducible rfl)
  try simp only [Act.put, List.setIfInBounds_toArray, List.set_cons_zero, List.set_cons_succ]
  refine wpAnyH_take (i := 7) (oi := ({ dst := some 22, op := Op.fieldAddr 35 (Operand.tmp 5) 1, type := 0, pos := "law.go:104", after := #[], guard := none } : Oper)) (v := ?_) rfl (by kernel_rfl) (by kernel_rfl) (by kernel_rfl) (fun _ _ _ h => h) (Or.inl ⟨by rfl, ?_⟩) (by assumption) ?_
  rotate_left
  · (intro w hSw; (try dsimp only at hSw); go_simp; try with_reducible rfl)
  try simp only [Act.put, List.setIfInBounds_toArray, List.set_cons_zero, List.set_cons_succ]
  refine wpAnyH_take (i := 8) (oi := ({ dst := some 23, op := Op.load 33 (Operand.tmp 22), type := 33, pos := "law.go:104", after := #[{ on := 7, ground := Ground.data }], guard := none } : Oper)) (v := ?_) rfl (by kernel_rfl) (by kernel_rfl) (by kernel_rfl) (fun _ _ _ h => h) (Or.inl ⟨by rfl, ?_⟩) (by assumption) ?_
  rotate_left
  · (intro w hSw; (try dsimp only at hSw); go_simp; try with_reducible rfl)
  try simp only [Act.put, List.setIfInBounds_toArray, List.set_cons_zero, List.set_cons_succ]
  refine wpAnyH_take (i := 9) (oi := ({ dst := some 24, op := Op.fieldAddr 35 (Operand.tmp 5) 3, type := 0, pos := "law.go:104", after := #[], guard := none } : Oper)) (v := ?_) rfl (by kernel_rfl) (by kernel_rfl) (by kernel_rfl) (fun _ _ _ h => h) (Or.inl ⟨by rfl, ?_⟩) (by assumption) ?_
  rotate_left
  · (intro w hSw; (try dsimp only at hSw); go_simp; try with_reducible rfl)
  try simp only [Act.put, List.setIfInBounds_toArray, List.set_cons_zero, List.set_cons_succ]
  refine wpAnyH_take (i := 10) (oi := ({ dst := some 25, op := Op.load 3 (Operand.tmp 24), type := 3, pos := "law.go:104", after := #[{ on := 9, ground := Ground.data }], guard := none } : Oper)) (v := ?_) rfl (by kernel_rfl) (by kernel_rfl) (by kernel_rfl) (fun _ _ _ h => h) (Or.inl ⟨by rfl, ?_⟩) (by assumption) ?_
  rotate_left
  · (intro w hSw; (try dsimp only at hSw); go_simp; try with_reducible rfl)
  try simp only [Act.put, List.setIfInBounds_toArray, List.set_cons_zero, List.set_cons_succ]
  refine wpAnyH_ready (rs := [5]) (by kernel_rfl) (by simp) ?_
  refine AllReadyH.cons rfl (fun K hK => ?_) AllReadyH.nil
  go_simp
  go_wp2_with (go_at_call 12; refine (HPU.out ()).mono ?_; rintro e w6 ⟨rfl, b', cap', m6, k6, bb6⟩; have HA6 : Hid _ := put_a HPX.out m6 k6 bb6; have HO6 : Hid (OB w6 x ⟨0, ⟨ckey, cseq, cval, cgone⟩, otw, on⟩) := (k6.block x (Array.getElem?_eq_some_iff.1 HOX.out).1 (by have := HLT.out; omega) (by have := HLT.out; omega)).trans HOX.out; have hS6 := HO6.out.put; clear m6 k6 bb6)
  refine hK.out _ _ (by assumption) (fun hHeld => ?_)
  clear hK K
  refine wpAnyH_ready (rs := [11]) (by kernel_rfl) (by simp) ?_
  refine AllReadyH.cons rfl (fun K hK => ?_) AllReadyH.nil
  go_simp
  go_wp2_with (go_at_call 32; refine (HQU.out w6 b' cap' HA6.out).mono ?_; rintro e w7 ⟨rfl, HA7, b7⟩; have HO7 : Hid (OB w7 x ⟨0, ⟨ckey, cseq, cval, cgone⟩, otw, on⟩) := (b7.block x (Array.getElem?_eq_some_iff.1 HO6.out).1 (by have := HLT.out; omega) (by have := HLT.out; omega)).trans HO6.out; have hS7 := HO7.out.put; clear b7)
  refine hK.out _ _ (by assumption) (fun hHeld => ?_)
  clear hK K
  refine wpAnyH_take (i := 12) (oi := ({ dst := some 27, op := Op.binOp BinOp.eql 36 (Operand.tmp 20) (Operand.tmp 26) 36, type := 4, pos := "law.go:104", after := #[{ on := 5, ground := Ground.data }, { on := 11, ground := Ground.data }], guard := none } : Oper)) (v := ?_) rfl (by kernel_rfl) (by kernel_rfl) (by kernel_rfl) (fun _ _ _ h => h) (Or.inl ⟨by rfl, ?_⟩) (by assumption) ?_
  rotate_left
  · (intro w hSw; (try dsimp only at hSw); go_simp; try with_reducible rfl)
  try simp only [Act.put, List.setIfInBounds_toArray, List.set_cons_zero, List.set_cons_succ]
  refine wpAnyH_take (i := 13) (oi := ({ dst := some 28, op := Op.move (Operand.tmp 27), type := 4, pos := "law.go:104", after := #[{ on := 12, ground := Ground.data }, { on := 11, ground := Ground.chain }], guard := none } : Oper)) (v := ?_) rfl (by kernel_rfl) (by kernel_rfl) (by kernel_rfl) (fun _ _ _ h => h) (Or.inl ⟨by rfl, ?_⟩) (by assumption) ?_
  rotate_left
  · (intro w hSw; (try dsimp only at hSw); go_simp; try with_reducible rfl)
  try simp only [Act.put, List.setIfInBounds_toArray, List.set_cons_zero, List.set_cons_succ]
  refine wpAnyH_take (i := 14) (oi := ({ dst := some 29, op := Op.fieldAddr 35 (Operand.tmp 5) 1, type := 0, pos := "law.go:104", after := #[{ on := 13, ground := Ground.guard }], guard := some (13, true) } : Oper)) (v := ?_) rfl (by kernel_rfl) (by kernel_rfl) (by kernel_rfl) (fun _ _ _ h => h) (Or.inl ⟨by rfl, ?_⟩) (by assumption) ?_
  rotate_left
  · (intro w hSw; (try dsimp only at hSw); go_simp; try with_reducible rfl)
  try simp only [Act.put, List.setIfInBounds_toArray, List.set_cons_zero, List.set_cons_succ]
  refine wpAnyH_take (i := 15) (oi := ({ dst := some 30, op := Op.load 33 (Operand.tmp 29), type := 33, pos := "law.go:104", after := #[{ on := 14, ground := Ground.data }, { on := 13, ground := Ground.guard }], guard := some (13, true) } : Oper)) (v := ?_) rfl (by kernel_rfl) (by kernel_rfl) (by kernel_rfl) (fun _ _ _ h => h) (Or.inl ⟨by rfl, ?_⟩) (by assumption) ?_
  rotate_left
  · (intro w hSw; (try dsimp only at hSw); go_simp; try with_reducible rfl)
  try simp only [Act.put, List.setIfInBounds_toArray, List.set_cons_zero, List.set_cons_succ]
  refine wpAnyH_take (i := 17) (oi := ({ dst := some 32, op := Op.fieldAddr 35 (Operand.tmp 5) 1, type := 0, pos := "law.go:104", after := #[{ on := 13, ground := Ground.guard }], guard := some (13, true) } : Oper)) (v := ?_) rfl (by kernel_rfl) (by kernel_rfl) (by kernel_rfl) (fun _ _ _ h => h) (Or.inl ⟨by rfl, ?_⟩) (by assumption) ?_
  rotate_left
  · (intro w hSw; (try dsimp only at hSw); go_simp; try with_reducible rfl)
  try simp only [Act.put, List.setIfInBounds_toArray, List.set_cons_zero, List.set_cons_succ]
  refine wpAnyH_take (i := 18) (oi := ({ dst := some 33, op := Op.load 33 (Operand.tmp 32), type := 33, pos := "law.go:104", after := #[{ on := 17, ground := Ground.data }, { on := 13, ground := Ground.guard }], guard := some (13, true) } : Oper)) (v := ?_) rfl (by kernel_rfl) (by kernel_rfl) (by kernel_rfl) (fun _ _ _ h => h) (Or.inl ⟨by rfl, ?_⟩) (by assumption) ?_
  rotate_left
  · (intro w hSw; (try dsimp only at hSw); go_simp; try with_reducible rfl)
  try simp only [Act.put, List.setIfInBounds_toArray, List.set_cons_zero, List.set_cons_succ]
  refine wpAnyH_ready (rs := [16]) (by kernel_rfl) (by simp) ?_
  refine AllReadyH.cons rfl (fun K hK => ?_) AllReadyH.nil
  go_simp
  go_wp2_with (go_at_call 28; refine (HCK.out w7).mono ?_; rintro e w8 ⟨rfl, b8⟩; have HO8 : Hid (OB w8 x ⟨0, ⟨ckey, cseq, cval, cgone⟩, otw, on⟩) := (b8.block x (Array.getElem?_eq_some_iff.1 HO7.out).1).trans HO7.out; have hS8 := HO8.out.put)
  refine hK.out _ _ (by assumption) (fun hHeld => ?_)
  clear hK K
  refine wpAnyH_ready (rs := [19]) (by kernel_rfl) (by simp) ?_
  refine AllReadyH.cons rfl (fun K hK => ?_) AllReadyH.nil
  go_simp
  go_wp2_with (go_at_call 33; refine (HRK.out w8).mono ?_; rintro e w9 ⟨rfl, b9⟩; have HO9 : Hid (OB w9 x ⟨0, ⟨ckey, cseq, cval, cgone⟩, otw, on⟩) := (b9.block x (Array.getElem?_eq_some_iff.1 HO8.out).1).trans HO8.out; have hS9 := HO9.out.put; have HD9 : Hid (DP z w k B g b s0 r w9) := HA7.on (below_on b8 b9))
  refine hK.out _ _ (by assumption) (fun hHeld => ?_)
  clear hK K
  refine wpAnyH_take (i := 20) (oi := ({ dst := some 35, op := Op.binOp BinOp.eql 36 (Operand.tmp 31) (Operand.tmp 34) 36, type := 4, pos := "law.go:104", after := #[{ on := 16, ground := Ground.data }, { on := 19, ground := Ground.data }, { on := 13, ground := Ground.guard }], guard := some (13, true) } : Oper)) (v := ?_) rfl (by kernel_rfl) (by kernel_rfl) (by kernel_rfl) (fun _ _ _ h => h) (Or.inl ⟨by rfl, ?_⟩) (by assumption) ?_
  rotate_left
  · (intro w hSw; (try dsimp only at hSw); go_simp; try with_reducible rfl)
  try simp only [Act.put, List.setIfInBounds_toArray, List.set_cons_zero, List.set_cons_succ]
  refine wpAnyH_take (i := 21) (oi := ({ dst := some 36, op := Op.pick (Operand.tmp 28) (Operand.tmp 35) (Operand.const (Value.bool false)), type := 4, pos := "law.go:104", after := #[{ on := 13, ground := Ground.data }, { on := 20, ground := Ground.data }], guard := none } : Oper)) (v := ?_) rfl (by kernel_rfl) (by kernel_rfl) (by kernel_rfl) (fun _ _ _ h => h) (Or.inl ⟨by rfl, ?_⟩) (by assumption) ?_
  rotate_left
  · (intro w hSw; (try dsimp only at hSw); go_simp; try with_reducible rfl)
  try simp only [Act.put, List.setIfInBounds_toArray, List.set_cons_zero, List.set_cons_succ]
  refine wpAnyH_take (i := 22) (oi := ({ dst := some 6, op := Op.assign (Operand.tmp 36), type := 4, pos := "law.go:104", after := #[{ on := 21, ground := Ground.data }, { on := 19, ground := Ground.chain }, { on := 0, ground := Ground.phase }, { on := 1, ground := Ground.phase }, { on := 2, ground := Ground.phase }, { on := 3, ground := Ground.phase }, { on := 4, ground := Ground.phase }, { on := 5, ground := Ground.phase }, { on := 6, ground := Ground.phase }, { on := 7, ground := Ground.phase }, { on := 8, ground := Ground.phase }, { on := 9, ground := Ground.phase }, { on := 10, ground := Ground.phase }, { on := 11, ground := Ground.phase }, { on := 12, ground := Ground.phase }, { on := 13, ground := Ground.phase }, { on := 14, ground := Ground.phase }, { on := 15, ground := Ground.phase }, { on := 16, ground := Ground.phase }, { on := 17, ground := Ground.phase }, { on := 18, ground := Ground.phase }, { on := 19, ground := Ground.phase }, { on := 20, ground := Ground.phase }, { on := 21, ground := Ground.phase }], guard := none } : Oper)) (v := ?_) rfl (by kernel_rfl) (by kernel_rfl) (by kernel_rfl) (fun _ _ _ h => h) (Or.inl ⟨by rfl, ?_⟩) (by assumption) ?_
  rotate_left
  · (intro w hSw; (try dsimp only at hSw); go_simp; try with_reducible rfl)
  try simp only [Act.put, List.setIfInBounds_toArray, List.set_cons_zero, List.set_cons_succ]
  refine wpAnyH_done (by kernel_rfl) ?_ _
  go_wp2_with fail
  go_ret
  exact ⟨rfl, HD9.out⟩
end Go.Proofs.Ytdgmjmohfpjlnaa
