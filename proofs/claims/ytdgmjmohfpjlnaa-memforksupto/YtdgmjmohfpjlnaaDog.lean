/-
  does: a lookup.
-/
import Derived.Test.YtdgmjmohfpjlnaaDos
import Derived.Deep.RegionHeld
import Derived.Test.YtdgmjmohfpjlnaaRpu
namespace Go.Proofs.Ytdgmjmohfpjlnaa
open Go.RowKit Go.Shelf
set_option maxRecDepth 100000 in
set_option maxHeartbeats 16000000 in
theorem does_get (z k : Nat) (t : St) (B g b cap s0 r : Nat) (ca : Option Addr) (cc : Nat) (ha : Option Addr) (hc : Nat) (o : OpR) (w : World) (h : PT z w k t B g b cap s0 r ca cc ha hc) (hk : k ≤ 2900000) (h0 : o.k = 1) :
    Calls Try.prog 13 #[.pointer (some ⟨g, 0, none⟩), .pointer (some ⟨r, 0, none⟩), opV o] w fun e w' => e = .returned (.bool true) ∧ DP z w k B g b s0 r w' := by
  have hlen := h.len
  have hlt := h.ma.lt
  have hrl := h.ra.lt
  obtain ⟨ok, ⟨ckey, cseq, cval, cgone⟩, otw, on⟩ := o
  simp only [opV] at *
  subst h0
  obtain ⟨x, hx⟩ : ∃ q, w.heap.size = q := ⟨_, rfl⟩
  obtain ⟨W0, hW0⟩ : ∃ V, w.alloc (.cells #[.int .i64 1, .string ckey, .int .u64 ((cseq : Nat) : Int), .string cval, .bool cgone, .string otw, .int .i64 on] 35) = V := ⟨_, rfl⟩
  have HX : Hid (w.heap.size = x) := hx
  have HB0 : Hid (Below x w W0) := by rw [Hid, ← hW0, ← hx]; exact below_new _ _
  have HO0 : Hid (OB W0 x ⟨1, ⟨ckey, cseq, cval, cgone⟩, otw, on⟩) := by rw [Hid, ← hW0, ← hx]; exact block_alloc_at _ _
  obtain ⟨o0, o1, o2, o3, o4, o5, o6⟩ := HO0.out.cells
  simp only at o0 o1 o2 o3 o4 o5 o6
  have HP : Hid (∀ V, Below x w V → PT z V k t B g b cap s0 r ca cc ha hc) := fun V hV => h.below (by rw [HX.out]; exact hV)
  have HLT : Hid (g < x ∧ b < x ∧ r < x) := by rw [Hid, ← hx]; exact ⟨hlt.1, hlt.2, hrl⟩
  have HK : Hid (k ≤ 2900000 ∧ t.E.length ≤ k) := ⟨hk, hlen⟩
  have HDP : Hid (∀ V, Below x w V → DP z w k B g b s0 r V) := fun V hV => DP.same h (by rw [HX.out]; exact hV)
  rw [← hW0, ← hx] at o0 o1 o2 o3 o4 o5 o6
  have HW0 : Hid _ := hW0
  clear hW0
  obtain ⟨rc, fd, hrc⟩ : ∃ rc fd, getV (getE ckey cseq t.E) = .tuple #[clV rc, .bool fd] := by
    cases getE ckey cseq t.E with
    | none => exact ⟨cl0, false, rfl⟩
    | some c => exact ⟨c, true, rfl⟩
  obtain ⟨N, hN⟩ : ∃ q, (t.E.map En.c).length = q := ⟨_, rfl⟩
  have HN : Hid ((t.E.map En.c).length = N ∧ N ≤ 3000000) := ⟨hN, by rw [← hN, List.length_map]; omega⟩
  have HGE : Hid (∀ _ : Unit, Calls Try.prog 16 #[.pointer (some ⟨g, 0, none⟩), .string ckey, .int .u64 ((cseq : Nat) : Int)] W0 fun e w' => e = .returned (.tuple #[clV rc, .bool fd]) ∧ Below W0.heap.size W0 w') := fun _ => by
    rw [← hrc]
    exact get_any B g b cap t ckey cseq W0 (HP.out _ HB0.out).ma
  have HNX : Hid (∀ V, Below x w V → Calls Try.prog 34 #[.slice ca N cc, .string ckey, .int .u64 ((cseq : Nat) : Int)] V fun e w' => e = .returned (.tuple #[clV rc, .bool fd]) ∧ Below V.heap.size V w') := fun V hV => by
    rw [← hrc, ← (HP.out V hV).newest]
    exact newest_any ca N cc _ ckey cseq V (HP.out V hV).ra.ca.2 hN (by have := HN.out; omega)
  simp only [clV] at HGE HNX
  clear h hk hlen hlt hrl hx hrc hN
  go_enter Try.func13, Try.ntmps13
  go_wp2_with fail
  rw [HW0.out]
  clear o0 o1 o2 o3 o4 o5 o6 HW0
  refine (HGE.out ()).mono ?_
  rintro e w5 ⟨rfl, b5⟩
  have HB5 : Hid (Below x w w5) := HB0.out.trans (b5.mono (le_s HX.out HB0.out))
  have HOB : Hid (∀ V, Below W0.heap.size W0 V → OB V x ⟨1, ⟨ckey, cseq, cval, cgone⟩, otw, on⟩) := fun V hV => (hV.block x (Array.getElem?_eq_some_iff.1 HO0.out).1).trans HO0.out
  have HB50 : Hid (Below W0.heap.size W0 w5) := b5
  clear b5 HGE
  obtain ⟨x7, hx7⟩ : ∃ q, w5.heap.size = q := ⟨_, rfl⟩
  obtain ⟨V7, hV7⟩ : ∃ V, w5.alloc (.cells #[.string rc.key, .int .u64 ((rc.seq : Nat) : Int), .string rc.val, .bool rc.gone] 33) = V := ⟨_, rfl⟩
  have HB7 : Hid (Below x w V7) := by rw [Hid, ← hV7]; exact HB5.out.alloc (le_s HX.out HB5.out) _
  have HB70 : Hid (Below W0.heap.size W0 V7) := by rw [Hid, ← hV7]; exact HB50.out.alloc HB50.out.size _
  have HCV : Hid (CB V7 x7 rc) := by rw [Hid, ← hV7, ← hx7]; exact block_alloc_at _ _
  have HV7 : Hid _ := hV7
  have HX7 : Hid _ := hx7
  clear hV7 hx7
  go_wp2_with fail
  rw [HV7.out, HX7.out, HX.out]
  obtain ⟨y, hy⟩ : ∃ q, V7.heap.size = q := ⟨_, rfl⟩
  have HYY : Hid (V7.heap.size = y) := hy
  have HXY : Hid (x ≤ y) := by rw [Hid, ← hy]; exact le_s HX.out HB7.out
  have HZ0 : Hid (W0.heap.size ≤ y) := by rw [Hid, ← hy]; exact HB70.out.size
  have HON : Hid (∀ V, Below y V7 V → Below x w V) := fun V hV => HB7.out.trans (hV.mono HXY.out)
  have HNW : Hid (∀ V, Below y V7 V → _) := fun V hV => HNX.out V (HON.out V hV)
  have HC7 : Hid (∀ V, Below y V7 V → _) := fun V hV => CB.cells (HCV.out.below (W' := V) (by rw [HYY.out]; exact hV))
  have HSG : Hid (∀ V, Below y V7 V → V.cell? ⟨r, 0, none⟩ = some (.slice ca N cc) ∧ V.cell? ⟨x, 1, none⟩ = some (.string ckey) ∧ V.cell? ⟨x, 2, none⟩ = some (.int .u64 ((cseq : Nat) : Int))) := fun V hV => by
    have hb := HON.out V hV
    have h1 := (HP.out V hb).ra.f0.1
    rw [HN.out.1] at h1
    have ho := HOB.out V (HB70.out.trans (hV.mono HZ0.out))
    obtain ⟨_, q1, q2, _⟩ := ho.cells
    exact ⟨h1, q1, q2⟩
  have bX0 : Below y V7 V7.drew := (Below.refl _ _).drew
  clear HV7 HX7 HNX hy
  obtain ⟨X0, hX0⟩ : ∃ q, V7.drew = q := ⟨_, rfl⟩
  refine wp_region_held_drew (S := fun V => V.cell? ⟨r, 0, none⟩ = some (.slice ca N cc) ∧ V.cell? ⟨x, 1, none⟩ = some (.string ckey) ∧ V.cell? ⟨x, 2, none⟩ = some (.int .u64 ((cseq : Nat) : Int))) (by kernel_rfl) (HSG.out _ bX0) (fun hHeld => ?_)
  rw [hX0] at bX0 hHeld ⊢
  clear hX0
  refine wpAnyH_take (i := 0) (oi := ({ dst := some 51, op := Op.move (Operand.tmp 1), type := 26, pos := "law.go:107", after := #[], guard := none } : Oper)) (v := ?_) rfl (by kernel_rfl) (by kernel_rfl) (by kernel_rfl) (fun _ _ _ h => h) (Or.inl ⟨by rfl, ?_⟩) (by assumption) ?_
  rotate_left
  · (intro w hSw; (try dsimp only at hSw); go_simp; try with_reducible rfl)
  try simp only [Act.put, List.setIfInBounds_toArray, List.set_cons_zero, List.set_cons_succ]
  refine wpAnyH_take (i := 1) (oi := ({ dst := some 52, op := Op.nilCheck (Operand.tmp 51), type := 0, pos := "law.go:107", after := #[{ on := 0, ground := Ground.data }], guard := none } : Oper)) (v := ?_) rfl (by kernel_rfl) (by kernel_rfl) (by kernel_rfl) (fun _ _ _ h => h) (Or.inl ⟨by rfl, ?_⟩) (by assumption) ?_
  rotate_left
  · (intro w hSw; (try dsimp only at hSw); go_simp; try with_reducible rfl)
  try simp only [Act.put, List.setIfInBounds_toArray, List.set_cons_zero, List.set_cons_succ]
  refine wpAnyH_take (i := 2) (oi := ({ dst := some 53, op := Op.fieldAddr 30 (Operand.tmp 52) 0, type := 0, pos := "law.go:107", after := #[{ on := 1, ground := Ground.data }], guard := none } : Oper)) (v := ?_) rfl (by kernel_rfl) (by kernel_rfl) (by kernel_rfl) (fun _ _ _ h => h) (Or.inl ⟨by rfl, ?_⟩) (by assumption) ?_
  rotate_left
  · (intro w hSw; (try dsimp only at hSw); go_simp; try with_reducible rfl)
  try simp only [Act.put, List.setIfInBounds_toArray, List.set_cons_zero, List.set_cons_succ]
  refine wpAnyH_take (i := 3) (oi := ({ dst := some 54, op := Op.load 27 (Operand.tmp 53), type := 27, pos := "law.go:107", after := #[{ on := 2, ground := Ground.data }], guard := none } : Oper)) (v := ?_) rfl (by kernel_rfl) (by kernel_rfl) (by kernel_rfl) (fun _ _ _ h => h) (Or.inl ⟨by rfl, ?_⟩) (by assumption) ?_
  rotate_left
  · (intro w hSw; (try dsimp only at hSw); go_simp; try with_reducible rfl)
  try simp only [Act.put, List.setIfInBounds_toArray, List.set_cons_zero, List.set_cons_succ]
  refine wpAnyH_take (i := 4) (oi := ({ dst := some 55, op := Op.fieldAddr 35 (Operand.tmp 5) 1, type := 0, pos := "law.go:107", after := #[], guard := none } : Oper)) (v := ?_) rfl (by kernel_rfl) (by kernel_rfl) (by kernel_rfl) (fun _ _ _ h => h) (Or.inl ⟨by rfl, ?_⟩) (by assumption) ?_
  rotate_left
  · (intro w hSw; (try dsimp only at hSw); go_simp; try with_reducible rfl)
  try simp only [Act.put, List.setIfInBounds_toArray, List.set_cons_zero, List.set_cons_succ]
  refine wpAnyH_take (i := 5) (oi := ({ dst := some 56, op := Op.fieldAddr 33 (Operand.tmp 55) 0, type := 0, pos := "law.go:107", after := #[{ on := 4, ground := Ground.data }], guard := none } : Oper)) (v := ?_) rfl (by kernel_rfl) (by kernel_rfl) (by kernel_rfl) (fun _ _ _ h => h) (Or.inl ⟨by rfl, ?_⟩) (by assumption) ?_
  rotate_left
  · (intro w hSw; (try dsimp only at hSw); go_simp; try with_reducible rfl)
  try simp only [Act.put, List.setIfInBounds_toArray, List.set_cons_zero, List.set_cons_succ]
  refine wpAnyH_take (i := 6) (oi := ({ dst := some 57, op := Op.load 9 (Operand.tmp 56), type := 9, pos := "law.go:107", after := #[{ on := 5, ground := Ground.data }], guard := none } : Oper)) (v := ?_) rfl (by kernel_rfl) (by kernel_rfl) (by kernel_rfl) (fun _ _ _ h => h) (Or.inl ⟨by rfl, ?_⟩) (by assumption) ?_
  rotate_left
  · (intro w hSw; (try dsimp only at hSw); go_simp; try with_reducible rfl)
  try simp only [Act.put, List.setIfInBounds_toArray, List.set_cons_zero, List.set_cons_succ]
  refine wpAnyH_take (i := 7) (oi := ({ dst := some 58, op := Op.fieldAddr 35 (Operand.tmp 5) 1, type := 0, pos := "law.go:107", after := #[], guard := none } : Oper)) (v := ?_) rfl (by kernel_rfl) (by kernel_rfl) (by kernel_rfl) (fun _ _ _ h => h) (Or.inl ⟨by rfl, ?_⟩) (by assumption) ?_
  rotate_left
  · (intro w hSw; (try dsimp only at hSw); go_simp; try with_reducible rfl)
  try simp only [Act.put, List.setIfInBounds_toArray, List.set_cons_zero, List.set_cons_succ]
  refine wpAnyH_take (i := 8) (oi := ({ dst := some 59, op := Op.fieldAddr 33 (Operand.tmp 58) 1, type := 0, pos := "law.go:107", after := #[{ on := 7, ground := Ground.data }], guard := none } : Oper)) (v := ?_) rfl (by kernel_rfl) (by kernel_rfl) (by kernel_rfl) (fun _ _ _ h => h) (Or.inl ⟨by rfl, ?_⟩) (by assumption) ?_
  rotate_left
  · (intro w hSw; (try dsimp only at hSw); go_simp; try with_reducible rfl)
  try simp only [Act.put, List.setIfInBounds_toArray, List.set_cons_zero, List.set_cons_succ]
  refine wpAnyH_take (i := 9) (oi := ({ dst := some 60, op := Op.load 31 (Operand.tmp 59), type := 31, pos := "law.go:107", after := #[{ on := 8, ground := Ground.data }], guard := none } : Oper)) (v := ?_) rfl (by kernel_rfl) (by kernel_rfl) (by kernel_rfl) (fun _ _ _ h => h) (Or.inl ⟨by rfl, ?_⟩) (by assumption) ?_
  rotate_left
  · (intro w hSw; (try dsimp only at hSw); go_simp; try with_reducible rfl)
  try simp only [Act.put, List.setIfInBounds_toArray, List.set_cons_zero, List.set_cons_succ]
  refine wpAnyH_ready (rs := [10, 14]) (by kernel_rfl) (by simp) ?_
  refine AllReadyH.cons rfl (fun K hK => ?_) ?_
  ·
    go_simp
    go_wp2_with (go_at_call 34; refine (HNW.out _ bX0).mono ?_; rintro e X1 ⟨rfl, bn⟩; have bX1 : Below y V7 X1 := bX0.trans (bn.mono (le_s HYY.out bX0)); have hSX1 := HSG.out _ bX1; clear bn)
    refine hK.out _ _ (by assumption) (fun hHeld => ?_)
    clear hK K
    refine wpAnyH_take (i := 11) (oi := ({ dst := some 50, op := Op.move (Operand.tmp 61), type := 43, pos := "law.go:107", after := #[{ on := 10, ground := Ground.data }], guard := none } : Oper)) (v := ?_) rfl (by kernel_rfl) (by kernel_rfl) (by kernel_rfl) (fun _ _ _ h => h) (Or.inl ⟨by rfl, ?_⟩) (by assumption) ?_
    rotate_left
    · (intro w hSw; (try dsimp only at hSw); go_simp; try with_reducible rfl)
    try simp only [Act.put, List.setIfInBounds_toArray, List.set_cons_zero, List.set_cons_succ]
    refine wpAnyH_take (i := 12) (oi := ({ dst := some 62, op := Op.extract (Operand.tmp 50) 0, type := 33, pos := "law.go:107", after := #[{ on := 11, ground := Ground.data }], guard := none } : Oper)) (v := ?_) rfl (by kernel_rfl) (by kernel_rfl) (by kernel_rfl) (fun _ _ _ h => h) (Or.inl ⟨by rfl, ?_⟩) (by assumption) ?_
    rotate_left
    · (intro w hSw; (try dsimp only at hSw); go_simp; try with_reducible rfl)
    try simp only [Act.put, List.setIfInBounds_toArray, List.set_cons_zero, List.set_cons_succ]
    refine wpAnyH_take (i := 13) (oi := ({ dst := some 63, op := Op.extract (Operand.tmp 50) 1, type := 4, pos := "law.go:107", after := #[{ on := 11, ground := Ground.data }, { on := 15, ground := Ground.gcOnly Departure.lateStores }], guard := none } : Oper)) (v := ?_) rfl (by kernel_rfl) (by kernel_rfl) (by kernel_rfl) (fun _ _ _ h => h) (Or.inl ⟨by rfl, ?_⟩) (by assumption) ?_
    rotate_left
    · (intro w hSw; (try dsimp only at hSw); go_simp; try with_reducible rfl)
    try simp only [Act.put, List.setIfInBounds_toArray, List.set_cons_zero, List.set_cons_succ]
    refine wpAnyH_ready (rs := [14]) (by kernel_rfl) (by simp) ?_
    refine AllReadyH.cons rfl (fun K hK => ?_) AllReadyH.nil
    go_simp
    obtain ⟨x9, hx9⟩ : ∃ q, X1.heap.size = q := ⟨_, rfl⟩
    obtain ⟨X2, hX2⟩ : ∃ V, X1.alloc (.cells #[.string ⟨#[]⟩, .int .u64 0, .string ⟨#[]⟩, .bool false] 33) = V := ⟨_, rfl⟩
    have bX2 : Below y V7 X2 := by rw [← hX2]; exact bX1.alloc (le_s HYY.out bX1) _
    have HCX2 : Hid (CB X2 x9 cl0) := by rw [Hid, ← hX2, ← hx9]; exact block_alloc_at _ _
    have HX9 : Hid (y ≤ x9) := by rw [Hid, ← hx9]; exact le_s HYY.out bX1
    have hSX2 := HSG.out _ bX2
    rw [hX2, hx9]
    clear hX2 hx9
    refine hK.out _ _ (by assumption) (fun hHeld => ?_)
    clear hK K
    refine wpAnyH_ready (rs := [15]) (by kernel_rfl) (by simp) ?_
    refine AllReadyH.cons rfl (fun K hK => ?_) AllReadyH.nil
    obtain ⟨i0, i1, i2, i3⟩ := CB.cells HCX2.out
    obtain ⟨g0, g1, g2, g3⟩ := CB.free HCX2.out
    go_simp
    obtain ⟨X3, hX3⟩ : ∃ V, set4 X2 x9 rc = V := ⟨_, rfl⟩
    have HCX3 : Hid (CB X3 x9 rc) := by rw [Hid, ← hX3]; exact CB.set HCX2.out rc
    have bX3 : Below y V7 X3 := by rw [← hX3]; exact set4_below bX2 HX9.out rc
    have hSX3 := HSG.out _ bX3
    unfold set4 at hX3
    rw [hX3]
    clear hX3 i0 i1 i2 i3 g0 g1 g2 g3
    refine hK.out _ _ (by assumption) (fun hHeld => ?_)
    clear hK K
    refine wpAnyH_take (i := 16) (oi := ({ dst := some 10, op := Op.assign (Operand.tmp 63), type := 4, pos := "law.go:107", after := #[{ on := 13, ground := Ground.data }, { on := 15, ground := Ground.chain }, { on := 0, ground := Ground.phase }, { on := 1, ground := Ground.phase }, { on := 2, ground := Ground.phase }, { on := 3, ground := Ground.phase }, { on := 4, ground := Ground.phase }, { on := 5, ground := Ground.phase }, { on := 6, ground := Ground.phase }, { on := 7, ground := Ground.phase }, { on := 8, ground := Ground.phase }, { on := 9, ground := Ground.phase }, { on := 10, ground := Ground.phase }, { on := 11, ground := Ground.phase }, { on := 12, ground := Ground.phase }, { on := 13, ground := Ground.phase }, { on := 14, ground := Ground.phase }, { on := 15, ground := Ground.phase }], guard := none } : Oper)) (v := ?_) rfl (by kernel_rfl) (by kernel_rfl) (by kernel_rfl) (fun _ _ _ h => h) (Or.inl ⟨by rfl, ?_⟩) (by assumption) ?_
    rotate_left
    · (intro w hSw; (try dsimp only at hSw); go_simp; try with_reducible rfl)
    try simp only [Act.put, List.setIfInBounds_toArray, List.set_cons_zero, List.set_cons_succ]
    refine wpAnyH_done (by kernel_rfl) ?_ _
    obtain ⟨i0, i1, i2, i3⟩ := CB.cells HCX3.out
    obtain ⟨j0, j1, j2, j3⟩ := HC7.out _ bX3
    go_wp2_with fail
    go_ret
    exact ⟨rfl, HDP.out _ (HB7.out.trans (bX3.mono HXY.out))⟩
  refine AllReadyH.cons rfl (fun K hK => ?_) AllReadyH.nil
  go_simp
  obtain ⟨x9, hx9⟩ : ∃ q, X0.heap.size = q := ⟨_, rfl⟩
  obtain ⟨X1, hX1⟩ : ∃ V, X0.alloc (.cells #[.string ⟨#[]⟩, .int .u64 0, .string ⟨#[]⟩, .bool false] 33) = V := ⟨_, rfl⟩
  have bX1 : Below y V7 X1 := by rw [← hX1]; exact bX0.alloc (le_s HYY.out bX0) _
  have HCX1 : Hid (CB X1 x9 cl0) := by rw [Hid, ← hX1, ← hx9]; exact block_alloc_at _ _
  have HX9 : Hid (y ≤ x9) := by rw [Hid, ← hx9]; exact le_s HYY.out bX0
  have hSX1 := HSG.out _ bX1
  rw [hX1, hx9]
  clear hX1 hx9
  refine hK.out _ _ (by assumption) (fun hHeld => ?_)
  clear hK K
  refine wpAnyH_ready (rs := [10]) (by kernel_rfl) (by simp) ?_
  refine AllReadyH.cons rfl (fun K hK => ?_) AllReadyH.nil
  go_simp
  go_wp2_with (go_at_call 34; refine (HNW.out _ bX1).mono ?_; rintro e X2 ⟨rfl, bn⟩; have bX2 : Below y V7 X2 := bX1.trans (bn.mono (le_s HYY.out bX1)); have hSX2 := HSG.out _ bX2; have HCX2 : Hid (CB X2 x9 cl0) := HCX1.out.below bn; clear bn)
  refine hK.out _ _ (by assumption) (fun hHeld => ?_)
  clear hK K
  refine wpAnyH_take (i := 11) (oi := ({ dst := some 50, op := Op.move (Operand.tmp 61), type := 43, pos := "law.go:107", after := #[{ on := 10, ground := Ground.data }], guard := none } : Oper)) (v := ?_) rfl (by kernel_rfl) (by kernel_rfl) (by kernel_rfl) (fun _ _ _ h => h) (Or.inl ⟨by rfl, ?_⟩) (by assumption) ?_
  rotate_left
  · (intro w hSw; (try dsimp only at hSw); go_simp; try with_reducible rfl)
  try simp only [Act.put, List.setIfInBounds_toArray, List.set_cons_zero, List.set_cons_succ]
  refine wpAnyH_take (i := 12) (oi := ({ dst := some 62, op := Op.extract (Operand.tmp 50) 0, type := 33, pos := "law.go:107", after := #[{ on := 11, ground := Ground.data }], guard := none } : Oper)) (v := ?_) rfl (by kernel_rfl) (by kernel_rfl) (by kernel_rfl) (fun _ _ _ h => h) (Or.inl ⟨by rfl, ?_⟩) (by assumption) ?_
  rotate_left
  · (intro w hSw; (try dsimp only at hSw); go_simp; try with_reducible rfl)
  try simp only [Act.put, List.setIfInBounds_toArray, List.set_cons_zero, List.set_cons_succ]
  refine wpAnyH_take (i := 13) (oi := ({ dst := some 63, op := Op.extract (Operand.tmp 50) 1, type := 4, pos := "law.go:107", after := #[{ on := 11, ground := Ground.data }, { on := 15, ground := Ground.gcOnly Departure.lateStores }], guard := none } : Oper)) (v := ?_) rfl (by kernel_rfl) (by kernel_rfl) (by kernel_rfl) (fun _ _ _ h => h) (Or.inl ⟨by rfl, ?_⟩) (by assumption) ?_
  rotate_left
  · (intro w hSw; (try dsimp only at hSw); go_simp; try with_reducible rfl)
  try simp only [Act.put, List.setIfInBounds_toArray, List.set_cons_zero, List.set_cons_succ]
  refine wpAnyH_ready (rs := [15]) (by kernel_rfl) (by simp) ?_
  refine AllReadyH.cons rfl (fun K hK => ?_) AllReadyH.nil
  obtain ⟨i0, i1, i2, i3⟩ := CB.cells HCX2.out
  obtain ⟨g0, g1, g2, g3⟩ := CB.free HCX2.out
  go_simp
  obtain ⟨X3, hX3⟩ : ∃ V, set4 X2 x9 rc = V := ⟨_, rfl⟩
  have HCX3 : Hid (CB X3 x9 rc) := by rw [Hid, ← hX3]; exact CB.set HCX2.out rc
  have bX3 : Below y V7 X3 := by rw [← hX3]; exact set4_below bX2 HX9.out rc
  have hSX3 := HSG.out _ bX3
  unfold set4 at hX3
  rw [hX3]
  clear hX3 i0 i1 i2 i3 g0 g1 g2 g3
  refine hK.out _ _ (by assumption) (fun hHeld => ?_)
  clear hK K
  refine wpAnyH_take (i := 16) (oi := ({ dst := some 10, op := Op.assign (Operand.tmp 63), type := 4, pos := "law.go:107", after := #[{ on := 13, ground := Ground.data }, { on := 15, ground := Ground.chain }, { on := 0, ground := Ground.phase }, { on := 1, ground := Ground.phase }, { on := 2, ground := Ground.phase }, { on := 3, ground := Ground.phase }, { on := 4, ground := Ground.phase }, { on := 5, ground := Ground.phase }, { on := 6, ground := Ground.phase }, { on := 7, ground := Ground.phase }, { on := 8, ground := Ground.phase }, { on := 9, ground := Ground.phase }, { on := 10, ground := Ground.phase }, { on := 11, ground := Ground.phase }, { on := 12, ground := Ground.phase }, { on := 13, ground := Ground.phase }, { on := 14, ground := Ground.phase }, { on := 15, ground := Ground.phase }], guard := none } : Oper)) (v := ?_) rfl (by kernel_rfl) (by kernel_rfl) (by kernel_rfl) (fun _ _ _ h => h) (Or.inl ⟨by rfl, ?_⟩) (by assumption) ?_
  rotate_left
  · (intro w hSw; (try dsimp only at hSw); go_simp; try with_reducible rfl)
  try simp only [Act.put, List.setIfInBounds_toArray, List.set_cons_zero, List.set_cons_succ]
  refine wpAnyH_done (by kernel_rfl) ?_ _
  obtain ⟨i0, i1, i2, i3⟩ := CB.cells HCX3.out
  obtain ⟨j0, j1, j2, j3⟩ := HC7.out _ bX3
  go_wp2_with fail
  go_ret
  exact ⟨rfl, HDP.out _ (HB7.out.trans (bX3.mono HXY.out))⟩
end Go.Proofs.Ytdgmjmohfpjlnaa
