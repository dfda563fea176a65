/-
  does: a scan.
-/
import Derived.Test.YtdgmjmohfpjlnaaDos
import Derived.Deep.RegionHeld
import Derived.Test.YtdgmjmohfpjlnaaGog
import Derived.Test.YtdgmjmohfpjlnaaCoi
import Derived.Test.YtdgmjmohfpjlnaaRpu
namespace Go.Proofs.Ytdgmjmohfpjlnaa
open Go.RowKit Go.Shelf
theorem scan_goes {B g b cap y c4 n4 : Nat} {t : St} {fr tw : ByteArray} {a4 : Option Addr} {w3 : World} {base : Nat} (w4 : World) (b4 : ∀ q, q < w3.heap.size → w4.heap[q]? = w3.heap[q]?) (m : MA B w4 g b cap t)
    (s0 : Boxed w3 y 23 (.pointer (some ⟨g, 0, none⟩))) (s1 : Boxed w3 (y + 1) 9 (.string fr)) (s2 : Boxed w3 (y + 2) 9 (.string tw)) (hz : w3.heap.size = y + 3) (r4 : w4.ownsRow base 33 4 (.slice a4 n4 c4) n4 (flC (scanL fr tw t.E))) (hl : (scanL fr tw t.E).length = n4 ∧ n4 ≤ 3000000) (st : Int) :
    Calls Try.prog 24 #[.func (.func 40) #[] #[.pointer (some ⟨y, 0, none⟩), .pointer (some ⟨y + 1, 0, none⟩), .pointer (some ⟨y + 1 + 1, 0, none⟩)], .slice a4 n4 c4, .int .i64 st] w4 fun e w' => e = .returned (.bool true) ∧ Below w4.heap.size w4 w' := by
  have t0 : Boxed w4 y 23 (.pointer (some ⟨g, 0, none⟩)) := (b4 _ (by omega)).trans s0
  have t1 : Boxed w4 (y + 1) 9 (.string fr) := (b4 _ (by omega)).trans s1
  have t2 : Boxed w4 (y + 2) 9 (.string tw) := (b4 _ (by omega)).trans s2
  have hl2 := t2.lt
  have hm := m.lt
  have hca : CA w4.heap.size w4 a4 (scanL fr tw t.E) := by
    have h1 := r4
    rw [← hl.1] at h1
    obtain ⟨a', c', e, _, h2⟩ := ca_row h1
    simp only [Value.slice.injEq] at e
    obtain ⟨rfl, _, rfl⟩ := e
    exact h2
  refine goes_gen 40 _ (scanL fr tw t.E) (obS g b y) t.E.length a4 n4 c4 st w4 (enters_of Try.func40 (by kernel_rfl) rfl) (fun W hW => ?_) (fun q hq => ?_) hca hl.1 (by omega)
  · exact scan_seq (8 - 1) B g b cap t y fr tw W (m.below hW) (boxed_cell (boxed_below t0 hW t0.lt)) (boxed_cell (boxed_below t1 hW t1.lt)) (boxed_cell (boxed_below t2 hW t2.lt)) (Nat.lt_of_lt_of_le hl2 hW.size)
  · unfold obS at hq
    omega
set_option maxRecDepth 100000 in
set_option maxHeartbeats 16000000 in
theorem does_scan (z k : Nat) (t : St) (B g b cap s0 r : Nat) (ca : Option Addr) (cc : Nat) (ha : Option Addr) (hc : Nat) (o : OpR) (w : World) (h : PT z w k t B g b cap s0 r ca cc ha hc) (hk : k ≤ 2900000) (h0 : o.k = 2) :
    Calls Try.prog 13 #[.pointer (some ⟨g, 0, none⟩), .pointer (some ⟨r, 0, none⟩), opV o] w fun e w' => e = .returned (.bool true) ∧ DP z w k B g b s0 r w' := by
  have hlen := h.len
  have hlt := h.ma.lt
  have hrl := h.ra.lt
  obtain ⟨ok, ⟨ckey, cseq, cval, cgone⟩, otw, on⟩ := o
  simp only [opV] at *
  subst h0
  obtain ⟨x, hx⟩ : ∃ q, w.heap.size = q := ⟨_, rfl⟩
  obtain ⟨W0, hW0⟩ : ∃ V, w.alloc (.cells #[.int .i64 2, .string ckey, .int .u64 ((cseq : Nat) : Int), .string cval, .bool cgone, .string otw, .int .i64 on] 35) = V := ⟨_, rfl⟩
  have HX : Hid (w.heap.size = x) := hx
  have HB0 : Hid (Below x w W0) := by rw [Hid, ← hW0, ← hx]; exact below_new _ _
  have HO0 : Hid (OB W0 x ⟨2, ⟨ckey, cseq, cval, cgone⟩, otw, on⟩) := by rw [Hid, ← hW0, ← hx]; exact block_alloc_at _ _
  obtain ⟨o0, o1, o2, o3, o4, o5, o6⟩ := HO0.out.cells
  simp only at o0 o1 o2 o3 o4 o5 o6
  have HP : Hid (∀ V, Below x w V → PT z V k t B g b cap s0 r ca cc ha hc) := fun V hV => h.below (by rw [HX.out]; exact hV)
  have HLT : Hid (g < x ∧ b < x ∧ r < x) := by rw [Hid, ← hx]; exact ⟨hlt.1, hlt.2, hrl⟩
  have HK : Hid (k ≤ 2900000 ∧ t.E.length ≤ k) := ⟨hk, hlen⟩
  have HDP : Hid (∀ V, Below x w V → DP z w k B g b s0 r V) := fun V hV => DP.same h (by rw [HX.out]; exact hV)
  rw [← hW0, ← hx] at o0 o1 o2 o3 o4 o5 o6
  have HW0 : Hid _ := hW0
  clear hW0
  obtain ⟨N, hN⟩ : ∃ q, (t.E.map En.c).length = q := ⟨_, rfl⟩
  obtain ⟨NS, hNS⟩ : ∃ q, (scanL ckey otw t.E).length = q := ⟨_, rfl⟩
  have HN : Hid ((t.E.map En.c).length = N ∧ N ≤ 3000000) := ⟨hN, by rw [← hN, List.length_map]; omega⟩
  have HLS : Hid ((scanL ckey otw t.E).length = NS ∧ NS ≤ 3000000) := by
    refine ⟨hNS, ?_⟩
    rw [← hNS, ← h.part]
    unfold partC
    refine Nat.le_trans (List.length_filter_le _ _) ?_
    rw [List.length_map]
    omega
  obtain ⟨x0, hx0⟩ : ∃ q, W0.heap.size = q := ⟨_, rfl⟩
  have HPA : Hid (∀ V, Below x0 W0 V → Calls Try.prog 35 #[.slice ca N cc, .string ckey, .string otw] V fun e w' => ∃ v, e = .returned v ∧ w'.ownsRow V.heap.size 33 4 v NS (flC (scanL ckey otw t.E)) ∧ Below V.heap.size V w') := fun V hV => by
    have hP := (HP.out W0 HB0.out).below (by rw [hx0]; exact hV)
    have := part_any ca N cc _ ckey otw V hP.ra.ca.2 hN (by have := HN.out; omega)
    rw [hP.part, hNS] at this
    exact this
  have HON : Hid (∀ V, Below x0 W0 V → MA B V g b cap t) := fun V hV => ((HP.out W0 HB0.out).below (by rw [hx0]; exact hV)).ma
  have HSC : Hid (∀ V : World, _) := fun V => scan_any (some ⟨g, 0, none⟩) ckey otw V
  have HSG : Hid (∀ V, Below x0 W0 V → V.cell? ⟨r, 0, none⟩ = some (.slice ca N cc) ∧ V.cell? ⟨x, 1, none⟩ = some (.string ckey) ∧ V.cell? ⟨x, 5, none⟩ = some (.string otw) ∧ V.cell? ⟨x, 6, none⟩ = some (.int .i64 on)) := fun V hV => by
    have hP := (HP.out W0 HB0.out).below (by rw [hx0]; exact hV)
    have h1 := hP.ra.f0.1
    rw [HN.out.1] at h1
    have ho : OB V x ⟨2, ⟨ckey, cseq, cval, cgone⟩, otw, on⟩ := (hV.block x (by rw [← hx0]; exact (Array.getElem?_eq_some_iff.1 HO0.out).1)).trans HO0.out
    obtain ⟨_, q1, _, _, _, q5, q6⟩ := ho.cells
    exact ⟨h1, q1, q5, q6⟩
  have HXY : Hid (x ≤ x0) := by rw [Hid, ← hx0]; exact le_s HX.out HB0.out
  have q0 : Below x0 W0 W0.drew := (Below.refl _ _).drew
  have HX0 : Hid _ := hx0
  clear h hk hlen hlt hrl hx hN hNS hx0
  go_enter Try.func13, Try.ntmps13
  go_wp2_with fail
  rw [HW0.out, HX.out]
  clear o0 o1 o2 o3 o4 o5 o6 HW0
  obtain ⟨X0, hX0⟩ : ∃ q, W0.drew = q := ⟨_, rfl⟩
  refine wp_region_held_drew (S := fun V => V.cell? ⟨r, 0, none⟩ = some (.slice ca N cc) ∧ V.cell? ⟨x, 1, none⟩ = some (.string ckey) ∧ V.cell? ⟨x, 5, none⟩ = some (.string otw) ∧ V.cell? ⟨x, 6, none⟩ = some (.int .i64 on)) (by kernel_rfl) (HSG.out _ q0) (fun hHeld => ?_)
  rw [hX0] at q0 hHeld ⊢
  clear hX0
  refine wpAnyH_take (i := 0) (oi := ({ dst := some 74, op := Op.move (Operand.tmp 0), type := 23, pos := "law.go:110", after := #[], guard := none } : Oper)) (v := ?_) rfl (by kernel_rfl) (by kernel_rfl) (by kernel_rfl) (fun _ _ _ h => h) (Or.inl ⟨by rfl, ?_⟩) (by assumption) ?_
  rotate_left
  · (intro w hSw; (try dsimp only at hSw); go_simp; try with_reducible rfl)
  try simp only [Act.put, List.setIfInBounds_toArray, List.set_cons_zero, List.set_cons_succ]
  refine wpAnyH_take (i := 1) (oi := ({ dst := some 75, op := Op.fieldAddr 35 (Operand.tmp 5) 1, type := 0, pos := "law.go:110", after := #[], guard := none } : Oper)) (v := ?_) rfl (by kernel_rfl) (by kernel_rfl) (by kernel_rfl) (fun _ _ _ h => h) (Or.inl ⟨by rfl, ?_⟩) (by assumption) ?_
  rotate_left
  · (intro w hSw; (try dsimp only at hSw); go_simp; try with_reducible rfl)
  try simp only [Act.put, List.setIfInBounds_toArray, List.set_cons_zero, List.set_cons_succ]
  refine wpAnyH_take (i := 2) (oi := ({ dst := some 76, op := Op.fieldAddr 33 (Operand.tmp 75) 0, type := 0, pos := "law.go:110", after := #[{ on := 1, ground := Ground.data }], guard := none } : Oper)) (v := ?_) rfl (by kernel_rfl) (by kernel_rfl) (by kernel_rfl) (fun _ _ _ h => h) (Or.inl ⟨by rfl, ?_⟩) (by assumption) ?_
  rotate_left
  · (intro w hSw; (try dsimp only at hSw); go_simp; try with_reducible rfl)
  try simp only [Act.put, List.setIfInBounds_toArray, List.set_cons_zero, List.set_cons_succ]
  refine wpAnyH_take (i := 3) (oi := ({ dst := some 77, op := Op.load 9 (Operand.tmp 76), type := 9, pos := "law.go:110", after := #[{ on := 2, ground := Ground.data }], guard := none } : Oper)) (v := ?_) rfl (by kernel_rfl) (by kernel_rfl) (by kernel_rfl) (fun _ _ _ h => h) (Or.inl ⟨by rfl, ?_⟩) (by assumption) ?_
  rotate_left
  · (intro w hSw; (try dsimp only at hSw); go_simp; try with_reducible rfl)
  try simp only [Act.put, List.setIfInBounds_toArray, List.set_cons_zero, List.set_cons_succ]
  refine wpAnyH_take (i := 4) (oi := ({ dst := some 78, op := Op.fieldAddr 35 (Operand.tmp 5) 2, type := 0, pos := "law.go:110", after := #[], guard := none } : Oper)) (v := ?_) rfl (by kernel_rfl) (by kernel_rfl) (by kernel_rfl) (fun _ _ _ h => h) (Or.inl ⟨by rfl, ?_⟩) (by assumption) ?_
  rotate_left
  · (intro w hSw; (try dsimp only at hSw); go_simp; try with_reducible rfl)
  try simp only [Act.put, List.setIfInBounds_toArray, List.set_cons_zero, List.set_cons_succ]
  refine wpAnyH_take (i := 5) (oi := ({ dst := some 79, op := Op.load 9 (Operand.tmp 78), type := 9, pos := "law.go:110", after := #[{ on := 4, ground := Ground.data }], guard := none } : Oper)) (v := ?_) rfl (by kernel_rfl) (by kernel_rfl) (by kernel_rfl) (fun _ _ _ h => h) (Or.inl ⟨by rfl, ?_⟩) (by assumption) ?_
  rotate_left
  · (intro w hSw; (try dsimp only at hSw); go_simp; try with_reducible rfl)
  try simp only [Act.put, List.setIfInBounds_toArray, List.set_cons_zero, List.set_cons_succ]
  refine wpAnyH_take (i := 7) (oi := ({ dst := some 81, op := Op.move (Operand.tmp 1), type := 26, pos := "law.go:110", after := #[], guard := none } : Oper)) (v := ?_) rfl (by kernel_rfl) (by kernel_rfl) (by kernel_rfl) (fun _ _ _ h => h) (Or.inl ⟨by rfl, ?_⟩) (by assumption) ?_
  rotate_left
  · (intro w hSw; (try dsimp only at hSw); go_simp; try with_reducible rfl)
  try simp only [Act.put, List.setIfInBounds_toArray, List.set_cons_zero, List.set_cons_succ]
  refine wpAnyH_take (i := 8) (oi := ({ dst := some 82, op := Op.nilCheck (Operand.tmp 81), type := 0, pos := "law.go:110", after := #[{ on := 7, ground := Ground.data }], guard := none } : Oper)) (v := ?_) rfl (by kernel_rfl) (by kernel_rfl) (by kernel_rfl) (fun _ _ _ h => h) (Or.inl ⟨by rfl, ?_⟩) (by assumption) ?_
  rotate_left
  · (intro w hSw; (try dsimp only at hSw); go_simp; try with_reducible rfl)
  try simp only [Act.put, List.setIfInBounds_toArray, List.set_cons_zero, List.set_cons_succ]
  refine wpAnyH_take (i := 9) (oi := ({ dst := some 83, op := Op.fieldAddr 30 (Operand.tmp 82) 0, type := 0, pos := "law.go:110", after := #[{ on := 8, ground := Ground.data }], guard := none } : Oper)) (v := ?_) rfl (by kernel_rfl) (by kernel_rfl) (by kernel_rfl) (fun _ _ _ h => h) (Or.inl ⟨by rfl, ?_⟩) (by assumption) ?_
  rotate_left
  · (intro w hSw; (try dsimp only at hSw); go_simp; try with_reducible rfl)
  try simp only [Act.put, List.setIfInBounds_toArray, List.set_cons_zero, List.set_cons_succ]
  refine wpAnyH_take (i := 10) (oi := ({ dst := some 84, op := Op.load 27 (Operand.tmp 83), type := 27, pos := "law.go:110", after := #[{ on := 9, ground := Ground.data }], guard := none } : Oper)) (v := ?_) rfl (by kernel_rfl) (by kernel_rfl) (by kernel_rfl) (fun _ _ _ h => h) (Or.inl ⟨by rfl, ?_⟩) (by assumption) ?_
  rotate_left
  · (intro w hSw; (try dsimp only at hSw); go_simp; try with_reducible rfl)
  try simp only [Act.put, List.setIfInBounds_toArray, List.set_cons_zero, List.set_cons_succ]
  refine wpAnyH_take (i := 11) (oi := ({ dst := some 85, op := Op.fieldAddr 35 (Operand.tmp 5) 1, type := 0, pos := "law.go:110", after := #[], guard := none } : Oper)) (v := ?_) rfl (by kernel_rfl) (by kernel_rfl) (by kernel_rfl) (fun _ _ _ h => h) (Or.inl ⟨by rfl, ?_⟩) (by assumption) ?_
  rotate_left
  · (intro w hSw; (try dsimp only at hSw); go_simp; try with_reducible rfl)
  try simp only [Act.put, List.setIfInBounds_toArray, List.set_cons_zero, List.set_cons_succ]
  refine wpAnyH_take (i := 12) (oi := ({ dst := some 86, op := Op.fieldAddr 33 (Operand.tmp 85) 0, type := 0, pos := "law.go:110", after := #[{ on := 11, ground := Ground.data }], guard := none } : Oper)) (v := ?_) rfl (by kernel_rfl) (by kernel_rfl) (by kernel_rfl) (fun _ _ _ h => h) (Or.inl ⟨by rfl, ?_⟩) (by assumption) ?_
  rotate_left
  · (intro w hSw; (try dsimp only at hSw); go_simp; try with_reducible rfl)
  try simp only [Act.put, List.setIfInBounds_toArray, List.set_cons_zero, List.set_cons_succ]
  refine wpAnyH_take (i := 13) (oi := ({ dst := some 87, op := Op.load 9 (Operand.tmp 86), type := 9, pos := "law.go:110", after := #[{ on := 12, ground := Ground.data }], guard := none } : Oper)) (v := ?_) rfl (by kernel_rfl) (by kernel_rfl) (by kernel_rfl) (fun _ _ _ h => h) (Or.inl ⟨by rfl, ?_⟩) (by assumption) ?_
  rotate_left
  · (intro w hSw; (try dsimp only at hSw); go_simp; try with_reducible rfl)
  try simp only [Act.put, List.setIfInBounds_toArray, List.set_cons_zero, List.set_cons_succ]
  refine wpAnyH_take (i := 14) (oi := ({ dst := some 88, op := Op.fieldAddr 35 (Operand.tmp 5) 2, type := 0, pos := "law.go:110", after := #[], guard := none } : Oper)) (v := ?_) rfl (by kernel_rfl) (by kernel_rfl) (by kernel_rfl) (fun _ _ _ h => h) (Or.inl ⟨by rfl, ?_⟩) (by assumption) ?_
  rotate_left
  · (intro w hSw; (try dsimp only at hSw); go_simp; try with_reducible rfl)
  try simp only [Act.put, List.setIfInBounds_toArray, List.set_cons_zero, List.set_cons_succ]
  refine wpAnyH_take (i := 15) (oi := ({ dst := some 89, op := Op.load 9 (Operand.tmp 88), type := 9, pos := "law.go:110", after := #[{ on := 14, ground := Ground.data }], guard := none } : Oper)) (v := ?_) rfl (by kernel_rfl) (by kernel_rfl) (by kernel_rfl) (fun _ _ _ h => h) (Or.inl ⟨by rfl, ?_⟩) (by assumption) ?_
  rotate_left
  · (intro w hSw; (try dsimp only at hSw); go_simp; try with_reducible rfl)
  try simp only [Act.put, List.setIfInBounds_toArray, List.set_cons_zero, List.set_cons_succ]
  refine wpAnyH_take (i := 17) (oi := ({ dst := some 91, op := Op.fieldAddr 35 (Operand.tmp 5) 3, type := 0, pos := "law.go:110", after := #[], guard := none } : Oper)) (v := ?_) rfl (by kernel_rfl) (by kernel_rfl) (by kernel_rfl) (fun _ _ _ h => h) (Or.inl ⟨by rfl, ?_⟩) (by assumption) ?_
  rotate_left
  · (intro w hSw; (try dsimp only at hSw); go_simp; try with_reducible rfl)
  try simp only [Act.put, List.setIfInBounds_toArray, List.set_cons_zero, List.set_cons_succ]
  refine wpAnyH_take (i := 18) (oi := ({ dst := some 92, op := Op.load 3 (Operand.tmp 91), type := 3, pos := "law.go:110", after := #[{ on := 17, ground := Ground.data }], guard := none } : Oper)) (v := ?_) rfl (by kernel_rfl) (by kernel_rfl) (by kernel_rfl) (fun _ _ _ h => h) (Or.inl ⟨by rfl, ?_⟩) (by assumption) ?_
  rotate_left
  · (intro w hSw; (try dsimp only at hSw); go_simp; try with_reducible rfl)
  try simp only [Act.put, List.setIfInBounds_toArray, List.set_cons_zero, List.set_cons_succ]
  refine wpAnyH_ready (rs := [6]) (by kernel_rfl) (by simp) ?_
  refine AllReadyH.cons rfl (fun K hK => ?_) AllReadyH.nil
  go_simp
  go_wp2_with (go_at_call 23; refine (HSC.out X0).mono ?_; rintro e w3 ⟨rfl, hw3⟩; obtain ⟨b3, s0c, s1c, s2c, hz3⟩ := three_new X0 (some ⟨g, 0, none⟩) ckey otw w3 hw3; obtain ⟨y, hy⟩ : ∃ q, X0.heap.size = q := ⟨_, rfl⟩; rw [hy] at s0c s1c s2c hz3 ⊢; have q3 : Below x0 W0 w3 := q0.trans (b3.mono (le_s HX0.out q0)); have hS3 := HSG.out _ q3; clear hw3 b3)
  refine hK.out _ _ (by assumption) (fun hHeld => ?_)
  clear hK K
  refine wpAnyH_ready (rs := [16]) (by kernel_rfl) (by simp) ?_
  refine AllReadyH.cons rfl (fun K hK => ?_) AllReadyH.nil
  go_simp
  go_wp2_with (go_at_call 35; refine (HPA.out _ q3).mono ?_; rintro e w4 ⟨v4, rfl, r4, b4⟩; have q4 : Below x0 W0 w4 := q3.trans (b4.mono (le_s HX0.out q3)); have hS4 := HSG.out _ q4; obtain ⟨a4, c4, rfl⟩ := row_form4 r4; have HGO : Hid _ := scan_goes w4 (b4.block) (HON.out _ q4) s0c s1c s2c hz3 r4 HLS.out on; clear b4)
  refine hK.out _ _ (by assumption) (fun hHeld => ?_)
  clear hK K
  refine wpAnyH_ready (rs := [19]) (by kernel_rfl) (by simp) ?_
  refine AllReadyH.cons rfl (fun K hK => ?_) AllReadyH.nil
  go_simp
  go_wp2_with (go_at_call 24; refine Calls.mono HGO.out ?_; rintro e w5 ⟨rfl, b5⟩; have q5 : Below x0 W0 w5 := q4.trans (b5.mono (le_s HX0.out q4)); have hS5 := HSG.out _ q5; clear b5)
  refine hK.out _ _ (by assumption) (fun hHeld => ?_)
  clear hK K
  refine wpAnyH_take (i := 20) (oi := ({ dst := some 6, op := Op.assign (Operand.tmp 93), type := 4, pos := "law.go:110", after := #[{ on := 19, ground := Ground.data }, { on := 19, ground := Ground.chain }, { on := 0, ground := Ground.phase }, { on := 1, ground := Ground.phase }, { on := 2, ground := Ground.phase }, { on := 3, ground := Ground.phase }, { on := 4, ground := Ground.phase }, { on := 5, ground := Ground.phase }, { on := 6, ground := Ground.phase }, { on := 7, ground := Ground.phase }, { on := 8, ground := Ground.phase }, { on := 9, ground := Ground.phase }, { on := 10, ground := Ground.phase }, { on := 11, ground := Ground.phase }, { on := 12, ground := Ground.phase }, { on := 13, ground := Ground.phase }, { on := 14, ground := Ground.phase }, { on := 15, ground := Ground.phase }, { on := 16, ground := Ground.phase }, { on := 17, ground := Ground.phase }, { on := 18, ground := Ground.phase }, { on := 19, ground := Ground.phase }], guard := none } : Oper)) (v := ?_) rfl (by kernel_rfl) (by kernel_rfl) (by kernel_rfl) (fun _ _ _ h => h) (Or.inl ⟨by rfl, ?_⟩) (by assumption) ?_
  rotate_left
  · (intro w hSw; (try dsimp only at hSw); go_simp; try with_reducible rfl)
  try simp only [Act.put, List.setIfInBounds_toArray, List.set_cons_zero, List.set_cons_succ]
  refine wpAnyH_done (by kernel_rfl) ?_ _
  go_wp2_with fail
  go_ret
  exact ⟨rfl, HDP.out _ (HB0.out.trans (q5.mono HXY.out))⟩
end Go.Proofs.Ytdgmjmohfpjlnaa
