/-
  looks: is all as the twin has it?
-/
import Derived.Test.YtdgmjmohfpjlnaaPar
namespace Go.Proofs.Ytdgmjmohfpjlnaa
open Go.RowKit Go.Shelf
theorem ia_below {W W' : World} {a : Option Addr} {l : List Nat} (h : IA W a l) (b : Below W.heap.size W W') : IA W' a l := by
  intro j v hj
  obtain ⟨x, off, e, hc⟩ := h j v hj
  exact ⟨x, off, e, (b.cell (p := ⟨x, off + j, none⟩) (World.block_lt_of_cell? _ _ hc)).trans hc⟩
/-- A row's block, as it may be written over. -/
def WipeAt (W : World) (a : Option Addr) (N : Nat) : Prop := N = 0 ∨ ∃ g cur, a = some ⟨g, 0, none⟩ ∧ W.heap[g]? = some (.cells cur 33 (0, 0)) ∧ N * 4 ≤ cur.size
theorem wipe_row {W : World} {B N c : Nat} {a : Option Addr} {xs : List Value} (h : W.ownsRow B 33 4 (.slice a N c) N xs) : WipeAt W a N := by
  rcases h.2 with ⟨ev, h0⟩ | ⟨g, cap, cur, ev, _, hh, hn, hc, hcs, _⟩
  · exact .inl h0
  · simp only [Value.slice.injEq] at ev
    obtain ⟨rfl, _, rfl⟩ := ev
    exact .inr ⟨g, cur, rfl, hh, by omega⟩
set_option maxRecDepth 100000 in
set_option maxHeartbeats 16000000 in
theorem looks_any (z k : Nat) (t : St) (B g b cap s0 r : Nat) (ca : Option Addr) (cc : Nat) (ha : Option Addr) (hc : Nat) (w : World) (h : PT z w k t B g b cap s0 r ca cc ha hc) (hk : k ≤ 3000000) :
    Calls Try.prog 14 #[.pointer (some ⟨g, 0, none⟩), .pointer (some ⟨r, 0, none⟩)] w fun e w' => e = .returned (.bool true) ∧ Below w.heap.size w w' := by
  have hlen := h.len
  obtain ⟨N, hN⟩ : ∃ N, t.E.length = N := ⟨_, rfl⟩
  rw [hN] at hlen
  have hml : (t.E.map En.c).length = N := by rw [List.length_map]; exact hN
  have hmh : (t.E.map En.h).length = N := by rw [List.length_map]; exact hN
  have HPT : Hid (∀ V, Below w.heap.size w V → PT z V k t B g b cap s0 r ca cc ha hc) := fun V hV => h.below hV
  have HCE : Hid (∀ _ : Unit, Calls Try.prog 19 #[.pointer (some ⟨g, 0, none⟩)] w fun e w' => ∃ v, e = .returned v ∧ w'.ownsRow w.heap.size 33 4 v N (flC (t.E.map En.c)) ∧ Below w.heap.size w w') := fun _ => by
    have := cells_any B g b cap t w h.ma
    rw [scan_all h.ok, hml] at this
    exact this
  have hsz : sizeC (t.E.map En.c) ≤ 1000000000000 := by have := h.es; have := h.sz; have := h.nk; omega
  have HSZ : Hid (sizeC (t.E.map En.c) ≤ 1000000000000 ∧ t.size = sizeC (t.E.map En.c) ∧ (t.E.map En.c).length = N ∧ (t.E.map En.h).length = N ∧ t.E.length = N ∧ N ≤ 3000000 ∧ Rep t.n t.cell t.nx t.E) := ⟨hsz, h.es, hml, hmh, hN, by omega, h.ma.rep⟩
  clear h hk hlen hml hmh hN hsz
  go_enter Try.func14, Try.ntmps14
  go_wp2_with fail
  refine (HCE.out ()).mono ?_
  rintro e w1 ⟨v1, rfl, hrow, b1⟩
  obtain ⟨va, vc, rfl⟩ := row_form4 hrow
  obtain ⟨x, hx⟩ : ∃ x, w1.heap.size = x := ⟨_, rfl⟩
  have HB1 : Hid (Below w.heap.size w w1) := b1
  have HP1 : Hid (∀ V, Below x w1 V → PT z V k t B g b cap s0 r ca cc ha hc) := fun V hV => HPT.out V (b1.trans (hV.mono (by rw [← hx]; exact b1.size)))
  have HXX : Hid (w1.heap.size = x) := hx
  have HRW : Hid (∀ V, Below x w1 V → V.ownsRow w.heap.size 33 4 (.slice va N vc) N (flC (t.E.map En.c))) := fun V hV => owns_same hrow (fun q hq => hV.block q (by rw [← hx]; exact (World.ownsRow.lt hrow q hq).2))
  have HS : Hid (∀ V, Below x w1 V → V.cell? ⟨r, 0, none⟩ = some (.slice ca N cc)) := fun V hV => by have := (HP1.out V hV).ra.f0.1; rw [HSZ.out.2.2.1] at this; exact this
  have HSA : Hid (∀ V, Below x w1 V → Calls Try.prog 18 #[.slice va N vc, .slice ca N cc] V fun e w' => e = .returned (.bool true) ∧ ∃ q, w' = V.drewN q) := fun V hV => by
    have h1 := HRW.out V hV
    rw [← HSZ.out.2.2.1] at h1
    obtain ⟨a', c', e, _, h2⟩ := ca_row h1
    rw [HSZ.out.2.2.1] at e
    simp only [Value.slice.injEq] at e
    obtain ⟨rfl, _, rfl⟩ := e
    exact same_eq va ca N vc cc _ V h2 (HP1.out V hV).ra.ca.2 HSZ.out.2.2.1 (by have := HSZ.out; omega)
  have HLE : Hid (∀ V, Below x w1 V → Calls Try.prog 21 #[.pointer (some ⟨g, 0, none⟩)] V fun e w' => e = .returned (.int .i64 ((N : Nat) : Int)) ∧ w' = V) := fun V hV => by
    have := len_any B g b cap t V (HP1.out V hV).ma
    rw [HSZ.out.2.2.2.2.1] at this
    exact this
  obtain ⟨sz, hsz⟩ : ∃ q, sizeC (t.E.map En.c) = q := ⟨_, rfl⟩
  have HSI : Hid (∀ V, Below x w1 V → Calls Try.prog 20 #[.pointer (some ⟨g, 0, none⟩)] V fun e w' => e = .returned (.int .i64 ((sz : Nat) : Int)) ∧ w' = V) := fun V hV => by
    have := size_any B g b cap t V (HP1.out V hV).ma
    rw [HSZ.out.2.1, hsz] at this
    exact this
  have HRS : Hid (∀ V, Below x w1 V → Calls Try.prog 36 #[.slice ca N cc] V fun e w' => e = .returned (.int .i64 ((sz : Nat) : Int)) ∧ Below V.heap.size V w') := fun V hV => by
    have := rsize_any ca N cc _ V (HP1.out V hV).ra.ca.2 HSZ.out.2.2.1 (by have := HSZ.out; omega) HSZ.out.1
    rw [hsz] at this
    exact this
  obtain ⟨LV, hLV⟩ : ∃ q, levR t.E = q := ⟨_, rfl⟩
  have HLV : Hid (∀ V, Below x w1 V → Calls Try.prog 17 #[.pointer (some ⟨g, 0, none⟩)] V fun e w' => ∃ v, e = .returned v ∧ w'.ownsRow V.heap.size 3 1 v LV.length (LV.map fun x => .int .i64 ((x : Nat) : Int)) ∧ Below V.heap.size V w') := fun V hV => by
    have := callsIn_wide.1 (levels_in 8 (by omega) B g b cap t V (HP1.out V hV).ma)
    rw [hLV] at this
    exact this
  have HRL : Hid (∀ V, Below x w1 V → Calls Try.prog 37 #[.pointer (some ⟨r, 0, none⟩)] V fun e w' => ∃ v, e = .returned v ∧ w'.ownsRow V.heap.size 3 1 v LV.length (LV.map fun x => .int .i64 ((x : Nat) : Int)) ∧ Below V.heap.size V w') := fun V hV => by
    have h1 := (HP1.out V hV).ra.f0.2
    rw [HSZ.out.2.2.1] at h1
    have := rlevels_any r ha N hc _ V h1 (HP1.out V hV).ra.ia.2 HSZ.out.2.2.2.1 (by have := HSZ.out; omega)
    rw [rlev_eq HSZ.out.2.2.2.2.2.2, hLV] at this
    exact this
  have HLL : Hid (LV.length ≤ 1000000000) := by rw [Hid, ← hLV]; unfold levR; exact Nat.le_trans (by rw [List.length_map]; exact Nat.le_trans (List.takeWhile_sublist _).length_le (Nat.le_of_eq (List.length_range))) (by decide)
  clear HPT HCE hrow b1 hx hsz hLV
  go_wp2_with fail
  have q1 : Below x w1 w1.drew := (Below.refl _ _).drew
  obtain ⟨w1d, hw1d⟩ : ∃ q, w1.drew = q := ⟨_, rfl⟩
  refine wp_region_held_drew (S := fun V => V.cell? ⟨r, 0, none⟩ = some (.slice ca N cc)) (by kernel_rfl) (HS.out _ q1) (fun hHeld => ?_)
  rw [hw1d] at q1 hHeld ⊢
  refine wpAnyH_take (i := 0) (oi := ({ dst := some 10, op := Op.move (Operand.tmp 5), type := 27, pos := "law.go:93", after := #[], guard := none } : Oper)) (v := ?_) rfl (by kernel_rfl) (by kernel_rfl) (by kernel_rfl) (fun _ _ _ h => h) (Or.inl ⟨by rfl, ?_⟩) (by assumption) ?_
  rotate_left
  · (intro w hSw; (try dsimp only at hSw); go_simp; try with_reducible rfl)
  try simp only [Act.put, List.setIfInBounds_toArray, List.set_cons_zero, List.set_cons_succ]
  refine wpAnyH_take (i := 1) (oi := ({ dst := some 11, op := Op.move (Operand.tmp 1), type := 26, pos := "law.go:93", after := #[], guard := none } : Oper)) (v := ?_) rfl (by kernel_rfl) (by kernel_rfl) (by kernel_rfl) (fun _ _ _ h => h) (Or.inl ⟨by rfl, ?_⟩) (by assumption) ?_
  rotate_left
  · (intro w hSw; (try dsimp only at hSw); go_simp; try with_reducible rfl)
  try simp only [Act.put, List.setIfInBounds_toArray, List.set_cons_zero, List.set_cons_succ]
  refine wpAnyH_take (i := 2) (oi := ({ dst := some 12, op := Op.nilCheck (Operand.tmp 11), type := 0, pos := "law.go:93", after := #[{ on := 1, ground := Ground.data }], guard := none } : Oper)) (v := ?_) rfl (by kernel_rfl) (by kernel_rfl) (by kernel_rfl) (fun _ _ _ h => h) (Or.inl ⟨by rfl, ?_⟩) (by assumption) ?_
  rotate_left
  · (intro w hSw; (try dsimp only at hSw); go_simp; try with_reducible rfl)
  try simp only [Act.put, List.setIfInBounds_toArray, List.set_cons_zero, List.set_cons_succ]
  refine wpAnyH_take (i := 3) (oi := ({ dst := some 13, op := Op.fieldAddr 30 (Operand.tmp 12) 0, type := 0, pos := "law.go:93", after := #[{ on := 2, ground := Ground.data }], guard := none } : Oper)) (v := ?_) rfl (by kernel_rfl) (by kernel_rfl) (by kernel_rfl) (fun _ _ _ h => h) (Or.inl ⟨by rfl, ?_⟩) (by assumption) ?_
  rotate_left
  · (intro w hSw; (try dsimp only at hSw); go_simp; try with_reducible rfl)
  try simp only [Act.put, List.setIfInBounds_toArray, List.set_cons_zero, List.set_cons_succ]
  refine wpAnyH_take (i := 4) (oi := ({ dst := some 14, op := Op.load 27 (Operand.tmp 13), type := 27, pos := "law.go:93", after := #[{ on := 3, ground := Ground.data }], guard := none } : Oper)) (v := ?_) rfl (by kernel_rfl) (by kernel_rfl) (by kernel_rfl) (fun _ _ _ h => h) (Or.inl ⟨by rfl, ?_⟩) (by assumption) ?_
  rotate_left
  · (intro w hSw; (try dsimp only at hSw); go_simp; try with_reducible rfl)
  try simp only [Act.put, List.setIfInBounds_toArray, List.set_cons_zero, List.set_cons_succ]
  refine wpAnyH_ready (rs := [5]) (by kernel_rfl) (by simp) ?_
  refine AllReadyH.cons rfl (fun K hK => ?_) AllReadyH.nil
  go_simp
  go_wp2_with (go_at_call 18; refine (HSA.out _ q1).mono ?_; rintro e w2 ⟨rfl, dq, rfl⟩; have q2 : Below x w1 (w1d.drewN dq) := q1.trans (below_drewN _ _ _); have hS2 := HS.out _ q2; obtain ⟨w2, hw2⟩ : ∃ q, w1d.drewN dq = q := ⟨_, rfl⟩; rw [hw2] at q2 hS2 ⊢)
  refine hK.out _ _ (by assumption) (fun hHeld => ?_)
  clear hK K
  refine wpAnyH_take (i := 6) (oi := ({ dst := some 16, op := Op.move (Operand.tmp 15), type := 4, pos := "law.go:93", after := #[{ on := 5, ground := Ground.data }, { on := 5, ground := Ground.chain }], guard := none } : Oper)) (v := ?_) rfl (by kernel_rfl) (by kernel_rfl) (by kernel_rfl) (fun _ _ _ h => h) (Or.inl ⟨by rfl, ?_⟩) (by assumption) ?_
  rotate_left
  · (intro w hSw; (try dsimp only at hSw); go_simp; try with_reducible rfl)
  try simp only [Act.put, List.setIfInBounds_toArray, List.set_cons_zero, List.set_cons_succ]
  refine wpAnyH_take (i := 7) (oi := ({ dst := some 17, op := Op.move (Operand.tmp 0), type := 23, pos := "law.go:93", after := #[{ on := 6, ground := Ground.guard }], guard := some (6, true) } : Oper)) (v := ?_) rfl (by kernel_rfl) (by kernel_rfl) (by kernel_rfl) (fun _ _ _ h => h) (Or.inl ⟨by rfl, ?_⟩) (by assumption) ?_
  rotate_left
  · (intro w hSw; (try dsimp only at hSw); go_simp; try with_reducible rfl)
  try simp only [Act.put, List.setIfInBounds_toArray, List.set_cons_zero, List.set_cons_succ]
  refine wpAnyH_take (i := 9) (oi := ({ dst := some 19, op := Op.move (Operand.tmp 1), type := 26, pos := "law.go:93", after := #[{ on := 6, ground := Ground.guard }], guard := some (6, true) } : Oper)) (v := ?_) rfl (by kernel_rfl) (by kernel_rfl) (by kernel_rfl) (fun _ _ _ h => h) (Or.inl ⟨by rfl, ?_⟩) (by assumption) ?_
  rotate_left
  · (intro w hSw; (try dsimp only at hSw); go_simp; try with_reducible rfl)
  try simp only [Act.put, List.setIfInBounds_toArray, List.set_cons_zero, List.set_cons_succ]
  refine wpAnyH_take (i := 10) (oi := ({ dst := some 20, op := Op.nilCheck (Operand.tmp 19), type := 0, pos := "law.go:93", after := #[{ on := 9, ground := Ground.data }, { on := 6, ground := Ground.guard }], guard := some (6, true) } : Oper)) (v := ?_) rfl (by kernel_rfl) (by kernel_rfl) (by kernel_rfl) (fun _ _ _ h => h) (Or.inl ⟨by rfl, ?_⟩) (by assumption) ?_
  rotate_left
  · (intro w hSw; (try dsimp only at hSw); go_simp; try with_reducible rfl)
  try simp only [Act.put, List.setIfInBounds_toArray, List.set_cons_zero, List.set_cons_succ]
  refine wpAnyH_take (i := 11) (oi := ({ dst := some 21, op := Op.fieldAddr 30 (Operand.tmp 20) 0, type := 0, pos := "law.go:93", after := #[{ on := 10, ground := Ground.data }, { on := 6, ground := Ground.guard }], guard := some (6, true) } : Oper)) (v := ?_) rfl (by kernel_rfl) (by kernel_rfl) (by kernel_rfl) (fun _ _ _ h => h) (Or.inl ⟨by rfl, ?_⟩) (by assumption) ?_
  rotate_left
  · (intro w hSw; (try dsimp only at hSw); go_simp; try with_reducible rfl)
  try simp only [Act.put, List.setIfInBounds_toArray, List.set_cons_zero, List.set_cons_succ]
  refine wpAnyH_take (i := 12) (oi := ({ dst := some 22, op := Op.load 27 (Operand.tmp 21), type := 27, pos := "law.go:93", after := #[{ on := 11, ground := Ground.data }, { on := 6, ground := Ground.guard }], guard := some (6, true) } : Oper)) (v := ?_) rfl (by kernel_rfl) (by kernel_rfl) (by kernel_rfl) (fun _ _ _ h => h) (Or.inl ⟨by rfl, ?_⟩) (by assumption) ?_
  rotate_left
  · (intro w hSw; (try dsimp only at hSw); go_simp; try with_reducible rfl)
  try simp only [Act.put, List.setIfInBounds_toArray, List.set_cons_zero, List.set_cons_succ]
  refine wpAnyH_take (i := 13) (oi := ({ dst := some 23, op := Op.call { callee := Callee.builtin Builtin.len, args := #[Operand.tmp 22], argTypes := #[27] }, type := 3, pos := "law.go:93", after := #[{ on := 12, ground := Ground.data }, { on := 6, ground := Ground.guard }], guard := some (6, true) } : Oper)) (v := ?_) rfl (by kernel_rfl) (by kernel_rfl) (by kernel_rfl) (fun _ _ _ h => h) (Or.inl ⟨by rfl, ?_⟩) (by assumption) ?_
  rotate_left
  · (intro w hSw; (try dsimp only at hSw); go_simp; try with_reducible rfl)
  try simp only [Act.put, List.setIfInBounds_toArray, List.set_cons_zero, List.set_cons_succ]
  refine wpAnyH_ready (rs := [8]) (by kernel_rfl) (by simp) ?_
  refine AllReadyH.cons rfl (fun K hK => ?_) AllReadyH.nil
  go_simp
  go_wp2_with (go_at_call 21; refine (HLE.out _ q2).mono ?_; rintro e w3 ⟨rfl, hw3⟩; rw [hw3]; clear hw3 w3)
  refine hK.out _ _ (by assumption) (fun hHeld => ?_)
  clear hK K
  refine wpAnyH_take (i := 14) (oi := ({ dst := some 24, op := Op.binOp BinOp.eql 3 (Operand.tmp 18) (Operand.tmp 23) 3, type := 4, pos := "law.go:93", after := #[{ on := 8, ground := Ground.data }, { on := 13, ground := Ground.data }, { on := 6, ground := Ground.guard }], guard := some (6, true) } : Oper)) (v := ?_) rfl (by kernel_rfl) (by kernel_rfl) (by kernel_rfl) (fun _ _ _ h => h) (Or.inl ⟨by rfl, ?_⟩) (by assumption) ?_
  rotate_left
  · (intro w hSw; (try dsimp only at hSw); go_simp; try with_reducible rfl)
  try simp only [Act.put, List.setIfInBounds_toArray, List.set_cons_zero, List.set_cons_succ]
  refine wpAnyH_take (i := 15) (oi := ({ dst := some 25, op := Op.pick (Operand.tmp 16) (Operand.tmp 24) (Operand.const (Value.bool false)), type := 4, pos := "law.go:93", after := #[{ on := 6, ground := Ground.data }, { on := 14, ground := Ground.data }], guard := none } : Oper)) (v := ?_) rfl (by kernel_rfl) (by kernel_rfl) (by kernel_rfl) (fun _ _ _ h => h) (Or.inl ⟨by rfl, ?_⟩) (by assumption) ?_
  rotate_left
  · (intro w hSw; (try dsimp only at hSw); go_simp; try with_reducible rfl)
  try simp only [Act.put, List.setIfInBounds_toArray, List.set_cons_zero, List.set_cons_succ]
  refine wpAnyH_take (i := 16) (oi := ({ dst := some 26, op := Op.move (Operand.tmp 25), type := 4, pos := "law.go:93", after := #[{ on := 15, ground := Ground.data }, { on := 8, ground := Ground.chain }], guard := none } : Oper)) (v := ?_) rfl (by kernel_rfl) (by kernel_rfl) (by kernel_rfl) (fun _ _ _ h => h) (Or.inl ⟨by rfl, ?_⟩) (by assumption) ?_
  rotate_left
  · (intro w hSw; (try dsimp only at hSw); go_simp; try with_reducible rfl)
  try simp only [Act.put, List.setIfInBounds_toArray, List.set_cons_zero, List.set_cons_succ]
  refine wpAnyH_take (i := 17) (oi := ({ dst := some 27, op := Op.move (Operand.tmp 0), type := 23, pos := "law.go:93", after := #[{ on := 16, ground := Ground.guard }], guard := some (16, true) } : Oper)) (v := ?_) rfl (by kernel_rfl) (by kernel_rfl) (by kernel_rfl) (fun _ _ _ h => h) (Or.inl ⟨by rfl, ?_⟩) (by assumption) ?_
  rotate_left
  · (intro w hSw; (try dsimp only at hSw); go_simp; try with_reducible rfl)
  try simp only [Act.put, List.setIfInBounds_toArray, List.set_cons_zero, List.set_cons_succ]
  refine wpAnyH_take (i := 19) (oi := ({ dst := some 29, op := Op.move (Operand.tmp 1), type := 26, pos := "law.go:93", after := #[{ on := 16, ground := Ground.guard }], guard := some (16, true) } : Oper)) (v := ?_) rfl (by kernel_rfl) (by kernel_rfl) (by kernel_rfl) (fun _ _ _ h => h) (Or.inl ⟨by rfl, ?_⟩) (by assumption) ?_
  rotate_left
  · (intro w hSw; (try dsimp only at hSw); go_simp; try with_reducible rfl)
  try simp only [Act.put, List.setIfInBounds_toArray, List.set_cons_zero, List.set_cons_succ]
  refine wpAnyH_take (i := 20) (oi := ({ dst := some 30, op := Op.nilCheck (Operand.tmp 29), type := 0, pos := "law.go:93", after := #[{ on := 19, ground := Ground.data }, { on := 16, ground := Ground.guard }], guard := some (16, true) } : Oper)) (v := ?_) rfl (by kernel_rfl) (by kernel_rfl) (by kernel_rfl) (fun _ _ _ h => h) (Or.inl ⟨by rfl, ?_⟩) (by assumption) ?_
  rotate_left
  · (intro w hSw; (try dsimp only at hSw); go_simp; try with_reducible rfl)
  try simp only [Act.put, List.setIfInBounds_toArray, List.set_cons_zero, List.set_cons_succ]
  refine wpAnyH_take (i := 21) (oi := ({ dst := some 31, op := Op.fieldAddr 30 (Operand.tmp 30) 0, type := 0, pos := "law.go:93", after := #[{ on := 20, ground := Ground.data }, { on := 16, ground := Ground.guard }], guard := some (16, true) } : Oper)) (v := ?_) rfl (by kernel_rfl) (by kernel_rfl) (by kernel_rfl) (fun _ _ _ h => h) (Or.inl ⟨by rfl, ?_⟩) (by assumption) ?_
  rotate_left
  · (intro w hSw; (try dsimp only at hSw); go_simp; try with_reducible rfl)
  try simp only [Act.put, List.setIfInBounds_toArray, List.set_cons_zero, List.set_cons_succ]
  refine wpAnyH_take (i := 22) (oi := ({ dst := some 32, op := Op.load 27 (Operand.tmp 31), type := 27, pos := "law.go:93", after := #[{ on := 21, ground := Ground.data }, { on := 16, ground := Ground.guard }], guard := some (16, true) } : Oper)) (v := ?_) rfl (by kernel_rfl) (by kernel_rfl) (by kernel_rfl) (fun _ _ _ h => h) (Or.inl ⟨by rfl, ?_⟩) (by assumption) ?_
  rotate_left
  · (intro w hSw; (try dsimp only at hSw); go_simp; try with_reducible rfl)
  try simp only [Act.put, List.setIfInBounds_toArray, List.set_cons_zero, List.set_cons_succ]
  refine wpAnyH_ready (rs := [18]) (by kernel_rfl) (by simp) ?_
  refine AllReadyH.cons rfl (fun K hK => ?_) AllReadyH.nil
  go_simp
  go_wp2_with (go_at_call 20; refine (HSI.out _ q2).mono ?_; rintro e w3 ⟨rfl, hw3⟩; rw [hw3]; clear hw3 w3)
  refine hK.out _ _ (by assumption) (fun hHeld => ?_)
  clear hK K
  refine wpAnyH_ready (rs := [23]) (by kernel_rfl) (by simp) ?_
  refine AllReadyH.cons rfl (fun K hK => ?_) AllReadyH.nil
  go_simp
  go_wp2_with (go_at_call 36; refine (HRS.out _ q2).mono ?_; rintro e w4 ⟨rfl, b4⟩; have q4 : Below x w1 w4 := q2.trans (b4.mono (le_s HXX.out q2)); have hS4 := HS.out w4 q4; clear b4)
  refine hK.out _ _ (by assumption) (fun hHeld => ?_)
  clear hK K
  refine wpAnyH_take (i := 24) (oi := ({ dst := some 34, op := Op.binOp BinOp.eql 3 (Operand.tmp 28) (Operand.tmp 33) 3, type := 4, pos := "law.go:93", after := #[{ on := 18, ground := Ground.data }, { on := 23, ground := Ground.data }, { on := 16, ground := Ground.guard }], guard := some (16, true) } : Oper)) (v := ?_) rfl (by kernel_rfl) (by kernel_rfl) (by kernel_rfl) (fun _ _ _ h => h) (Or.inl ⟨by rfl, ?_⟩) (by assumption) ?_
  rotate_left
  · (intro w hSw; (try dsimp only at hSw); go_simp; try with_reducible rfl)
  try simp only [Act.put, List.setIfInBounds_toArray, List.set_cons_zero, List.set_cons_succ]
  refine wpAnyH_take (i := 25) (oi := ({ dst := some 35, op := Op.pick (Operand.tmp 26) (Operand.tmp 34) (Operand.const (Value.bool false)), type := 4, pos := "law.go:93", after := #[{ on := 16, ground := Ground.data }, { on := 24, ground := Ground.data }], guard := none } : Oper)) (v := ?_) rfl (by kernel_rfl) (by kernel_rfl) (by kernel_rfl) (fun _ _ _ h => h) (Or.inl ⟨by rfl, ?_⟩) (by assumption) ?_
  rotate_left
  · (intro w hSw; (try dsimp only at hSw); go_simp; try with_reducible rfl)
  try simp only [Act.put, List.setIfInBounds_toArray, List.set_cons_zero, List.set_cons_succ]
  refine wpAnyH_take (i := 26) (oi := ({ dst := some 36, op := Op.move (Operand.tmp 35), type := 4, pos := "law.go:93", after := #[{ on := 25, ground := Ground.data }, { on := 23, ground := Ground.chain }], guard := none } : Oper)) (v := ?_) rfl (by kernel_rfl) (by kernel_rfl) (by kernel_rfl) (fun _ _ _ h => h) (Or.inl ⟨by rfl, ?_⟩) (by assumption) ?_
  rotate_left
  · (intro w hSw; (try dsimp only at hSw); go_simp; try with_reducible rfl)
  try simp only [Act.put, List.setIfInBounds_toArray, List.set_cons_zero, List.set_cons_succ]
  refine wpAnyH_take (i := 27) (oi := ({ dst := some 37, op := Op.move (Operand.tmp 0), type := 23, pos := "law.go:93", after := #[{ on := 26, ground := Ground.guard }], guard := some (26, true) } : Oper)) (v := ?_) rfl (by kernel_rfl) (by kernel_rfl) (by kernel_rfl) (fun _ _ _ h => h) (Or.inl ⟨by rfl, ?_⟩) (by assumption) ?_
  rotate_left
  · (intro w hSw; (try dsimp only at hSw); go_simp; try with_reducible rfl)
  try simp only [Act.put, List.setIfInBounds_toArray, List.set_cons_zero, List.set_cons_succ]
  refine wpAnyH_take (i := 29) (oi := ({ dst := some 39, op := Op.move (Operand.tmp 1), type := 26, pos := "law.go:93", after := #[{ on := 26, ground := Ground.guard }], guard := some (26, true) } : Oper)) (v := ?_) rfl (by kernel_rfl) (by kernel_rfl) (by kernel_rfl) (fun _ _ _ h => h) (Or.inl ⟨by rfl, ?_⟩) (by assumption) ?_
  rotate_left
  · (intro w hSw; (try dsimp only at hSw); go_simp; try with_reducible rfl)
  try simp only [Act.put, List.setIfInBounds_toArray, List.set_cons_zero, List.set_cons_succ]
  refine wpAnyH_ready (rs := [28]) (by kernel_rfl) (by simp) ?_
  refine AllReadyH.cons rfl (fun K hK => ?_) AllReadyH.nil
  go_simp
  go_wp2_with (go_at_call 17; refine (HLV.out _ q4).mono ?_; rintro e w5 ⟨v5, rfl, r5, b5⟩; have q5 : Below x w1 w5 := q4.trans (b5.mono (le_s HXX.out q4)); have hS5 := HS.out w5 q5; obtain ⟨a5, c5, rfl, ia5⟩ := ia_of_row r5; clear b5)
  refine hK.out _ _ (by assumption) (fun hHeld => ?_)
  clear hK K
  refine wpAnyH_ready (rs := [30]) (by kernel_rfl) (by simp) ?_
  refine AllReadyH.cons rfl (fun K hK => ?_) AllReadyH.nil
  go_simp
  go_wp2_with (go_at_call 37; refine (HRL.out _ q5).mono ?_; rintro e w6 ⟨v6, rfl, r6, b6⟩; have q6 : Below x w1 w6 := q5.trans (b6.mono (le_s HXX.out q5)); have hS6 := HS.out w6 q6; obtain ⟨a6, c6, rfl, ia6⟩ := ia_of_row r6; have ia56 := ia_below ia5 b6)
  refine hK.out _ _ (by assumption) (fun hHeld => ?_)
  clear hK K
  refine wpAnyH_ready (rs := [31]) (by kernel_rfl) (by simp) ?_
  refine AllReadyH.cons rfl (fun K hK => ?_) AllReadyH.nil
  go_simp
  go_wp2_with (go_at_call 25; refine (sameInts_eq a5 a6 c5 c6 _ w6 ia56 ia6 HLL.out).mono ?_; rintro e w7 ⟨rfl, b7⟩; have q7 : Below x w1 w7 := q6.trans (b7.mono (le_s HXX.out q6)); have hS7 := HS.out w7 q7; clear b7)
  refine hK.out _ _ (by assumption) (fun hHeld => ?_)
  clear hK K
  refine wpAnyH_take (i := 32) (oi := ({ dst := some 42, op := Op.pick (Operand.tmp 36) (Operand.tmp 41) (Operand.const (Value.bool false)), type := 4, pos := "law.go:93", after := #[{ on := 26, ground := Ground.data }, { on := 31, ground := Ground.data }], guard := none } : Oper)) (v := ?_) rfl (by kernel_rfl) (by kernel_rfl) (by kernel_rfl) (fun _ _ _ h => h) (Or.inl ⟨by rfl, ?_⟩) (by assumption) ?_
  rotate_left
  · (intro w hSw; (try dsimp only at hSw); go_simp; try with_reducible rfl)
  try simp only [Act.put, List.setIfInBounds_toArray, List.set_cons_zero, List.set_cons_succ]
  refine wpAnyH_take (i := 33) (oi := ({ dst := some 6, op := Op.assign (Operand.tmp 42), type := 4, pos := "law.go:93", after := #[{ on := 32, ground := Ground.data }, { on := 31, ground := Ground.chain }, { on := 0, ground := Ground.phase }, { on := 1, ground := Ground.phase }, { on := 2, ground := Ground.phase }, { on := 3, ground := Ground.phase }, { on := 4, ground := Ground.phase }, { on := 5, ground := Ground.phase }, { on := 6, ground := Ground.phase }, { on := 7, ground := Ground.phase }, { on := 8, ground := Ground.phase }, { on := 9, ground := Ground.phase }, { on := 10, ground := Ground.phase }, { on := 11, ground := Ground.phase }, { on := 12, ground := Ground.phase }, { on := 13, ground := Ground.phase }, { on := 14, ground := Ground.phase }, { on := 15, ground := Ground.phase }, { on := 16, ground := Ground.phase }, { on := 17, ground := Ground.phase }, { on := 18, ground := Ground.phase }, { on := 19, ground := Ground.phase }, { on := 20, ground := Ground.phase }, { on := 21, ground := Ground.phase }, { on := 22, ground := Ground.phase }, { on := 23, ground := Ground.phase }, { on := 24, ground := Ground.phase }, { on := 25, ground := Ground.phase }, { on := 26, ground := Ground.phase }, { on := 27, ground := Ground.phase }, { on := 28, ground := Ground.phase }, { on := 29, ground := Ground.phase }, { on := 30, ground := Ground.phase }, { on := 31, ground := Ground.phase }, { on := 32, ground := Ground.phase }], guard := none } : Oper)) (v := ?_) rfl (by kernel_rfl) (by kernel_rfl) (by kernel_rfl) (fun _ _ _ h => h) (Or.inl ⟨by rfl, ?_⟩) (by assumption) ?_
  rotate_left
  · (intro w hSw; (try dsimp only at hSw); go_simp; try with_reducible rfl)
  try simp only [Act.put, List.setIfInBounds_toArray, List.set_cons_zero, List.set_cons_succ]
  refine wpAnyH_done (by kernel_rfl) ?_ _
  go_wp2_with fail
  go_loopw [45] (fun i wr => ∃ k' : Nat, k' ≤ N ∧ i = .int .i64 ((k' : Nat) : Int) ∧ Hid (Below w.heap.size w wr) ∧ Hid (WipeAt wr va N)) (fun i _ => N - (intOf i).toNat)
  case atStart =>
    exact ⟨0, by omega, rfl, HB1.out.trans (q7.mono (by rw [← HXX.out]; exact HB1.out.size)), wipe_row (HRW.out _ q7)⟩
  case round =>
    obtain ⟨k', hk', rfl, HB, HW⟩ := hrel
    by_cases hlt : k' < N
    · have hlz : ((k' : Nat) : Int) < ((N : Nat) : Int) := by omega
      have hNL := HSZ.out.2.2.2.2.2.1
      obtain ⟨vb, cur, rfl, hh, hcs⟩ := HW.out.resolve_left (by omega)
      obtain ⟨u0, e0⟩ : ∃ u, cur[k' * 4]? = some u := ⟨_, Array.getElem?_eq_getElem (by omega)⟩
      have c0 : wr.cell? ⟨vb, k' * 4, none⟩ = some u0 := cell_of_block hh e0
      obtain ⟨u1, e1⟩ : ∃ u, cur[k' * 4 + 1]? = some u := ⟨_, Array.getElem?_eq_getElem (by omega)⟩
      have c1 : wr.cell? ⟨vb, k' * 4 + 1, none⟩ = some u1 := cell_of_block hh e1
      obtain ⟨u2, e2⟩ : ∃ u, cur[k' * 4 + 2]? = some u := ⟨_, Array.getElem?_eq_getElem (by omega)⟩
      have c2 : wr.cell? ⟨vb, k' * 4 + 2, none⟩ = some u2 := cell_of_block hh e2
      obtain ⟨u3, e3⟩ : ∃ u, cur[k' * 4 + 3]? = some u := ⟨_, Array.getElem?_eq_getElem (by omega)⟩
      have c3 : wr.cell? ⟨vb, k' * 4 + 3, none⟩ = some u3 := cell_of_block hh e3
      have f0 := free_of_block hh (k' * 4)
      have f1 := free_of_block hh (k' * 4 + 1)
      have f2 := free_of_block hh (k' * 4 + 2)
      have f3 := free_of_block hh (k' * 4 + 3)
      have HH : Hid _ := hh
      have HCS : Hid (N * 4 ≤ cur.size) := hcs
      have HVB : Hid (w.heap.size ≤ vb) := (World.ownsRow.lt (HRW.out w1 (Below.refl _ _)) vb rfl).1
      clear hh hcs HW e0 e1 e2 e3
      go_wp2_with fail
      refine ⟨⟨k' + 1, by omega, by go_num, ?_, ?_⟩, ?_⟩
      · have hv := HVB.out
        exact (((HB.out.setCell (p := ⟨vb, k' * 4, none⟩) hv _).setCell (p := ⟨vb, k' * 4 + 1, none⟩) hv _).setCell (p := ⟨vb, k' * 4 + 2, none⟩) hv _).setCell (p := ⟨vb, k' * 4 + 3, none⟩) hv _
      · exact .inr ⟨vb, _, rfl, set_block (set_block (set_block (set_block HH.out _ _) _ _) _ _) _ _, by simpa using HCS.out⟩
      · simp [intOf]; omega
    · obtain rfl : k' = N := by omega
      go_wp2_with fail
      go_ret
      exact ⟨rfl, HB.out⟩
end Go.Proofs.Ytdgmjmohfpjlnaa
