/-
  The contract of the twin's Fork.
-/
import Derived.Test.YtdgmjmohfpjlnaaPrc
namespace Go.Proofs.Ytdgmjmohfpjlnaa
open Go.RowKit Go.Shelf
/-- append onto a row of one's own, as a step of a region that draws. -/
theorem step_append_any {P : Program} {ops : Array Oper} {o : Oper} {a : Act} {w : World} {K : Act → World → Prop} {Q : Exit → Act → World → Prop} {E : Prop}
    (hg : o.guard = none) (s x : Operand) (t : TypeId) (hop : o.op = Op.call { callee := Callee.builtin Builtin.append, args := #[s, x], argTypes := #[t, t] })
    (base : Nat) (e : TypeId) (i : TypeInfo) (z : Value) (size bytes : Nat) (h1 : P.underlying t = some (.slice e)) (h2 : P.info? e = some i) (h3 : i.zero = some z) (h4 : i.size = size) (h5 : i.bytes = bytes) (h6 : z.cells.size = size) (h7 : 0 < size)
    (v : Value) (n : Nat) (xs : List Value) (hs : a.eval s = v) (hown : w.ownsRow base e size v n xs)
    (ao : Option Addr) (m c : Nat) (news : List Value) (hx : a.eval x = .slice ao m c) (hno : ao = none → m = 0 ∧ c = 0) (hl : news.length = m * size) (hnews : ∀ ad, ao = some ad → ∀ j u, news[j]? = some u → w.cell? (ad.add j) = some u) (h1c : ∀ u ∈ news, u.oneCell' = true)
    (b1 : n + m ≤ maxLen) (b2 : (n + m) * bytes ≤ 140737488355328) (hbase : base ≤ w.heap.size)
    (hK : ∀ v' w', w'.ownsRow base e size v' (n + m) (xs ++ news) → w.grownBy w' v.ownBlock → K (a.put o.dst v') w') :
    if Region.wanted o (yielded ops a.tmps) = true then Oper.wp P o a w K Q else E := by
  have hw : Region.wanted o (yielded ops a.tmps) = true := by simp [Region.wanted, hg]
  rw [if_pos hw]
  cases ao with
  | none =>
    obtain ⟨rfl, rfl⟩ := hno rfl
    have hn : news = [] := List.eq_nil_of_length_eq_zero (by rw [hl]; omega)
    have hrun := run_append_owned_none (P := P) (w := w) base t o.type e i size h1 h2 v n xs hown
    unfold Oper.wp
    simp [execOp, hop, resolve, invoke, builtin, hs, hx, hrun, Result.andThen]
    exact hK _ _ (by rw [hn, List.append_nil]; exact hown) ⟨rfl, rfl, rfl, Nat.le_refl _, fun _ _ _ => rfl⟩
  | some ad =>
    obtain ⟨v', w', hrun, r1, r2, _⟩ := run_append_own (P := P) w base t o.type e i z size bytes h1 h2 h3 h4 h5 h6 h7 v n xs hown ad m c news hl (hnews ad rfl) h1c b1 b2 hbase
    unfold Oper.wp
    simp [execOp, hop, resolve, invoke, builtin, hs, hx, hrun, Result.andThen]
    exact hK v' w' r1 r2
theorem emp_new (W : World) (e z s : Nat) (hs : s ≤ W.heap.size) : (W.alloc (.cells #[] e)).ownsRow s e z (.slice (some ⟨W.heap.size, 0, none⟩) 0 0) 0 [] :=
  ⟨by simp, Or.inr ⟨W.heap.size, 0, #[], rfl, hs, World.alloc_heap_new _ _, Nat.le_refl _, by simp, by simp, by simp⟩⟩
theorem rowal {W V : World} {o : Obj} {s e z n : Nat} {v : Value} {xs : List Value} (h : W.ownsRow s e z v n xs) (k : W.alloc o = V) : V.ownsRow s e z v n xs := by rw [← k]; exact World.ownsRow.alloc h _
theorem row_form1 {W : World} {B n : Nat} {v : Value} {xs : List Value} (h : W.ownsRow B 3 1 v n xs) : ∃ a c, v = .slice a n c := by
  rcases h.2 with ⟨rfl, h0⟩ | ⟨g, cap, cur, rfl, _⟩
  · obtain ⟨rfl, _⟩ := h0
    exact ⟨none, 0, rfl⟩
  · exact ⟨_, _, rfl⟩
theorem le_s {w W : World} {s : Nat} (e : w.heap.size = s) (b : Below s w W) : s ≤ W.heap.size := e ▸ b.size
theorem flC_one (L : List Cl) : ∀ u ∈ flC L, u.oneCell' = true := by
  intro u hu
  obtain ⟨j, hj⟩ := List.getElem?_of_mem hu
  obtain ⟨c, _, h2⟩ := flC_at hj
  have := List.mem_of_getElem? h2
  simp only [clL, List.mem_cons, List.not_mem_nil, or_false] at this
  rcases this with rfl | rfl | rfl | rfl <;> rfl
theorem ints_one (H : List Nat) : ∀ u ∈ intsV H, u.oneCell' = true := by
  intro u hu
  obtain ⟨x, _, rfl⟩ := List.mem_map.1 hu
  rfl
set_option maxRecDepth 20000 in
set_option maxHeartbeats 8000000 in
theorem rfork_any (s0 r : Nat) (L : List Cl) (H : List Nat) (ca : Option Addr) (cc : Nat) (ha : Option Addr) (hc : Nat) (w : World) (h : RA s0 w r L H ca cc ha hc) (hn : L.length ≤ 4000000) :
    Calls Try.prog 15 #[.pointer (some ⟨r, 0, none⟩)] w fun e w' => ∃ r' ca' cc' ha' hc', e = .returned (.pointer (some ⟨r', 0, none⟩)) ∧ RA w.heap.size w' r' L H ca' cc' ha' hc' ∧ Below w.heap.size w w' ∧ w.heap.size ≤ r' := by
  obtain ⟨i0, hi, hz0, hz1, hz2⟩ := info_parts info33
  obtain ⟨i3, hi3, hy0, hy1, hy2⟩ := info_parts info3
  obtain ⟨s, hs⟩ : ∃ s, w.heap.size = s := ⟨_, rfl⟩
  rw [hs]
  have HL : Hid (L.length ≤ 4000000) := hn
  have HRA : ∀ V, Below s w V → RA s0 V r L H ca cc ha hc := fun V hV => h.below (by rw [hs]; exact hV)
  have HS : Hid (∀ V, Below s w V → V.cell? ⟨r, 0, none⟩ = some (.slice ca L.length cc) ∧ V.cell? ⟨r, 1, none⟩ = some (.slice ha L.length hc)) := fun V hV => (HRA V hV).f0
  have HF : Hid ((flC L).length = L.length * 4 ∧ (ca = none → L.length = 0 ∧ cc = 0) ∧ (∀ V, Below s w V → ∀ ad, ca = some ad → ∀ j u, (flC L)[j]? = some u → V.cell? (ad.add j) = some u) ∧ (intsV H).length = L.length * 1 ∧ (ha = none → L.length = 0 ∧ hc = 0) ∧ (∀ V, Below s w V → ∀ ad, ha = some ad → ∀ j u, (intsV H)[j]? = some u → V.cell? (ad.add j) = some u) ∧ H.length = L.length) := by
    refine ⟨flC_len L, fun e => nil_row (by have := h.cells; rw [e] at this; exact this), fun V hV ad e j u hj => ?_, by unfold intsV; rw [List.length_map, h.len, Nat.mul_one], fun e => nil_row (by have := h.hts; rw [e] at this; exact this), fun V hV ad e j u hj => ?_, h.len⟩
    · exact news_cells_any (HRA V hV).ca.2 e L.length (by rw [List.take_length]; exact hj)
    · exact news_ints_any (HRA V hV).ia.2 e H.length (by rw [List.take_length]; exact hj)
  have bW : Below s w w.drew := (Below.refl _ _).drew
  have HZ : Hid (w.heap.size = s) := hs
  clear h hs HRA hn
  go_enter Try.func15, Try.ntmps15
  go_wp2_with fail
  obtain ⟨X0, hX0⟩ : ∃ V, w.drew = V := ⟨_, rfl⟩
  refine wp_region_held_drew (S := fun W => W.cell? ⟨r, 0, none⟩ = some (.slice ca L.length cc) ∧ W.cell? ⟨r, 1, none⟩ = some (.slice ha L.length hc)) (by kernel_rfl) (HS.out _ bW) (fun hHeld => ?_)
  rw [hX0] at hHeld bW ⊢
  have bX0 := bW
  clear bW hX0
  refine wpAnyH_take (i := 1) (oi := ({ dst := some 4, op := Op.move (Operand.tmp 0), type := 26, pos := "ref.go:109", after := #[], guard := none } : Oper)) (v := ?_) rfl (by kernel_rfl) (by kernel_rfl) (by kernel_rfl) (fun _ _ _ h => h) (Or.inl ⟨by rfl, ?_⟩) (by assumption) ?_
  rotate_left
  · (intro w hSw; (try dsimp only at hSw); go_simp; try with_reducible rfl)
  try simp only [Act.put, List.setIfInBounds_toArray, List.set_cons_zero, List.set_cons_succ]
  refine wpAnyH_take (i := 2) (oi := ({ dst := some 5, op := Op.nilCheck (Operand.tmp 4), type := 0, pos := "ref.go:109", after := #[{ on := 1, ground := Ground.data }], guard := none } : Oper)) (v := ?_) rfl (by kernel_rfl) (by kernel_rfl) (by kernel_rfl) (fun _ _ _ h => h) (Or.inl ⟨by rfl, ?_⟩) (by assumption) ?_
  rotate_left
  · (intro w hSw; (try dsimp only at hSw); go_simp; try with_reducible rfl)
  try simp only [Act.put, List.setIfInBounds_toArray, List.set_cons_zero, List.set_cons_succ]
  refine wpAnyH_take (i := 3) (oi := ({ dst := some 6, op := Op.fieldAddr 30 (Operand.tmp 5) 0, type := 0, pos := "ref.go:109", after := #[{ on := 2, ground := Ground.data }], guard := none } : Oper)) (v := ?_) rfl (by kernel_rfl) (by kernel_rfl) (by kernel_rfl) (fun _ _ _ h => h) (Or.inl ⟨by rfl, ?_⟩) (by assumption) ?_
  rotate_left
  · (intro w hSw; (try dsimp only at hSw); go_simp; try with_reducible rfl)
  try simp only [Act.put, List.setIfInBounds_toArray, List.set_cons_zero, List.set_cons_succ]
  refine wpAnyH_take (i := 4) (oi := ({ dst := some 7, op := Op.load 27 (Operand.tmp 6), type := 27, pos := "ref.go:109", after := #[{ on := 3, ground := Ground.data }], guard := none } : Oper)) (v := ?_) rfl (by kernel_rfl) (by kernel_rfl) (by kernel_rfl) (fun _ _ _ h => h) (Or.inl ⟨by rfl, ?_⟩) (by assumption) ?_
  rotate_left
  · (intro w hSw; (try dsimp only at hSw); go_simp; try with_reducible rfl)
  try simp only [Act.put, List.setIfInBounds_toArray, List.set_cons_zero, List.set_cons_succ]
  refine wpAnyH_take (i := 7) (oi := ({ dst := some 10, op := Op.move (Operand.tmp 0), type := 26, pos := "ref.go:109", after := #[], guard := none } : Oper)) (v := ?_) rfl (by kernel_rfl) (by kernel_rfl) (by kernel_rfl) (fun _ _ _ h => h) (Or.inl ⟨by rfl, ?_⟩) (by assumption) ?_
  rotate_left
  · (intro w hSw; (try dsimp only at hSw); go_simp; try with_reducible rfl)
  try simp only [Act.put, List.setIfInBounds_toArray, List.set_cons_zero, List.set_cons_succ]
  refine wpAnyH_take (i := 8) (oi := ({ dst := some 11, op := Op.nilCheck (Operand.tmp 10), type := 0, pos := "ref.go:109", after := #[{ on := 7, ground := Ground.data }], guard := none } : Oper)) (v := ?_) rfl (by kernel_rfl) (by kernel_rfl) (by kernel_rfl) (fun _ _ _ h => h) (Or.inl ⟨by rfl, ?_⟩) (by assumption) ?_
  rotate_left
  · (intro w hSw; (try dsimp only at hSw); go_simp; try with_reducible rfl)
  try simp only [Act.put, List.setIfInBounds_toArray, List.set_cons_zero, List.set_cons_succ]
  refine wpAnyH_take (i := 9) (oi := ({ dst := some 12, op := Op.fieldAddr 30 (Operand.tmp 11) 1, type := 0, pos := "ref.go:109", after := #[{ on := 8, ground := Ground.data }], guard := none } : Oper)) (v := ?_) rfl (by kernel_rfl) (by kernel_rfl) (by kernel_rfl) (fun _ _ _ h => h) (Or.inl ⟨by rfl, ?_⟩) (by assumption) ?_
  rotate_left
  · (intro w hSw; (try dsimp only at hSw); go_simp; try with_reducible rfl)
  try simp only [Act.put, List.setIfInBounds_toArray, List.set_cons_zero, List.set_cons_succ]
  refine wpAnyH_take (i := 10) (oi := ({ dst := some 13, op := Op.load 28 (Operand.tmp 12), type := 28, pos := "ref.go:109", after := #[{ on := 9, ground := Ground.data }], guard := none } : Oper)) (v := ?_) rfl (by kernel_rfl) (by kernel_rfl) (by kernel_rfl) (fun _ _ _ h => h) (Or.inl ⟨by rfl, ?_⟩) (by assumption) ?_
  rotate_left
  · (intro w hSw; (try dsimp only at hSw); go_simp; try with_reducible rfl)
  try simp only [Act.put, List.setIfInBounds_toArray, List.set_cons_zero, List.set_cons_succ]
  refine wpAnyH_ready (rs := [0, 6]) (by kernel_rfl) (by simp) ?_
  refine AllReadyH.cons rfl (fun K hK => ?_) ?_
  ·
    go_simp
    obtain ⟨X1, hX1⟩ : ∃ V, X0.alloc (.cells #[] 33) = V := ⟨_, rfl⟩
    rw [hX1]
    have bX1 : Below s w X1 := by rw [← hX1]; exact bX0.alloc (le_s HZ.out bX0) _
    have rAX1 : X1.ownsRow s 33 4 (.slice (some ⟨X0.heap.size, 0, none⟩) 0 0) 0 [] := by rw [← hX1]; exact emp_new X0 33 4 s (le_s HZ.out bX0)
    obtain ⟨pA, hpA⟩ : ∃ q, X0.heap.size = q := ⟨_, rfl⟩
    rw [hpA] at rAX1 ⊢
    clear hX1
    refine hK.out _ _ (HS.out _ bX1) (fun hHeld => ?_)
    clear hK K
    refine wpAnyH_ready (rs := [5, 6]) (by kernel_rfl) (by simp) ?_
    refine AllReadyH.cons rfl (fun K hK => ?_) ?_
    ·
      refine step_append_any rfl (.tmp 3) (.tmp 7) 27 rfl s 33 i0 (.agg #[.string ByteArray.empty, .int .u64 0, .string ByteArray.empty, .bool false]) 4 48 Try.underlying27 hi hz0 hz1 hz2 rfl (by decide) _ 0 [] rfl rAX1 ca L.length cc (flC L) rfl HF.out.2.1 HF.out.1 (fun ad e => HF.out.2.2.1 X1 bX1 ad e) (flC_one L) (by unfold maxLen; have := HL.out; omega) (by have := HL.out; omega) (le_s HZ.out bX1) ?_
      intro vB X2 own gX2
      have rBX2 : X2.ownsRow s 33 4 vB L.length (flC L) := by rw [Nat.zero_add, List.nil_append] at own; exact own
      clear own
      have bX2 : Below s w X2 := bX1.grown gX2 (le_s HZ.out bX1) (fun k e => (World.ownsRow.lt rAX1 k e).1)
      obtain ⟨aB, cB, rfl⟩ := row_form4 rBX2
      clear gX2
      refine hK.out _ _ (HS.out _ bX2) (fun hHeld => ?_)
      clear hK K
      refine wpAnyH_ready (rs := [6]) (by kernel_rfl) (by simp) ?_
      refine AllReadyH.cons rfl (fun K hK => ?_) AllReadyH.nil
      go_simp
      obtain ⟨X3, hX3⟩ : ∃ V, X2.alloc (.cells #[] 3) = V := ⟨_, rfl⟩
      rw [hX3]
      have bX3 : Below s w X3 := by rw [← hX3]; exact bX2.alloc (le_s HZ.out bX2) _
      have rCX3 : X3.ownsRow s 3 1 (.slice (some ⟨X2.heap.size, 0, none⟩) 0 0) 0 [] := by rw [← hX3]; exact emp_new X2 3 1 s (le_s HZ.out bX2)
      obtain ⟨pC, hpC⟩ : ∃ q, X2.heap.size = q := ⟨_, rfl⟩
      rw [hpC] at rCX3 ⊢
      have rBX3 := rowal rBX2 hX3
      clear hX3
      refine hK.out _ _ (HS.out _ bX3) (fun hHeld => ?_)
      clear hK K
      refine wpAnyH_ready (rs := [11]) (by kernel_rfl) (by simp) ?_
      refine AllReadyH.cons rfl (fun K hK => ?_) AllReadyH.nil
      refine step_append_any rfl (.tmp 9) (.tmp 13) 28 rfl s 3 i3 (.int .i64 0) 1 8 Try.underlying28 hi3 hy0 hy1 hy2 rfl (by decide) _ 0 [] rfl rCX3 ha L.length hc (intsV H) rfl HF.out.2.2.2.2.1 HF.out.2.2.2.1 (fun ad e => HF.out.2.2.2.2.2.1 X3 bX3 ad e) (ints_one H) (by unfold maxLen; have := HL.out; omega) (by have := HL.out; omega) (le_s HZ.out bX3) ?_
      intro vD X4 own gX4
      have rDX4 : X4.ownsRow s 3 1 vD L.length (intsV H) := by rw [Nat.zero_add, List.nil_append] at own; exact own
      clear own
      have bX4 : Below s w X4 := bX3.grown gX4 (le_s HZ.out bX3) (fun k e => (World.ownsRow.lt rCX3 k e).1)
      have rBX4 := row_stays rBX3 rCX3 (by decide) gX4
      obtain ⟨aD, cD, rfl⟩ := row_form1 rDX4
      clear gX4
      refine hK.out _ _ (HS.out _ bX4) (fun hHeld => ?_)
      clear hK K
      refine wpAnyH_take (i := 12) (oi := ({ dst := some 15, op := Op.build 30 #[(0, Operand.tmp 8), (1, Operand.tmp 14)], type := 30, pos := "ref.go:109", after := #[{ on := 5, ground := Ground.data }, { on := 11, ground := Ground.data }], guard := none } : Oper)) (v := ?_) rfl (by kernel_rfl) (by kernel_rfl) (by kernel_rfl) (fun _ _ _ h => h) (Or.inl ⟨by rfl, ?_⟩) (by assumption) ?_
      rotate_left
      · (intro w hSw; (try dsimp only at hSw); go_simp; try with_reducible rfl)
      try simp only [Act.put, List.setIfInBounds_toArray]
      refine wpAnyH_ready (rs := [13]) (by kernel_rfl) (by simp) ?_
      refine AllReadyH.cons rfl (fun K hK => ?_) AllReadyH.nil
      go_simp
      have bX5 : Below s w (X4.alloc (.cells #[.slice aB L.length cB, .slice aD L.length cD] 30)) := bX4.alloc (le_s HZ.out bX4) _
      have HE : Hid (RA s (X4.alloc (.cells #[.slice aB L.length cB, .slice aD L.length cD] 30)) X4.heap.size L H aB cB aD cD ∧ Below s w (X4.alloc (.cells #[.slice aB L.length cB, .slice aD L.length cD] 30)) ∧ s ≤ X4.heap.size) := ⟨⟨block_alloc_at _ _, World.ownsRow.alloc rBX4 _, World.ownsRow.alloc rDX4 _, HF.out.2.2.2.2.2.2⟩, bX5, (le_s HZ.out bX4)⟩
      refine hK.out _ _ (HS.out _ bX5) (fun hHeld => ?_)
      clear hK K
      refine wpAnyH_take (i := 14) (oi := ({ dst := some 2, op := Op.assign (Operand.tmp 16), type := 26, pos := "ref.go:109", after := #[{ on := 13, ground := Ground.data }, { on := 11, ground := Ground.chain }, { on := 0, ground := Ground.phase }, { on := 1, ground := Ground.phase }, { on := 2, ground := Ground.phase }, { on := 3, ground := Ground.phase }, { on := 4, ground := Ground.phase }, { on := 5, ground := Ground.phase }, { on := 6, ground := Ground.phase }, { on := 7, ground := Ground.phase }, { on := 8, ground := Ground.phase }, { on := 9, ground := Ground.phase }, { on := 10, ground := Ground.phase }, { on := 11, ground := Ground.phase }, { on := 12, ground := Ground.phase }, { on := 13, ground := Ground.phase }], guard := none } : Oper)) (v := ?_) rfl (by kernel_rfl) (by kernel_rfl) (by kernel_rfl) (fun _ _ _ h => h) (Or.inl ⟨by rfl, ?_⟩) (by assumption) ?_
      rotate_left
      · (intro w hSw; (try dsimp only at hSw); go_simp; try with_reducible rfl)
      try simp only [Act.put, List.setIfInBounds_toArray, List.set_cons_zero, List.set_cons_succ]
      refine wpAnyH_done (by kernel_rfl) ?_ _
      go_wp2_with fail
      go_ret
      exact ⟨_, _, _, _, _, rfl, HE.out⟩
    refine AllReadyH.cons rfl (fun K hK => ?_) AllReadyH.nil
    go_simp
    obtain ⟨X2, hX2⟩ : ∃ V, X1.alloc (.cells #[] 3) = V := ⟨_, rfl⟩
    rw [hX2]
    have bX2 : Below s w X2 := by rw [← hX2]; exact bX1.alloc (le_s HZ.out bX1) _
    have rCX2 : X2.ownsRow s 3 1 (.slice (some ⟨X1.heap.size, 0, none⟩) 0 0) 0 [] := by rw [← hX2]; exact emp_new X1 3 1 s (le_s HZ.out bX1)
    obtain ⟨pC, hpC⟩ : ∃ q, X1.heap.size = q := ⟨_, rfl⟩
    rw [hpC] at rCX2 ⊢
    have rAX2 := rowal rAX1 hX2
    clear hX2
    refine hK.out _ _ (HS.out _ bX2) (fun hHeld => ?_)
    clear hK K
    refine wpAnyH_ready (rs := [5]) (by kernel_rfl) (by simp) ?_
    refine AllReadyH.cons rfl (fun K hK => ?_) AllReadyH.nil
    refine step_append_any rfl (.tmp 3) (.tmp 7) 27 rfl s 33 i0 (.agg #[.string ByteArray.empty, .int .u64 0, .string ByteArray.empty, .bool false]) 4 48 Try.underlying27 hi hz0 hz1 hz2 rfl (by decide) _ 0 [] rfl rAX2 ca L.length cc (flC L) rfl HF.out.2.1 HF.out.1 (fun ad e => HF.out.2.2.1 X2 bX2 ad e) (flC_one L) (by unfold maxLen; have := HL.out; omega) (by have := HL.out; omega) (le_s HZ.out bX2) ?_
    intro vB X3 own gX3
    have rBX3 : X3.ownsRow s 33 4 vB L.length (flC L) := by rw [Nat.zero_add, List.nil_append] at own; exact own
    clear own
    have bX3 : Below s w X3 := bX2.grown gX3 (le_s HZ.out bX2) (fun k e => (World.ownsRow.lt rAX2 k e).1)
    have rCX3 := row_stays rCX2 rAX2 (by decide) gX3
    obtain ⟨aB, cB, rfl⟩ := row_form4 rBX3
    clear gX3
    refine hK.out _ _ (HS.out _ bX3) (fun hHeld => ?_)
    clear hK K
    refine wpAnyH_ready (rs := [11]) (by kernel_rfl) (by simp) ?_
    refine AllReadyH.cons rfl (fun K hK => ?_) AllReadyH.nil
    refine step_append_any rfl (.tmp 9) (.tmp 13) 28 rfl s 3 i3 (.int .i64 0) 1 8 Try.underlying28 hi3 hy0 hy1 hy2 rfl (by decide) _ 0 [] rfl rCX3 ha L.length hc (intsV H) rfl HF.out.2.2.2.2.1 HF.out.2.2.2.1 (fun ad e => HF.out.2.2.2.2.2.1 X3 bX3 ad e) (ints_one H) (by unfold maxLen; have := HL.out; omega) (by have := HL.out; omega) (le_s HZ.out bX3) ?_
    intro vD X4 own gX4
    have rDX4 : X4.ownsRow s 3 1 vD L.length (intsV H) := by rw [Nat.zero_add, List.nil_append] at own; exact own
    clear own
    have bX4 : Below s w X4 := bX3.grown gX4 (le_s HZ.out bX3) (fun k e => (World.ownsRow.lt rCX3 k e).1)
    have rBX4 := row_stays rBX3 rCX3 (by decide) gX4
    obtain ⟨aD, cD, rfl⟩ := row_form1 rDX4
    clear gX4
    refine hK.out _ _ (HS.out _ bX4) (fun hHeld => ?_)
    clear hK K
    refine wpAnyH_take (i := 12) (oi := ({ dst := some 15, op := Op.build 30 #[(0, Operand.tmp 8), (1, Operand.tmp 14)], type := 30, pos := "ref.go:109", after := #[{ on := 5, ground := Ground.data }, { on := 11, ground := Ground.data }], guard := none } : Oper)) (v := ?_) rfl (by kernel_rfl) (by kernel_rfl) (by kernel_rfl) (fun _ _ _ h => h) (Or.inl ⟨by rfl, ?_⟩) (by assumption) ?_
    rotate_left
    · (intro w hSw; (try dsimp only at hSw); go_simp; try with_reducible rfl)
    try simp only [Act.put, List.setIfInBounds_toArray]
    refine wpAnyH_ready (rs := [13]) (by kernel_rfl) (by simp) ?_
    refine AllReadyH.cons rfl (fun K hK => ?_) AllReadyH.nil
    go_simp
    have bX5 : Below s w (X4.alloc (.cells #[.slice aB L.length cB, .slice aD L.length cD] 30)) := bX4.alloc (le_s HZ.out bX4) _
    have HE : Hid (RA s (X4.alloc (.cells #[.slice aB L.length cB, .slice aD L.length cD] 30)) X4.heap.size L H aB cB aD cD ∧ Below s w (X4.alloc (.cells #[.slice aB L.length cB, .slice aD L.length cD] 30)) ∧ s ≤ X4.heap.size) := ⟨⟨block_alloc_at _ _, World.ownsRow.alloc rBX4 _, World.ownsRow.alloc rDX4 _, HF.out.2.2.2.2.2.2⟩, bX5, (le_s HZ.out bX4)⟩
    refine hK.out _ _ (HS.out _ bX5) (fun hHeld => ?_)
    clear hK K
    refine wpAnyH_take (i := 14) (oi := ({ dst := some 2, op := Op.assign (Operand.tmp 16), type := 26, pos := "ref.go:109", after := #[{ on := 13, ground := Ground.data }, { on := 11, ground := Ground.chain }, { on := 0, ground := Ground.phase }, { on := 1, ground := Ground.phase }, { on := 2, ground := Ground.phase }, { on := 3, ground := Ground.phase }, { on := 4, ground := Ground.phase }, { on := 5, ground := Ground.phase }, { on := 6, ground := Ground.phase }, { on := 7, ground := Ground.phase }, { on := 8, ground := Ground.phase }, { on := 9, ground := Ground.phase }, { on := 10, ground := Ground.phase }, { on := 11, ground := Ground.phase }, { on := 12, ground := Ground.phase }, { on := 13, ground := Ground.phase }], guard := none } : Oper)) (v := ?_) rfl (by kernel_rfl) (by kernel_rfl) (by kernel_rfl) (fun _ _ _ h => h) (Or.inl ⟨by rfl, ?_⟩) (by assumption) ?_
    rotate_left
    · (intro w hSw; (try dsimp only at hSw); go_simp; try with_reducible rfl)
    try simp only [Act.put, List.setIfInBounds_toArray, List.set_cons_zero, List.set_cons_succ]
    refine wpAnyH_done (by kernel_rfl) ?_ _
    go_wp2_with fail
    go_ret
    exact ⟨_, _, _, _, _, rfl, HE.out⟩
  refine AllReadyH.cons rfl (fun K hK => ?_) AllReadyH.nil
  go_simp
  obtain ⟨X1, hX1⟩ : ∃ V, X0.alloc (.cells #[] 3) = V := ⟨_, rfl⟩
  rw [hX1]
  have bX1 : Below s w X1 := by rw [← hX1]; exact bX0.alloc (le_s HZ.out bX0) _
  have rCX1 : X1.ownsRow s 3 1 (.slice (some ⟨X0.heap.size, 0, none⟩) 0 0) 0 [] := by rw [← hX1]; exact emp_new X0 3 1 s (le_s HZ.out bX0)
  obtain ⟨pC, hpC⟩ : ∃ q, X0.heap.size = q := ⟨_, rfl⟩
  rw [hpC] at rCX1 ⊢
  clear hX1
  refine hK.out _ _ (HS.out _ bX1) (fun hHeld => ?_)
  clear hK K
  refine wpAnyH_ready (rs := [0]) (by kernel_rfl) (by simp) ?_
  refine AllReadyH.cons rfl (fun K hK => ?_) AllReadyH.nil
  go_simp
  obtain ⟨X2, hX2⟩ : ∃ V, X1.alloc (.cells #[] 33) = V := ⟨_, rfl⟩
  rw [hX2]
  have bX2 : Below s w X2 := by rw [← hX2]; exact bX1.alloc (le_s HZ.out bX1) _
  have rAX2 : X2.ownsRow s 33 4 (.slice (some ⟨X1.heap.size, 0, none⟩) 0 0) 0 [] := by rw [← hX2]; exact emp_new X1 33 4 s (le_s HZ.out bX1)
  obtain ⟨pA, hpA⟩ : ∃ q, X1.heap.size = q := ⟨_, rfl⟩
  rw [hpA] at rAX2 ⊢
  have rCX2 := rowal rCX1 hX2
  clear hX2
  refine hK.out _ _ (HS.out _ bX2) (fun hHeld => ?_)
  clear hK K
  refine wpAnyH_ready (rs := [5]) (by kernel_rfl) (by simp) ?_
  refine AllReadyH.cons rfl (fun K hK => ?_) AllReadyH.nil
  refine step_append_any rfl (.tmp 3) (.tmp 7) 27 rfl s 33 i0 (.agg #[.string ByteArray.empty, .int .u64 0, .string ByteArray.empty, .bool false]) 4 48 Try.underlying27 hi hz0 hz1 hz2 rfl (by decide) _ 0 [] rfl rAX2 ca L.length cc (flC L) rfl HF.out.2.1 HF.out.1 (fun ad e => HF.out.2.2.1 X2 bX2 ad e) (flC_one L) (by unfold maxLen; have := HL.out; omega) (by have := HL.out; omega) (le_s HZ.out bX2) ?_
  intro vB X3 own gX3
  have rBX3 : X3.ownsRow s 33 4 vB L.length (flC L) := by rw [Nat.zero_add, List.nil_append] at own; exact own
  clear own
  have bX3 : Below s w X3 := bX2.grown gX3 (le_s HZ.out bX2) (fun k e => (World.ownsRow.lt rAX2 k e).1)
  have rCX3 := row_stays rCX2 rAX2 (by decide) gX3
  obtain ⟨aB, cB, rfl⟩ := row_form4 rBX3
  clear gX3
  refine hK.out _ _ (HS.out _ bX3) (fun hHeld => ?_)
  clear hK K
  refine wpAnyH_ready (rs := [11]) (by kernel_rfl) (by simp) ?_
  refine AllReadyH.cons rfl (fun K hK => ?_) AllReadyH.nil
  refine step_append_any rfl (.tmp 9) (.tmp 13) 28 rfl s 3 i3 (.int .i64 0) 1 8 Try.underlying28 hi3 hy0 hy1 hy2 rfl (by decide) _ 0 [] rfl rCX3 ha L.length hc (intsV H) rfl HF.out.2.2.2.2.1 HF.out.2.2.2.1 (fun ad e => HF.out.2.2.2.2.2.1 X3 bX3 ad e) (ints_one H) (by unfold maxLen; have := HL.out; omega) (by have := HL.out; omega) (le_s HZ.out bX3) ?_
  intro vD X4 own gX4
  have rDX4 : X4.ownsRow s 3 1 vD L.length (intsV H) := by rw [Nat.zero_add, List.nil_append] at own; exact own
  clear own
  have bX4 : Below s w X4 := bX3.grown gX4 (le_s HZ.out bX3) (fun k e => (World.ownsRow.lt rCX3 k e).1)
  have rBX4 := row_stays rBX3 rCX3 (by decide) gX4
  obtain ⟨aD, cD, rfl⟩ := row_form1 rDX4
  clear gX4
  refine hK.out _ _ (HS.out _ bX4) (fun hHeld => ?_)
  clear hK K
  refine wpAnyH_take (i := 12) (oi := ({ dst := some 15, op := Op.build 30 #[(0, Operand.tmp 8), (1, Operand.tmp 14)], type := 30, pos := "ref.go:109", after := #[{ on := 5, ground := Ground.data }, { on := 11, ground := Ground.data }], guard := none } : Oper)) (v := ?_) rfl (by kernel_rfl) (by kernel_rfl) (by kernel_rfl) (fun _ _ _ h => h) (Or.inl ⟨by rfl, ?_⟩) (by assumption) ?_
  rotate_left
  · (intro w hSw; (try dsimp only at hSw); go_simp; try with_reducible rfl)
  try simp only [Act.put, List.setIfInBounds_toArray]
  refine wpAnyH_ready (rs := [13]) (by kernel_rfl) (by simp) ?_
  refine AllReadyH.cons rfl (fun K hK => ?_) AllReadyH.nil
  go_simp
  have bX5 : Below s w (X4.alloc (.cells #[.slice aB L.length cB, .slice aD L.length cD] 30)) := bX4.alloc (le_s HZ.out bX4) _
  have HE : Hid (RA s (X4.alloc (.cells #[.slice aB L.length cB, .slice aD L.length cD] 30)) X4.heap.size L H aB cB aD cD ∧ Below s w (X4.alloc (.cells #[.slice aB L.length cB, .slice aD L.length cD] 30)) ∧ s ≤ X4.heap.size) := ⟨⟨block_alloc_at _ _, World.ownsRow.alloc rBX4 _, World.ownsRow.alloc rDX4 _, HF.out.2.2.2.2.2.2⟩, bX5, (le_s HZ.out bX4)⟩
  refine hK.out _ _ (HS.out _ bX5) (fun hHeld => ?_)
  clear hK K
  refine wpAnyH_take (i := 14) (oi := ({ dst := some 2, op := Op.assign (Operand.tmp 16), type := 26, pos := "ref.go:109", after := #[{ on := 13, ground := Ground.data }, { on := 11, ground := Ground.chain }, { on := 0, ground := Ground.phase }, { on := 1, ground := Ground.phase }, { on := 2, ground := Ground.phase }, { on := 3, ground := Ground.phase }, { on := 4, ground := Ground.phase }, { on := 5, ground := Ground.phase }, { on := 6, ground := Ground.phase }, { on := 7, ground := Ground.phase }, { on := 8, ground := Ground.phase }, { on := 9, ground := Ground.phase }, { on := 10, ground := Ground.phase }, { on := 11, ground := Ground.phase }, { on := 12, ground := Ground.phase }, { on := 13, ground := Ground.phase }], guard := none } : Oper)) (v := ?_) rfl (by kernel_rfl) (by kernel_rfl) (by kernel_rfl) (fun _ _ _ h => h) (Or.inl ⟨by rfl, ?_⟩) (by assumption) ?_
  rotate_left
  · (intro w hSw; (try dsimp only at hSw); go_simp; try with_reducible rfl)
  try simp only [Act.put, List.setIfInBounds_toArray, List.set_cons_zero, List.set_cons_succ]
  refine wpAnyH_done (by kernel_rfl) ?_ _
  go_wp2_with fail
  go_ret
  exact ⟨_, _, _, _, _, rfl, HE.out⟩
end Go.Proofs.Ytdgmjmohfpjlnaa
