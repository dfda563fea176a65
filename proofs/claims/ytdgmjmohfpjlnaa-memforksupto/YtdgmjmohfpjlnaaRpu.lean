/-
  The contract of the twin's Put.
-/
import Derived.Test.YtdgmjmohfpjlnaaRph
namespace Go.Proofs.Ytdgmjmohfpjlnaa
open Go.RowKit Go.Shelf
set_option maxRecDepth 100000 in
set_option maxHeartbeats 32000000 in
theorem rput_any (s0 r : Nat) (L : List Cl) (H : List Nat) (ca : Option Addr) (cc : Nat) (ha : Option Addr) (hc : Nat) (c : Cl) (hgt : Int) (w : World) (h : RA s0 w r L H ca cc ha hc) (hs : s0 ≤ w.heap.size) (hn : L.length ≤ 3000000) :
    Calls Try.prog 32 #[.pointer (some ⟨r, 0, none⟩), clV c, .int .i64 hgt] w fun e w' => RPost s0 w r L H c hgt e w' := by
  obtain ⟨i0, hi, hz0, hz1, hz2⟩ := info_parts info33
  obtain ⟨i3, hi3, hy0, hy1, hy2⟩ := info_parts info3
  have HRA : Hid (∀ V, Below w.heap.size w V → RA s0 V r L H ca cc ha hc) := fun V hV => h.below hV
  have HNO : Hid (∀ q : Nat, putQ c hgt L = q → q ≠ 0 → ∀ V, Below w.heap.size w V → RPost s0 w r L H c hgt (.returned (.int .i64 ((q : Nat) : Int))) V) := fun q hq hne V hV => by
    unfold RPost
    rw [hq, if_neg hne, if_neg hne]
    exact ⟨rfl, KM.of hV, _, _, _, _, h.below hV⟩
  obtain ⟨x, hx⟩ : ∃ x, w.heap.size = x := ⟨_, rfl⟩
  obtain ⟨W0, hW0⟩ : ∃ W, w.alloc (.cells #[.string c.key, .int .u64 ((c.seq : Nat) : Int), .string c.val, .bool c.gone] 33) = W := ⟨_, rfl⟩
  have HB0 : Hid (Below w.heap.size w W0) := by rw [Hid, ← hW0]; exact below_new _ _
  have hcb : CB W0 x c := by rw [← hW0, ← hx]; exact block_alloc_at _ _
  have HCB : Hid (∀ V, Below W0.heap.size W0 V → CB V x c) := fun V hV => hcb.below hV
  obtain ⟨x0, x1, x2, x3⟩ := CB.cells hcb
  have HSZ : Hid (s0 ≤ w.heap.size ∧ L.length ≤ 3000000) := ⟨hs, hn⟩
  have HW0 : Hid _ := hW0
  have HX : Hid _ := hx
  rw [← hW0] at x0 x1 x2 x3
  have HCK : Hid (∀ V, Calls Try.prog 33 #[.agg #[.string c.key, .int .u64 ((c.seq : Nat) : Int), .string c.val, .bool c.gone]] V fun e w' => e = .returned (.int .i64 ((chkR c : Nat) : Int)) ∧ Below V.heap.size V w') := fun V => rcheck_any c V
  simp only [clV]
  clear h hs hcb hW0
  rcases chk_cases c with hk0 | hk0
  · rw [hk0] at HCK
    go_enter Try.func32, Try.ntmps32
    go_wp2_with fail
    rw [HW0.out]
    clear HW0 x0 x1 x2 x3 hx
    refine (HCK.out W0).mono ?_
    rintro e w1 ⟨rfl, b1⟩
    have HB1 : Hid (Below w.heap.size w w1) := below_on HB0.out b1
    have HC1 : Hid (∀ V, Below w1.heap.size w1 V → CB V x c) := fun V hV => HCB.out V (below_on b1 hV)
    clear b1 HCB HB0 HCK
    by_cases hg : hgt < 1 ∨ 12 < hgt
    · have HQ : Hid (putQ c hgt L = 1) := by rw [Hid]; unfold putQ; rw [if_neg (by simp [hk0]), if_pos hg]
      rcases hg with hg | hg
      · go_wp2_with fail
        go_ret
        exact HNO.out 1 HQ.out (by decide) _ HB1.out
      · have hg1 : ¬ hgt < 1 := by omega
        go_wp2_with fail
        go_ret
        exact HNO.out 1 HQ.out (by decide) _ HB1.out
    · have hg1 : ¬ hgt < 1 := by omega
      have HG1 : Hid (1 ≤ hgt) := by rw [Hid]; omega
      have hg2 : ¬ 12 < hgt := by omega
      obtain ⟨n, hnl⟩ : ∃ n, L.length = n := ⟨_, rfl⟩
      have HNL : Hid (L.length = n) := hnl
      have hn3 : n ≤ 3000000 := by omega
      have HQ : Hid ((hasC c L = true → putQ c hgt L = 61) ∧ (hasC c L = false → putQ c hgt L = 0)) := by
        unfold putQ
        rw [if_neg (by simp [hk0]), if_neg hg]
        exact ⟨fun e => by rw [if_pos e], fun e => by rw [if_neg (by rw [e]; decide)]⟩
      clear hk0 hg hn hnl
      go_wp2_with fail
      go_loopw [8] (fun i wr => ∃ k : Nat, k ≤ n ∧ i = .int .i64 ((k : Nat) : Int) ∧ Hid (Below w.heap.size w wr) ∧ Hid (∀ V, Below wr.heap.size wr V → CB V x c) ∧ Hid (∀ d ∈ L.take k, lessC d c = true)) (fun i _ => n - (intOf i).toNat)
      case atStart => exact ⟨0, by omega, rfl, HB1.out, HC1.out, fun d hd => by rw [List.take_zero] at hd; cases hd⟩
      case round =>
        obtain ⟨k, hk, rfl, HB, HC, HA⟩ := hrel
        have HBD : Hid (Below w.heap.size w wr.drew) := HB.out.drew
        by_cases hlt : k < n
        · have hlz : ((k : Nat) : Int) < ((n : Nat) : Int) := by omega
          obtain ⟨d, hd⟩ : ∃ d, L[k]? = some d := ⟨_, List.getElem?_eq_getElem (by rw [HNL.out]; exact hlt)⟩
          obtain ⟨eb, eo, e1, _, _⟩ := ((HRA.out wr HB.out).ca.2) k d hd
          subst e1
          have HSS : Hid (∀ V, Below wr.drew.heap.size wr.drew V → V.cell? ⟨r, 0, none⟩ = some (.slice (some ⟨eb, eo, none⟩) n cc) ∧ (V.cell? ⟨x, 0, none⟩ = some (.string c.key) ∧ V.cell? ⟨x, 1, none⟩ = some (.int .u64 ((c.seq : Nat) : Int)) ∧ V.cell? ⟨x, 2, none⟩ = some (.string c.val) ∧ V.cell? ⟨x, 3, none⟩ = some (.bool c.gone)) ∧ (V.cell? ⟨eb, eo + k * 4, none⟩ = some (.string d.key) ∧ V.cell? ⟨eb, eo + k * 4 + 1, none⟩ = some (.int .u64 ((d.seq : Nat) : Int)) ∧ V.cell? ⟨eb, eo + k * 4 + 2, none⟩ = some (.string d.val) ∧ V.cell? ⟨eb, eo + k * 4 + 3, none⟩ = some (.bool d.gone))) := fun V hV => by
            have hVw : Below w.heap.size w V := below_on HBD.out hV
            have f := (HRA.out V hVw).f0.1
            rw [HNL.out] at f
            obtain ⟨eb', eo', e1, _, q0, q1, q2, q3⟩ := ((HRA.out V hVw).ca.2) k d hd
            cases e1
            exact ⟨f, CB.cells (HC.out V ((Below.refl wr.heap.size wr).drew.trans hV)), q0, q1, q2, q3⟩
          have hS0 := HSS.out _ (Below.refl _ _)
          cases hle : lessC d c with
          | true =>
            have HLS : Hid (∀ V, Calls Try.prog 22 #[.agg #[.string d.key, .int .u64 ((d.seq : Nat) : Int), .string d.val, .bool d.gone], .agg #[.string c.key, .int .u64 ((c.seq : Nat) : Int), .string c.val, .bool c.gone]] V fun e w' => e = .returned (.bool true) ∧ Below V.heap.size V w') := fun V => by have h := less_any d c V; rw [hle] at h; exact h
            have HNX : Hid (∀ e ∈ L.take (k + 1), lessC e c = true) := by
              rw [Hid, take_snoc hd]
              intro e he
              rcases List.mem_append.1 he with he | he
              · exact HA.out e he
              · rw [List.mem_singleton.1 he]; exact hle
            clear hd hle
            go_wp2_with fail
            refine wp_region_held_drew (S := fun V => V.cell? ⟨r, 0, none⟩ = some (.slice (some ⟨eb, eo, none⟩) n cc) ∧ (V.cell? ⟨x, 0, none⟩ = some (.string c.key) ∧ V.cell? ⟨x, 1, none⟩ = some (.int .u64 ((c.seq : Nat) : Int)) ∧ V.cell? ⟨x, 2, none⟩ = some (.string c.val) ∧ V.cell? ⟨x, 3, none⟩ = some (.bool c.gone)) ∧ (V.cell? ⟨eb, eo + k * 4, none⟩ = some (.string d.key) ∧ V.cell? ⟨eb, eo + k * 4 + 1, none⟩ = some (.int .u64 ((d.seq : Nat) : Int)) ∧ V.cell? ⟨eb, eo + k * 4 + 2, none⟩ = some (.string d.val) ∧ V.cell? ⟨eb, eo + k * 4 + 3, none⟩ = some (.bool d.gone))) (by kernel_rfl) hS0 (fun hHeld => ?_)
            refine wpAnyH_take (i := 0) (oi := ({ dst := some 22, op := Op.move (Operand.tmp 8), type := 3, pos := "ref.go:45", after := #[], guard := none } : Oper)) (v := ?_) rfl (by kernel_rfl) (by kernel_rfl) (by kernel_rfl) (fun _ _ _ h => h) (Or.inl ⟨by rfl, ?_⟩) (by assumption) ?_
            rotate_left
            · (intro w hSw; (try dsimp only at hSw); go_simp; try with_reducible rfl)
            try simp only [Act.put, List.setIfInBounds_toArray, List.set_cons_zero, List.set_cons_succ]
            refine wpAnyH_take (i := 1) (oi := ({ dst := some 23, op := Op.move (Operand.tmp 0), type := 26, pos := "ref.go:45", after := #[], guard := none } : Oper)) (v := ?_) rfl (by kernel_rfl) (by kernel_rfl) (by kernel_rfl) (fun _ _ _ h => h) (Or.inl ⟨by rfl, ?_⟩) (by assumption) ?_
            rotate_left
            · (intro w hSw; (try dsimp only at hSw); go_simp; try with_reducible rfl)
            try simp only [Act.put, List.setIfInBounds_toArray, List.set_cons_zero, List.set_cons_succ]
            refine wpAnyH_take (i := 2) (oi := ({ dst := some 24, op := Op.nilCheck (Operand.tmp 23), type := 0, pos := "ref.go:45", after := #[{ on := 1, ground := Ground.data }], guard := none } : Oper)) (v := ?_) rfl (by kernel_rfl) (by kernel_rfl) (by kernel_rfl) (fun _ _ _ h => h) (Or.inl ⟨by rfl, ?_⟩) (by assumption) ?_
            rotate_left
            · (intro w hSw; (try dsimp only at hSw); go_simp; try with_reducible rfl)
            try simp only [Act.put, List.setIfInBounds_toArray, List.set_cons_zero, List.set_cons_succ]
            refine wpAnyH_take (i := 3) (oi := ({ dst := some 25, op := Op.fieldAddr 30 (Operand.tmp 24) 0, type := 0, pos := "ref.go:45", after := #[{ on := 2, ground := Ground.data }], guard := none } : Oper)) (v := ?_) rfl (by kernel_rfl) (by kernel_rfl) (by kernel_rfl) (fun _ _ _ h => h) (Or.inl ⟨by rfl, ?_⟩) (by assumption) ?_
            rotate_left
            · (intro w hSw; (try dsimp only at hSw); go_simp; try with_reducible rfl)
            try simp only [Act.put, List.setIfInBounds_toArray, List.set_cons_zero, List.set_cons_succ]
            refine wpAnyH_take (i := 4) (oi := ({ dst := some 26, op := Op.load 27 (Operand.tmp 25), type := 27, pos := "ref.go:45", after := #[{ on := 3, ground := Ground.data }], guard := none } : Oper)) (v := ?_) rfl (by kernel_rfl) (by kernel_rfl) (by kernel_rfl) (fun _ _ _ h => h) (Or.inl ⟨by rfl, ?_⟩) (by assumption) ?_
            rotate_left
            · (intro w hSw; (try dsimp only at hSw); go_simp; try with_reducible rfl)
            try simp only [Act.put, List.setIfInBounds_toArray, List.set_cons_zero, List.set_cons_succ]
            refine wpAnyH_take (i := 5) (oi := ({ dst := some 27, op := Op.call { callee := Callee.builtin Builtin.len, args := #[Operand.tmp 26], argTypes := #[27] }, type := 3, pos := "ref.go:45", after := #[{ on := 4, ground := Ground.data }], guard := none } : Oper)) (v := ?_) rfl (by kernel_rfl) (by kernel_rfl) (by kernel_rfl) (fun _ _ _ h => h) (Or.inl ⟨by rfl, ?_⟩) (by assumption) ?_
            rotate_left
            · (intro w hSw; (try dsimp only at hSw); go_simp; try with_reducible rfl)
            try simp only [Act.put, List.setIfInBounds_toArray, List.set_cons_zero, List.set_cons_succ]
            refine wpAnyH_take (i := 6) (oi := ({ dst := some 28, op := Op.binOp BinOp.lss 3 (Operand.tmp 22) (Operand.tmp 27) 3, type := 4, pos := "ref.go:45", after := #[{ on := 0, ground := Ground.data }, { on := 5, ground := Ground.data }], guard := none } : Oper)) (v := ?_) rfl (by kernel_rfl) (by kernel_rfl) (by kernel_rfl) (fun _ _ _ h => h) (Or.inl ⟨by rfl, ?_⟩) (by assumption) ?_
            rotate_left
            · (intro w hSw; (try dsimp only at hSw); go_simp; try with_reducible rfl)
            try simp only [Act.put, List.setIfInBounds_toArray, List.set_cons_zero, List.set_cons_succ]
            refine wpAnyH_take (i := 7) (oi := ({ dst := some 29, op := Op.move (Operand.tmp 28), type := 4, pos := "ref.go:45", after := #[{ on := 6, ground := Ground.data }], guard := none } : Oper)) (v := ?_) rfl (by kernel_rfl) (by kernel_rfl) (by kernel_rfl) (fun _ _ _ h => h) (Or.inl ⟨by rfl, ?_⟩) (by assumption) ?_
            rotate_left
            · (intro w hSw; (try dsimp only at hSw); go_simp; try with_reducible rfl)
            try simp only [Act.put, List.setIfInBounds_toArray, List.set_cons_zero, List.set_cons_succ]
            refine wpAnyH_take (i := 8) (oi := ({ dst := some 30, op := Op.move (Operand.tmp 0), type := 26, pos := "ref.go:45", after := #[{ on := 7, ground := Ground.guard }], guard := some (7, true) } : Oper)) (v := ?_) rfl (by kernel_rfl) (by kernel_rfl) (by kernel_rfl) (fun _ _ _ h => h) (Or.inl ⟨by rfl, ?_⟩) (by assumption) ?_
            rotate_left
            · (intro w hSw; (try dsimp only at hSw); go_simp; try with_reducible rfl)
            try simp only [Act.put, List.setIfInBounds_toArray, List.set_cons_zero, List.set_cons_succ]
            refine wpAnyH_take (i := 9) (oi := ({ dst := some 31, op := Op.nilCheck (Operand.tmp 30), type := 0, pos := "ref.go:45", after := #[{ on := 8, ground := Ground.data }, { on := 7, ground := Ground.guard }], guard := some (7, true) } : Oper)) (v := ?_) rfl (by kernel_rfl) (by kernel_rfl) (by kernel_rfl) (fun _ _ _ h => h) (Or.inl ⟨by rfl, ?_⟩) (by assumption) ?_
            rotate_left
            · (intro w hSw; (try dsimp only at hSw); go_simp; try with_reducible rfl)
            try simp only [Act.put, List.setIfInBounds_toArray, List.set_cons_zero, List.set_cons_succ]
            refine wpAnyH_take (i := 10) (oi := ({ dst := some 32, op := Op.fieldAddr 30 (Operand.tmp 31) 0, type := 0, pos := "ref.go:45", after := #[{ on := 9, ground := Ground.data }, { on := 7, ground := Ground.guard }], guard := some (7, true) } : Oper)) (v := ?_) rfl (by kernel_rfl) (by kernel_rfl) (by kernel_rfl) (fun _ _ _ h => h) (Or.inl ⟨by rfl, ?_⟩) (by assumption) ?_
            rotate_left
            · (intro w hSw; (try dsimp only at hSw); go_simp; try with_reducible rfl)
            try simp only [Act.put, List.setIfInBounds_toArray, List.set_cons_zero, List.set_cons_succ]
            refine wpAnyH_take (i := 11) (oi := ({ dst := some 33, op := Op.load 27 (Operand.tmp 32), type := 27, pos := "ref.go:45", after := #[{ on := 10, ground := Ground.data }, { on := 7, ground := Ground.guard }], guard := some (7, true) } : Oper)) (v := ?_) rfl (by kernel_rfl) (by kernel_rfl) (by kernel_rfl) (fun _ _ _ h => h) (Or.inl ⟨by rfl, ?_⟩) (by assumption) ?_
            rotate_left
            · (intro w hSw; (try dsimp only at hSw); go_simp; try with_reducible rfl)
            try simp only [Act.put, List.setIfInBounds_toArray, List.set_cons_zero, List.set_cons_succ]
            refine wpAnyH_take (i := 12) (oi := ({ dst := some 34, op := Op.move (Operand.tmp 8), type := 3, pos := "ref.go:45", after := #[{ on := 7, ground := Ground.guard }], guard := some (7, true) } : Oper)) (v := ?_) rfl (by kernel_rfl) (by kernel_rfl) (by kernel_rfl) (fun _ _ _ h => h) (Or.inl ⟨by rfl, ?_⟩) (by assumption) ?_
            rotate_left
            · (intro w hSw; (try dsimp only at hSw); go_simp; try with_reducible rfl)
            try simp only [Act.put, List.setIfInBounds_toArray, List.set_cons_zero, List.set_cons_succ]
            refine wpAnyH_take (i := 13) (oi := ({ dst := some 35, op := Op.indexAddr 27 (Operand.tmp 33) (Operand.tmp 34), type := 0, pos := "ref.go:45", after := #[{ on := 11, ground := Ground.data }, { on := 12, ground := Ground.data }, { on := 7, ground := Ground.guard }], guard := some (7, true) } : Oper)) (v := ?_) rfl (by kernel_rfl) (by kernel_rfl) (by kernel_rfl) (fun _ _ _ h => h) (Or.inl ⟨by rfl, ?_⟩) (by assumption) ?_
            rotate_left
            · (intro w hSw; (try dsimp only at hSw); go_simp; try with_reducible rfl)
            try simp only [Act.put, List.setIfInBounds_toArray, List.set_cons_zero, List.set_cons_succ]
            refine wpAnyH_take (i := 14) (oi := ({ dst := some 36, op := Op.load 33 (Operand.tmp 35), type := 33, pos := "ref.go:45", after := #[{ on := 13, ground := Ground.data }, { on := 7, ground := Ground.guard }], guard := some (7, true) } : Oper)) (v := ?_) rfl (by kernel_rfl) (by kernel_rfl) (by kernel_rfl) (fun _ _ _ h => h) (Or.inl ⟨by rfl, ?_⟩) (by assumption) ?_
            rotate_left
            · (intro w hSw; (try dsimp only at hSw); go_simp; try with_reducible rfl)
            try simp only [Act.put, List.setIfInBounds_toArray, List.set_cons_zero, List.set_cons_succ]
            refine wpAnyH_take (i := 15) (oi := ({ dst := some 37, op := Op.load 33 (Operand.tmp 4), type := 33, pos := "ref.go:45", after := #[{ on := 7, ground := Ground.guard }], guard := some (7, true) } : Oper)) (v := ?_) rfl (by kernel_rfl) (by kernel_rfl) (by kernel_rfl) (fun _ _ _ h => h) (Or.inl ⟨by rfl, ?_⟩) (by assumption) ?_
            rotate_left
            · (intro w hSw; (try dsimp only at hSw); go_simp; try with_reducible rfl)
            try simp only [Act.put, List.setIfInBounds_toArray, List.set_cons_zero, List.set_cons_succ]
            refine wpAnyH_ready (rs := [16]) (by kernel_rfl) (by simp) ?_
            refine AllReadyH.cons rfl (fun K hK => ?_) AllReadyH.nil
            go_simp
            go_wp2_with (go_at_call 22; refine (HLS.out _).mono ?_; rintro e v7 ⟨rfl, b7⟩; have q7 : Below w.heap.size w v7 := HBD.out.trans (b7.mono HBD.out.size); have hS7 := HSS.out v7 b7; have Q7 : Hid (Below w.heap.size w v7) := q7; have Q7K : Hid (Below wr.drew.heap.size wr.drew v7) := b7; clear q7 b7)
            refine hK.out _ _ (by assumption) (fun hHeld => ?_)
            clear hK K
            refine wpAnyH_take (i := 17) (oi := ({ dst := some 39, op := Op.pick (Operand.tmp 29) (Operand.tmp 38) (Operand.const (Value.bool false)), type := 4, pos := "ref.go:45", after := #[{ on := 7, ground := Ground.data }, { on := 16, ground := Ground.data }], guard := none } : Oper)) (v := ?_) rfl (by kernel_rfl) (by kernel_rfl) (by kernel_rfl) (fun _ _ _ h => h) (Or.inl ⟨by rfl, ?_⟩) (by assumption) ?_
            rotate_left
            · (intro w hSw; (try dsimp only at hSw); go_simp; try with_reducible rfl)
            try simp only [Act.put, List.setIfInBounds_toArray, List.set_cons_zero, List.set_cons_succ]
            refine wpAnyH_done (by kernel_rfl) ?_ _
            have HCN : Hid (∀ V, Below v7.heap.size v7 V → CB V x c) := fun V hV => HC.out V ((Below.refl wr.heap.size wr).drew.trans ((Q7K.out.trans (hV.mono Q7K.out.size))))
            clear hHeld hS0 hS7
            go_wp2_with fail
            go_roundw
            case rel => exact ⟨k + 1, by omega, by go_num, Q7.out, HCN.out, HNX.out⟩
            case measure => simp [intOf]; omega
          | false =>
            have HLS : Hid (∀ V, Calls Try.prog 22 #[.agg #[.string d.key, .int .u64 ((d.seq : Nat) : Int), .string d.val, .bool d.gone], .agg #[.string c.key, .int .u64 ((c.seq : Nat) : Int), .string c.val, .bool c.gone]] V fun e w' => e = .returned (.bool false) ∧ Below V.heap.size V w') := fun V => by have h := less_any d c V; rw [hle] at h; exact h
            obtain ⟨hT1, hT2⟩ := tw_take (p := fun d => lessC d c) (L := L) (k := k) (by rw [HNL.out]; omega) HA.out (fun d' hd' => by rw [hd] at hd'; cases hd'; exact hle)
            have hHC : hasC c L = ((d.key.toList == c.key.toList) && decide (d.seq = c.seq)) := by
              unfold hasC
              rw [show (fun d => ahK d c.key c.seq) = (fun d => lessC d c) from rfl, hT2, newC_drop hd]
            have HT1 : Hid (L.takeWhile (fun d => lessC d c) = L.take k) := hT1
            have HT2 : Hid (L.dropWhile (fun d => lessC d c) = L.drop k) := hT2
            have HHC : Hid _ := hHC
            have HD : Hid (L[k]? = some d) := hd
            clear hd hle hT1 hT2 hHC
            go_wp2_with fail
            refine wp_region_held_drew (S := fun V => V.cell? ⟨r, 0, none⟩ = some (.slice (some ⟨eb, eo, none⟩) n cc) ∧ (V.cell? ⟨x, 0, none⟩ = some (.string c.key) ∧ V.cell? ⟨x, 1, none⟩ = some (.int .u64 ((c.seq : Nat) : Int)) ∧ V.cell? ⟨x, 2, none⟩ = some (.string c.val) ∧ V.cell? ⟨x, 3, none⟩ = some (.bool c.gone)) ∧ (V.cell? ⟨eb, eo + k * 4, none⟩ = some (.string d.key) ∧ V.cell? ⟨eb, eo + k * 4 + 1, none⟩ = some (.int .u64 ((d.seq : Nat) : Int)) ∧ V.cell? ⟨eb, eo + k * 4 + 2, none⟩ = some (.string d.val) ∧ V.cell? ⟨eb, eo + k * 4 + 3, none⟩ = some (.bool d.gone))) (by kernel_rfl) hS0 (fun hHeld => ?_)
            refine wpAnyH_take (i := 0) (oi := ({ dst := some 22, op := Op.move (Operand.tmp 8), type := 3, pos := "ref.go:45", after := #[], guard := none } : Oper)) (v := ?_) rfl (by kernel_rfl) (by kernel_rfl) (by kernel_rfl) (fun _ _ _ h => h) (Or.inl ⟨by rfl, ?_⟩) (by assumption) ?_
            rotate_left
            · (intro w hSw; (try dsimp only at hSw); go_simp; try with_reducible rfl)
            try simp only [Act.put, List.setIfInBounds_toArray, List.set_cons_zero, List.set_cons_succ]
            refine wpAnyH_take (i := 1) (oi := ({ dst := some 23, op := Op.move (Operand.tmp 0), type := 26, pos := "ref.go:45", after := #[], guard := none } : Oper)) (v := ?_) rfl (by kernel_rfl) (by kernel_rfl) (by kernel_rfl) (fun _ _ _ h => h) (Or.inl ⟨by rfl, ?_⟩) (by assumption) ?_
            rotate_left
            · (intro w hSw; (try dsimp only at hSw); go_simp; try with_reducible rfl)
            try simp only [Act.put, List.setIfInBounds_toArray, List.set_cons_zero, List.set_cons_succ]
            refine wpAnyH_take (i := 2) (oi := ({ dst := some 24, op := Op.nilCheck (Operand.tmp 23), type := 0, pos := "ref.go:45", after := #[{ on := 1, ground := Ground.data }], guard := none } : Oper)) (v := ?_) rfl (by kernel_rfl) (by kernel_rfl) (by kernel_rfl) (fun _ _ _ h => h) (Or.inl ⟨by rfl, ?_⟩) (by assumption) ?_
            rotate_left
            · (intro w hSw; (try dsimp only at hSw); go_simp; try with_reducible rfl)
            try simp only [Act.put, List.setIfInBounds_toArray, List.set_cons_zero, List.set_cons_succ]
            refine wpAnyH_take (i := 3) (oi := ({ dst := some 25, op := Op.fieldAddr 30 (Operand.tmp 24) 0, type := 0, pos := "ref.go:45", after := #[{ on := 2, ground := Ground.data }], guard := none } : Oper)) (v := ?_) rfl (by kernel_rfl) (by kernel_rfl) (by kernel_rfl) (fun _ _ _ h => h) (Or.inl ⟨by rfl, ?_⟩) (by assumption) ?_
            rotate_left
            · (intro w hSw; (try dsimp only at hSw); go_simp; try with_reducible rfl)
            try simp only [Act.put, List.setIfInBounds_toArray, List.set_cons_zero, List.set_cons_succ]
            refine wpAnyH_take (i := 4) (oi := ({ dst := some 26, op := Op.load 27 (Operand.tmp 25), type := 27, pos := "ref.go:45", after := #[{ on := 3, ground := Ground.data }], guard := none } : Oper)) (v := ?_) rfl (by kernel_rfl) (by kernel_rfl) (by kernel_rfl) (fun _ _ _ h => h) (Or.inl ⟨by rfl, ?_⟩) (by assumption) ?_
            rotate_left
            · (intro w hSw; (try dsimp only at hSw); go_simp; try with_reducible rfl)
            try simp only [Act.put, List.setIfInBounds_toArray, List.set_cons_zero, List.set_cons_succ]
            refine wpAnyH_take (i := 5) (oi := ({ dst := some 27, op := Op.call { callee := Callee.builtin Builtin.len, args := #[Operand.tmp 26], argTypes := #[27] }, type := 3, pos := "ref.go:45", after := #[{ on := 4, ground := Ground.data }], guard := none } : Oper)) (v := ?_) rfl (by kernel_rfl) (by kernel_rfl) (by kernel_rfl) (fun _ _ _ h => h) (Or.inl ⟨by rfl, ?_⟩) (by assumption) ?_
            rotate_left
            · (intro w hSw; (try dsimp only at hSw); go_simp; try with_reducible rfl)
            try simp only [Act.put, List.setIfInBounds_toArray, List.set_cons_zero, List.set_cons_succ]
            refine wpAnyH_take (i := 6) (oi := ({ dst := some 28, op := Op.binOp BinOp.lss 3 (Operand.tmp 22) (Operand.tmp 27) 3, type := 4, pos := "ref.go:45", after := #[{ on := 0, ground := Ground.data }, { on := 5, ground := Ground.data }], guard := none } : Oper)) (v := ?_) rfl (by kernel_rfl) (by kernel_rfl) (by kernel_rfl) (fun _ _ _ h => h) (Or.inl ⟨by rfl, ?_⟩) (by assumption) ?_
            rotate_left
            · (intro w hSw; (try dsimp only at hSw); go_simp; try with_reducible rfl)
            try simp only [Act.put, List.setIfInBounds_toArray, List.set_cons_zero, List.set_cons_succ]
            refine wpAnyH_take (i := 7) (oi := ({ dst := some 29, op := Op.move (Operand.tmp 28), type := 4, pos := "ref.go:45", after := #[{ on := 6, ground := Ground.data }], guard := none } : Oper)) (v := ?_) rfl (by kernel_rfl) (by kernel_rfl) (by kernel_rfl) (fun _ _ _ h => h) (Or.inl ⟨by rfl, ?_⟩) (by assumption) ?_
            rotate_left
            · (intro w hSw; (try dsimp only at hSw); go_simp; try with_reducible rfl)
            try simp only [Act.put, List.setIfInBounds_toArray, List.set_cons_zero, List.set_cons_succ]
            refine wpAnyH_take (i := 8) (oi := ({ dst := some 30, op := Op.move (Operand.tmp 0), type := 26, pos := "ref.go:45", after := #[{ on := 7, ground := Ground.guard }], guard := some (7, true) } : Oper)) (v := ?_) rfl (by kernel_rfl) (by kernel_rfl) (by kernel_rfl) (fun _ _ _ h => h) (Or.inl ⟨by rfl, ?_⟩) (by assumption) ?_
            rotate_left
            · (intro w hSw; (try dsimp only at hSw); go_simp; try with_reducible rfl)
            try simp only [Act.put, List.setIfInBounds_toArray, List.set_cons_zero, List.set_cons_succ]
            refine wpAnyH_take (i := 9) (oi := ({ dst := some 31, op := Op.nilCheck (Operand.tmp 30), type := 0, pos := "ref.go:45", after := #[{ on := 8, ground := Ground.data }, { on := 7, ground := Ground.guard }], guard := some (7, true) } : Oper)) (v := ?_) rfl (by kernel_rfl) (by kernel_rfl) (by kernel_rfl) (fun _ _ _ h => h) (Or.inl ⟨by rfl, ?_⟩) (by assumption) ?_
            rotate_left
            · (intro w hSw; (try dsimp only at hSw); go_simp; try with_reducible rfl)
            try simp only [Act.put, List.setIfInBounds_toArray, List.set_cons_zero, List.set_cons_succ]
            refine wpAnyH_take (i := 10) (oi := ({ dst := some 32, op := Op.fieldAddr 30 (Operand.tmp 31) 0, type := 0, pos := "ref.go:45", after := #[{ on := 9, ground := Ground.data }, { on := 7, ground := Ground.guard }], guard := some (7, true) } : Oper)) (v := ?_) rfl (by kernel_rfl) (by kernel_rfl) (by kernel_rfl) (fun _ _ _ h => h) (Or.inl ⟨by rfl, ?_⟩) (by assumption) ?_
            rotate_left
            · (intro w hSw; (try dsimp only at hSw); go_simp; try with_reducible rfl)
            try simp only [Act.put, List.setIfInBounds_toArray, List.set_cons_zero, List.set_cons_succ]
            refine wpAnyH_take (i := 11) (oi := ({ dst := some 33, op := Op.load 27 (Operand.tmp 32), type := 27, pos := "ref.go:45", after := #[{ on := 10, ground := Ground.data }, { on := 7, ground := Ground.guard }], guard := some (7, true) } : Oper)) (v := ?_) rfl (by kernel_rfl) (by kernel_rfl) (by kernel_rfl) (fun _ _ _ h => h) (Or.inl ⟨by rfl, ?_⟩) (by assumption) ?_
            rotate_left
            · (intro w hSw; (try dsimp only at hSw); go_simp; try with_reducible rfl)
            try simp only [Act.put, List.setIfInBounds_toArray, List.set_cons_zero, List.set_cons_succ]
            refine wpAnyH_take (i := 12) (oi := ({ dst := some 34, op := Op.move (Operand.tmp 8), type := 3, pos := "ref.go:45", after := #[{ on := 7, ground := Ground.guard }], guard := some (7, true) } : Oper)) (v := ?_) rfl (by kernel_rfl) (by kernel_rfl) (by kernel_rfl) (fun _ _ _ h => h) (Or.inl ⟨by rfl, ?_⟩) (by assumption) ?_
            rotate_left
            · (intro w hSw; (try dsimp only at hSw); go_simp; try with_reducible rfl)
            try simp only [Act.put, List.setIfInBounds_toArray, List.set_cons_zero, List.set_cons_succ]
            refine wpAnyH_take (i := 13) (oi := ({ dst := some 35, op := Op.indexAddr 27 (Operand.tmp 33) (Operand.tmp 34), type := 0, pos := "ref.go:45", after := #[{ on := 11, ground := Ground.data }, { on := 12, ground := Ground.data }, { on := 7, ground := Ground.guard }], guard := some (7, true) } : Oper)) (v := ?_) rfl (by kernel_rfl) (by kernel_rfl) (by kernel_rfl) (fun _ _ _ h => h) (Or.inl ⟨by rfl, ?_⟩) (by assumption) ?_
            rotate_left
            · (intro w hSw; (try dsimp only at hSw); go_simp; try with_reducible rfl)
            try simp only [Act.put, List.setIfInBounds_toArray, List.set_cons_zero, List.set_cons_succ]
            refine wpAnyH_take (i := 14) (oi := ({ dst := some 36, op := Op.load 33 (Operand.tmp 35), type := 33, pos := "ref.go:45", after := #[{ on := 13, ground := Ground.data }, { on := 7, ground := Ground.guard }], guard := some (7, true) } : Oper)) (v := ?_) rfl (by kernel_rfl) (by kernel_rfl) (by kernel_rfl) (fun _ _ _ h => h) (Or.inl ⟨by rfl, ?_⟩) (by assumption) ?_
            rotate_left
            · (intro w hSw; (try dsimp only at hSw); go_simp; try with_reducible rfl)
            try simp only [Act.put, List.setIfInBounds_toArray, List.set_cons_zero, List.set_cons_succ]
            refine wpAnyH_take (i := 15) (oi := ({ dst := some 37, op := Op.load 33 (Operand.tmp 4), type := 33, pos := "ref.go:45", after := #[{ on := 7, ground := Ground.guard }], guard := some (7, true) } : Oper)) (v := ?_) rfl (by kernel_rfl) (by kernel_rfl) (by kernel_rfl) (fun _ _ _ h => h) (Or.inl ⟨by rfl, ?_⟩) (by assumption) ?_
            rotate_left
            · (intro w hSw; (try dsimp only at hSw); go_simp; try with_reducible rfl)
            try simp only [Act.put, List.setIfInBounds_toArray, List.set_cons_zero, List.set_cons_succ]
            refine wpAnyH_ready (rs := [16]) (by kernel_rfl) (by simp) ?_
            refine AllReadyH.cons rfl (fun K hK => ?_) AllReadyH.nil
            go_simp
            go_wp2_with (go_at_call 22; refine (HLS.out _).mono ?_; rintro e v7 ⟨rfl, b7⟩; have q7 : Below w.heap.size w v7 := HBD.out.trans (b7.mono HBD.out.size); have hS7 := HSS.out v7 b7; have Q7 : Hid (Below w.heap.size w v7) := q7; have Q7K : Hid (Below wr.drew.heap.size wr.drew v7) := b7; clear q7 b7)
            refine hK.out _ _ (by assumption) (fun hHeld => ?_)
            clear hK K
            refine wpAnyH_take (i := 17) (oi := ({ dst := some 39, op := Op.pick (Operand.tmp 29) (Operand.tmp 38) (Operand.const (Value.bool false)), type := 4, pos := "ref.go:45", after := #[{ on := 7, ground := Ground.data }, { on := 16, ground := Ground.data }], guard := none } : Oper)) (v := ?_) rfl (by kernel_rfl) (by kernel_rfl) (by kernel_rfl) (fun _ _ _ h => h) (Or.inl ⟨by rfl, ?_⟩) (by assumption) ?_
            rotate_left
            · (intro w hSw; (try dsimp only at hSw); go_simp; try with_reducible rfl)
            try simp only [Act.put, List.setIfInBounds_toArray, List.set_cons_zero, List.set_cons_succ]
            refine wpAnyH_done (by kernel_rfl) ?_ _
            have HCN : Hid (∀ V, Below v7.heap.size v7 V → CB V x c) := fun V hV => HC.out V ((Below.refl wr.heap.size wr).drew.trans ((Q7K.out.trans (hV.mono Q7K.out.size))))
            have HBE : Hid (Below wr.drew.heap.size wr.drew v7.drew) := Q7K.out.drew
            have HBW : Hid (Below w.heap.size w v7.drew) := Q7.out.drew
            clear hHeld hS0 hS7
            have hS0 := HSS.out v7.drew HBE.out
            by_cases hsame : (d.key.toList == c.key.toList) = true
            · by_cases hseq : d.seq = c.seq
              · have HQ6 : Hid (putQ c hgt L = 61) := HQ.out.1 (by rw [HHC.out, hsame, decide_eq_true hseq]; rfl)
                have hsz : ((d.seq : Nat) : Int) = ((c.seq : Nat) : Int) := by omega
                go_wp2_with fail
                refine wp_region_held_drew (S := fun V => V.cell? ⟨r, 0, none⟩ = some (.slice (some ⟨eb, eo, none⟩) n cc) ∧ (V.cell? ⟨x, 0, none⟩ = some (.string c.key) ∧ V.cell? ⟨x, 1, none⟩ = some (.int .u64 ((c.seq : Nat) : Int)) ∧ V.cell? ⟨x, 2, none⟩ = some (.string c.val) ∧ V.cell? ⟨x, 3, none⟩ = some (.bool c.gone)) ∧ (V.cell? ⟨eb, eo + k * 4, none⟩ = some (.string d.key) ∧ V.cell? ⟨eb, eo + k * 4 + 1, none⟩ = some (.int .u64 ((d.seq : Nat) : Int)) ∧ V.cell? ⟨eb, eo + k * 4 + 2, none⟩ = some (.string d.val) ∧ V.cell? ⟨eb, eo + k * 4 + 3, none⟩ = some (.bool d.gone))) (by kernel_rfl) hS0 (fun hHeld => ?_)
                refine wpAnyH_take (i := 0) (oi := ({ dst := some 42, op := Op.move (Operand.tmp 8), type := 3, pos := "ref.go:48", after := #[], guard := none } : Oper)) (v := ?_) rfl (by kernel_rfl) (by kernel_rfl) (by kernel_rfl) (fun _ _ _ h => h) (Or.inl ⟨by rfl, ?_⟩) (by assumption) ?_
                rotate_left
                · (intro w hSw; (try dsimp only at hSw); go_simp; try with_reducible rfl)
                try simp only [Act.put, List.setIfInBounds_toArray, List.set_cons_zero, List.set_cons_succ]
                refine wpAnyH_take (i := 1) (oi := ({ dst := some 43, op := Op.move (Operand.tmp 0), type := 26, pos := "ref.go:48", after := #[], guard := none } : Oper)) (v := ?_) rfl (by kernel_rfl) (by kernel_rfl) (by kernel_rfl) (fun _ _ _ h => h) (Or.inl ⟨by rfl, ?_⟩) (by assumption) ?_
                rotate_left
                · (intro w hSw; (try dsimp only at hSw); go_simp; try with_reducible rfl)
                try simp only [Act.put, List.setIfInBounds_toArray, List.set_cons_zero, List.set_cons_succ]
                refine wpAnyH_take (i := 2) (oi := ({ dst := some 44, op := Op.nilCheck (Operand.tmp 43), type := 0, pos := "ref.go:48", after := #[{ on := 1, ground := Ground.data }], guard := none } : Oper)) (v := ?_) rfl (by kernel_rfl) (by kernel_rfl) (by kernel_rfl) (fun _ _ _ h => h) (Or.inl ⟨by rfl, ?_⟩) (by assumption) ?_
                rotate_left
                · (intro w hSw; (try dsimp only at hSw); go_simp; try with_reducible rfl)
                try simp only [Act.put, List.setIfInBounds_toArray, List.set_cons_zero, List.set_cons_succ]
                refine wpAnyH_take (i := 3) (oi := ({ dst := some 45, op := Op.fieldAddr 30 (Operand.tmp 44) 0, type := 0, pos := "ref.go:48", after := #[{ on := 2, ground := Ground.data }], guard := none } : Oper)) (v := ?_) rfl (by kernel_rfl) (by kernel_rfl) (by kernel_rfl) (fun _ _ _ h => h) (Or.inl ⟨by rfl, ?_⟩) (by assumption) ?_
                rotate_left
                · (intro w hSw; (try dsimp only at hSw); go_simp; try with_reducible rfl)
                try simp only [Act.put, List.setIfInBounds_toArray, List.set_cons_zero, List.set_cons_succ]
                refine wpAnyH_take (i := 4) (oi := ({ dst := some 46, op := Op.load 27 (Operand.tmp 45), type := 27, pos := "ref.go:48", after := #[{ on := 3, ground := Ground.data }], guard := none } : Oper)) (v := ?_) rfl (by kernel_rfl) (by kernel_rfl) (by kernel_rfl) (fun _ _ _ h => h) (Or.inl ⟨by rfl, ?_⟩) (by assumption) ?_
                rotate_left
                · (intro w hSw; (try dsimp only at hSw); go_simp; try with_reducible rfl)
                try simp only [Act.put, List.setIfInBounds_toArray, List.set_cons_zero, List.set_cons_succ]
                refine wpAnyH_take (i := 5) (oi := ({ dst := some 47, op := Op.call { callee := Callee.builtin Builtin.len, args := #[Operand.tmp 46], argTypes := #[27] }, type := 3, pos := "ref.go:48", after := #[{ on := 4, ground := Ground.data }], guard := none } : Oper)) (v := ?_) rfl (by kernel_rfl) (by kernel_rfl) (by kernel_rfl) (fun _ _ _ h => h) (Or.inl ⟨by rfl, ?_⟩) (by assumption) ?_
                rotate_left
                · (intro w hSw; (try dsimp only at hSw); go_simp; try with_reducible rfl)
                try simp only [Act.put, List.setIfInBounds_toArray, List.set_cons_zero, List.set_cons_succ]
                refine wpAnyH_take (i := 6) (oi := ({ dst := some 48, op := Op.binOp BinOp.lss 3 (Operand.tmp 42) (Operand.tmp 47) 3, type := 4, pos := "ref.go:48", after := #[{ on := 0, ground := Ground.data }, { on := 5, ground := Ground.data }], guard := none } : Oper)) (v := ?_) rfl (by kernel_rfl) (by kernel_rfl) (by kernel_rfl) (fun _ _ _ h => h) (Or.inl ⟨by rfl, ?_⟩) (by assumption) ?_
                rotate_left
                · (intro w hSw; (try dsimp only at hSw); go_simp; try with_reducible rfl)
                try simp only [Act.put, List.setIfInBounds_toArray, List.set_cons_zero, List.set_cons_succ]
                refine wpAnyH_take (i := 7) (oi := ({ dst := some 49, op := Op.move (Operand.tmp 48), type := 4, pos := "ref.go:48", after := #[{ on := 6, ground := Ground.data }], guard := none } : Oper)) (v := ?_) rfl (by kernel_rfl) (by kernel_rfl) (by kernel_rfl) (fun _ _ _ h => h) (Or.inl ⟨by rfl, ?_⟩) (by assumption) ?_
                rotate_left
                · (intro w hSw; (try dsimp only at hSw); go_simp; try with_reducible rfl)
                try simp only [Act.put, List.setIfInBounds_toArray, List.set_cons_zero, List.set_cons_succ]
                refine wpAnyH_take (i := 8) (oi := ({ dst := some 50, op := Op.move (Operand.tmp 0), type := 26, pos := "ref.go:48", after := #[{ on := 7, ground := Ground.guard }], guard := some (7, true) } : Oper)) (v := ?_) rfl (by kernel_rfl) (by kernel_rfl) (by kernel_rfl) (fun _ _ _ h => h) (Or.inl ⟨by rfl, ?_⟩) (by assumption) ?_
                rotate_left
                · (intro w hSw; (try dsimp only at hSw); go_simp; try with_reducible rfl)
                try simp only [Act.put, List.setIfInBounds_toArray, List.set_cons_zero, List.set_cons_succ]
                refine wpAnyH_take (i := 9) (oi := ({ dst := some 51, op := Op.nilCheck (Operand.tmp 50), type := 0, pos := "ref.go:48", after := #[{ on := 8, ground := Ground.data }, { on := 7, ground := Ground.guard }], guard := some (7, true) } : Oper)) (v := ?_) rfl (by kernel_rfl) (by kernel_rfl) (by kernel_rfl) (fun _ _ _ h => h) (Or.inl ⟨by rfl, ?_⟩) (by assumption) ?_
                rotate_left
                · (intro w hSw; (try dsimp only at hSw); go_simp; try with_reducible rfl)
                try simp only [Act.put, List.setIfInBounds_toArray, List.set_cons_zero, List.set_cons_succ]
                refine wpAnyH_take (i := 10) (oi := ({ dst := some 52, op := Op.fieldAddr 30 (Operand.tmp 51) 0, type := 0, pos := "ref.go:48", after := #[{ on := 9, ground := Ground.data }, { on := 7, ground := Ground.guard }], guard := some (7, true) } : Oper)) (v := ?_) rfl (by kernel_rfl) (by kernel_rfl) (by kernel_rfl) (fun _ _ _ h => h) (Or.inl ⟨by rfl, ?_⟩) (by assumption) ?_
                rotate_left
                · (intro w hSw; (try dsimp only at hSw); go_simp; try with_reducible rfl)
                try simp only [Act.put, List.setIfInBounds_toArray, List.set_cons_zero, List.set_cons_succ]
                refine wpAnyH_take (i := 11) (oi := ({ dst := some 53, op := Op.load 27 (Operand.tmp 52), type := 27, pos := "ref.go:48", after := #[{ on := 10, ground := Ground.data }, { on := 7, ground := Ground.guard }], guard := some (7, true) } : Oper)) (v := ?_) rfl (by kernel_rfl) (by kernel_rfl) (by kernel_rfl) (fun _ _ _ h => h) (Or.inl ⟨by rfl, ?_⟩) (by assumption) ?_
                rotate_left
                · (intro w hSw; (try dsimp only at hSw); go_simp; try with_reducible rfl)
                try simp only [Act.put, List.setIfInBounds_toArray, List.set_cons_zero, List.set_cons_succ]
                refine wpAnyH_take (i := 12) (oi := ({ dst := some 54, op := Op.move (Operand.tmp 8), type := 3, pos := "ref.go:48", after := #[{ on := 7, ground := Ground.guard }], guard := some (7, true) } : Oper)) (v := ?_) rfl (by kernel_rfl) (by kernel_rfl) (by kernel_rfl) (fun _ _ _ h => h) (Or.inl ⟨by rfl, ?_⟩) (by assumption) ?_
                rotate_left
                · (intro w hSw; (try dsimp only at hSw); go_simp; try with_reducible rfl)
                try simp only [Act.put, List.setIfInBounds_toArray, List.set_cons_zero, List.set_cons_succ]
                refine wpAnyH_take (i := 13) (oi := ({ dst := some 55, op := Op.indexAddr 27 (Operand.tmp 53) (Operand.tmp 54), type := 0, pos := "ref.go:48", after := #[{ on := 11, ground := Ground.data }, { on := 12, ground := Ground.data }, { on := 7, ground := Ground.guard }], guard := some (7, true) } : Oper)) (v := ?_) rfl (by kernel_rfl) (by kernel_rfl) (by kernel_rfl) (fun _ _ _ h => h) (Or.inl ⟨by rfl, ?_⟩) (by assumption) ?_
                rotate_left
                · (intro w hSw; (try dsimp only at hSw); go_simp; try with_reducible rfl)
                try simp only [Act.put, List.setIfInBounds_toArray, List.set_cons_zero, List.set_cons_succ]
                refine wpAnyH_take (i := 14) (oi := ({ dst := some 56, op := Op.fieldAddr 33 (Operand.tmp 55) 0, type := 0, pos := "ref.go:48", after := #[{ on := 13, ground := Ground.data }, { on := 7, ground := Ground.guard }], guard := some (7, true) } : Oper)) (v := ?_) rfl (by kernel_rfl) (by kernel_rfl) (by kernel_rfl) (fun _ _ _ h => h) (Or.inl ⟨by rfl, ?_⟩) (by assumption) ?_
                rotate_left
                · (intro w hSw; (try dsimp only at hSw); go_simp; try with_reducible rfl)
                try simp only [Act.put, List.setIfInBounds_toArray, List.set_cons_zero, List.set_cons_succ]
                refine wpAnyH_take (i := 15) (oi := ({ dst := some 57, op := Op.load 9 (Operand.tmp 56), type := 9, pos := "ref.go:48", after := #[{ on := 14, ground := Ground.data }, { on := 7, ground := Ground.guard }], guard := some (7, true) } : Oper)) (v := ?_) rfl (by kernel_rfl) (by kernel_rfl) (by kernel_rfl) (fun _ _ _ h => h) (Or.inl ⟨by rfl, ?_⟩) (by assumption) ?_
                rotate_left
                · (intro w hSw; (try dsimp only at hSw); go_simp; try with_reducible rfl)
                try simp only [Act.put, List.setIfInBounds_toArray, List.set_cons_zero, List.set_cons_succ]
                refine wpAnyH_take (i := 16) (oi := ({ dst := some 58, op := Op.fieldAddr 33 (Operand.tmp 4) 0, type := 0, pos := "ref.go:48", after := #[{ on := 7, ground := Ground.guard }], guard := some (7, true) } : Oper)) (v := ?_) rfl (by kernel_rfl) (by kernel_rfl) (by kernel_rfl) (fun _ _ _ h => h) (Or.inl ⟨by rfl, ?_⟩) (by assumption) ?_
                rotate_left
                · (intro w hSw; (try dsimp only at hSw); go_simp; try with_reducible rfl)
                try simp only [Act.put, List.setIfInBounds_toArray, List.set_cons_zero, List.set_cons_succ]
                refine wpAnyH_take (i := 17) (oi := ({ dst := some 59, op := Op.load 9 (Operand.tmp 58), type := 9, pos := "ref.go:48", after := #[{ on := 16, ground := Ground.data }, { on := 7, ground := Ground.guard }], guard := some (7, true) } : Oper)) (v := ?_) rfl (by kernel_rfl) (by kernel_rfl) (by kernel_rfl) (fun _ _ _ h => h) (Or.inl ⟨by rfl, ?_⟩) (by assumption) ?_
                rotate_left
                · (intro w hSw; (try dsimp only at hSw); go_simp; try with_reducible rfl)
                try simp only [Act.put, List.setIfInBounds_toArray, List.set_cons_zero, List.set_cons_succ]
                refine wpAnyH_take (i := 18) (oi := ({ dst := some 60, op := Op.binOp BinOp.eql 9 (Operand.tmp 57) (Operand.tmp 59) 9, type := 4, pos := "ref.go:48", after := #[{ on := 15, ground := Ground.data }, { on := 17, ground := Ground.data }, { on := 7, ground := Ground.guard }], guard := some (7, true) } : Oper)) (v := ?_) rfl (by kernel_rfl) (by kernel_rfl) (by kernel_rfl) (fun _ _ _ h => h) (Or.inl ⟨by rfl, ?_⟩) (by assumption) ?_
                rotate_left
                · (intro w hSw; (try dsimp only at hSw); go_simp; try with_reducible rfl)
                try simp only [Act.put, List.setIfInBounds_toArray, List.set_cons_zero, List.set_cons_succ]
                refine wpAnyH_take (i := 19) (oi := ({ dst := some 61, op := Op.pick (Operand.tmp 49) (Operand.tmp 60) (Operand.const (Value.bool false)), type := 4, pos := "ref.go:48", after := #[{ on := 7, ground := Ground.data }, { on := 18, ground := Ground.data }], guard := none } : Oper)) (v := ?_) rfl (by kernel_rfl) (by kernel_rfl) (by kernel_rfl) (fun _ _ _ h => h) (Or.inl ⟨by rfl, ?_⟩) (by assumption) ?_
                rotate_left
                · (intro w hSw; (try dsimp only at hSw); go_simp; try with_reducible rfl)
                try simp only [Act.put, List.setIfInBounds_toArray, List.set_cons_zero, List.set_cons_succ]
                refine wpAnyH_take (i := 20) (oi := ({ dst := some 62, op := Op.move (Operand.tmp 61), type := 4, pos := "ref.go:48", after := #[{ on := 19, ground := Ground.data }, { on := 7, ground := Ground.chain }], guard := none } : Oper)) (v := ?_) rfl (by kernel_rfl) (by kernel_rfl) (by kernel_rfl) (fun _ _ _ h => h) (Or.inl ⟨by rfl, ?_⟩) (by assumption) ?_
                rotate_left
                · (intro w hSw; (try dsimp only at hSw); go_simp; try with_reducible rfl)
                try simp only [Act.put, List.setIfInBounds_toArray, List.set_cons_zero, List.set_cons_succ]
                refine wpAnyH_take (i := 21) (oi := ({ dst := some 63, op := Op.move (Operand.tmp 0), type := 26, pos := "ref.go:48", after := #[{ on := 20, ground := Ground.guard }], guard := some (20, true) } : Oper)) (v := ?_) rfl (by kernel_rfl) (by kernel_rfl) (by kernel_rfl) (fun _ _ _ h => h) (Or.inl ⟨by rfl, ?_⟩) (by assumption) ?_
                rotate_left
                · (intro w hSw; (try dsimp only at hSw); go_simp; try with_reducible rfl)
                try simp only [Act.put, List.setIfInBounds_toArray, List.set_cons_zero, List.set_cons_succ]
                refine wpAnyH_take (i := 22) (oi := ({ dst := some 64, op := Op.nilCheck (Operand.tmp 63), type := 0, pos := "ref.go:48", after := #[{ on := 21, ground := Ground.data }, { on := 20, ground := Ground.guard }], guard := some (20, true) } : Oper)) (v := ?_) rfl (by kernel_rfl) (by kernel_rfl) (by kernel_rfl) (fun _ _ _ h => h) (Or.inl ⟨by rfl, ?_⟩) (by assumption) ?_
                rotate_left
                · (intro w hSw; (try dsimp only at hSw); go_simp; try with_reducible rfl)
                try simp only [Act.put, List.setIfInBounds_toArray, List.set_cons_zero, List.set_cons_succ]
                refine wpAnyH_take (i := 23) (oi := ({ dst := some 65, op := Op.fieldAddr 30 (Operand.tmp 64) 0, type := 0, pos := "ref.go:48", after := #[{ on := 22, ground := Ground.data }, { on := 20, ground := Ground.guard }], guard := some (20, true) } : Oper)) (v := ?_) rfl (by kernel_rfl) (by kernel_rfl) (by kernel_rfl) (fun _ _ _ h => h) (Or.inl ⟨by rfl, ?_⟩) (by assumption) ?_
                rotate_left
                · (intro w hSw; (try dsimp only at hSw); go_simp; try with_reducible rfl)
                try simp only [Act.put, List.setIfInBounds_toArray, List.set_cons_zero, List.set_cons_succ]
                refine wpAnyH_take (i := 24) (oi := ({ dst := some 66, op := Op.load 27 (Operand.tmp 65), type := 27, pos := "ref.go:48", after := #[{ on := 23, ground := Ground.data }, { on := 20, ground := Ground.guard }], guard := some (20, true) } : Oper)) (v := ?_) rfl (by kernel_rfl) (by kernel_rfl) (by kernel_rfl) (fun _ _ _ h => h) (Or.inl ⟨by rfl, ?_⟩) (by assumption) ?_
                rotate_left
                · (intro w hSw; (try dsimp only at hSw); go_simp; try with_reducible rfl)
                try simp only [Act.put, List.setIfInBounds_toArray, List.set_cons_zero, List.set_cons_succ]
                refine wpAnyH_take (i := 25) (oi := ({ dst := some 67, op := Op.move (Operand.tmp 8), type := 3, pos := "ref.go:48", after := #[{ on := 20, ground := Ground.guard }], guard := some (20, true) } : Oper)) (v := ?_) rfl (by kernel_rfl) (by kernel_rfl) (by kernel_rfl) (fun _ _ _ h => h) (Or.inl ⟨by rfl, ?_⟩) (by assumption) ?_
                rotate_left
                · (intro w hSw; (try dsimp only at hSw); go_simp; try with_reducible rfl)
                try simp only [Act.put, List.setIfInBounds_toArray, List.set_cons_zero, List.set_cons_succ]
                refine wpAnyH_take (i := 26) (oi := ({ dst := some 68, op := Op.indexAddr 27 (Operand.tmp 66) (Operand.tmp 67), type := 0, pos := "ref.go:48", after := #[{ on := 24, ground := Ground.data }, { on := 25, ground := Ground.data }, { on := 20, ground := Ground.guard }], guard := some (20, true) } : Oper)) (v := ?_) rfl (by kernel_rfl) (by kernel_rfl) (by kernel_rfl) (fun _ _ _ h => h) (Or.inl ⟨by rfl, ?_⟩) (by assumption) ?_
                rotate_left
                · (intro w hSw; (try dsimp only at hSw); go_simp; try with_reducible rfl)
                try simp only [Act.put, List.setIfInBounds_toArray, List.set_cons_zero, List.set_cons_succ]
                refine wpAnyH_take (i := 27) (oi := ({ dst := some 69, op := Op.fieldAddr 33 (Operand.tmp 68) 1, type := 0, pos := "ref.go:48", after := #[{ on := 26, ground := Ground.data }, { on := 20, ground := Ground.guard }], guard := some (20, true) } : Oper)) (v := ?_) rfl (by kernel_rfl) (by kernel_rfl) (by kernel_rfl) (fun _ _ _ h => h) (Or.inl ⟨by rfl, ?_⟩) (by assumption) ?_
                rotate_left
                · (intro w hSw; (try dsimp only at hSw); go_simp; try with_reducible rfl)
                try simp only [Act.put, List.setIfInBounds_toArray, List.set_cons_zero, List.set_cons_succ]
                refine wpAnyH_take (i := 28) (oi := ({ dst := some 70, op := Op.load 31 (Operand.tmp 69), type := 31, pos := "ref.go:48", after := #[{ on := 27, ground := Ground.data }, { on := 20, ground := Ground.guard }], guard := some (20, true) } : Oper)) (v := ?_) rfl (by kernel_rfl) (by kernel_rfl) (by kernel_rfl) (fun _ _ _ h => h) (Or.inl ⟨by rfl, ?_⟩) (by assumption) ?_
                rotate_left
                · (intro w hSw; (try dsimp only at hSw); go_simp; try with_reducible rfl)
                try simp only [Act.put, List.setIfInBounds_toArray, List.set_cons_zero, List.set_cons_succ]
                refine wpAnyH_take (i := 29) (oi := ({ dst := some 71, op := Op.fieldAddr 33 (Operand.tmp 4) 1, type := 0, pos := "ref.go:48", after := #[{ on := 20, ground := Ground.guard }], guard := some (20, true) } : Oper)) (v := ?_) rfl (by kernel_rfl) (by kernel_rfl) (by kernel_rfl) (fun _ _ _ h => h) (Or.inl ⟨by rfl, ?_⟩) (by assumption) ?_
                rotate_left
                · (intro w hSw; (try dsimp only at hSw); go_simp; try with_reducible rfl)
                try simp only [Act.put, List.setIfInBounds_toArray, List.set_cons_zero, List.set_cons_succ]
                refine wpAnyH_take (i := 30) (oi := ({ dst := some 72, op := Op.load 31 (Operand.tmp 71), type := 31, pos := "ref.go:48", after := #[{ on := 29, ground := Ground.data }, { on := 20, ground := Ground.guard }], guard := some (20, true) } : Oper)) (v := ?_) rfl (by kernel_rfl) (by kernel_rfl) (by kernel_rfl) (fun _ _ _ h => h) (Or.inl ⟨by rfl, ?_⟩) (by assumption) ?_
                rotate_left
                · (intro w hSw; (try dsimp only at hSw); go_simp; try with_reducible rfl)
                try simp only [Act.put, List.setIfInBounds_toArray, List.set_cons_zero, List.set_cons_succ]
                refine wpAnyH_take (i := 31) (oi := ({ dst := some 73, op := Op.binOp BinOp.eql 31 (Operand.tmp 70) (Operand.tmp 72) 31, type := 4, pos := "ref.go:48", after := #[{ on := 28, ground := Ground.data }, { on := 30, ground := Ground.data }, { on := 20, ground := Ground.guard }], guard := some (20, true) } : Oper)) (v := ?_) rfl (by kernel_rfl) (by kernel_rfl) (by kernel_rfl) (fun _ _ _ h => h) (Or.inl ⟨by rfl, ?_⟩) (by assumption) ?_
                rotate_left
                · (intro w hSw; (try dsimp only at hSw); go_simp; try with_reducible rfl)
                try simp only [Act.put, List.setIfInBounds_toArray, List.set_cons_zero, List.set_cons_succ]
                refine wpAnyH_take (i := 32) (oi := ({ dst := some 74, op := Op.pick (Operand.tmp 62) (Operand.tmp 73) (Operand.const (Value.bool false)), type := 4, pos := "ref.go:48", after := #[{ on := 20, ground := Ground.data }, { on := 31, ground := Ground.data }], guard := none } : Oper)) (v := ?_) rfl (by kernel_rfl) (by kernel_rfl) (by kernel_rfl) (fun _ _ _ h => h) (Or.inl ⟨by rfl, ?_⟩) (by assumption) ?_
                rotate_left
                · (intro w hSw; (try dsimp only at hSw); go_simp; try with_reducible rfl)
                try simp only [Act.put, List.setIfInBounds_toArray, List.set_cons_zero, List.set_cons_succ]
                refine wpAnyH_done (by kernel_rfl) ?_ _
                go_wp2_with fail
                go_ret
                exact HNO.out 61 HQ6.out (by decide) _ HBW.out
              · have HQ0 : Hid (putQ c hgt L = 0) := HQ.out.2 (by rw [HHC.out, hsame, decide_eq_false hseq]; rfl)
                have hsz : (((d.seq : Nat) : Int) == ((c.seq : Nat) : Int)) = false := by rw [beq_eq_false_iff_ne]; omega
                have hsq : ¬ d.seq = c.seq := hseq
                go_wp2_with fail
                refine wp_region_held_drew (S := fun V => V.cell? ⟨r, 0, none⟩ = some (.slice (some ⟨eb, eo, none⟩) n cc) ∧ (V.cell? ⟨x, 0, none⟩ = some (.string c.key) ∧ V.cell? ⟨x, 1, none⟩ = some (.int .u64 ((c.seq : Nat) : Int)) ∧ V.cell? ⟨x, 2, none⟩ = some (.string c.val) ∧ V.cell? ⟨x, 3, none⟩ = some (.bool c.gone)) ∧ (V.cell? ⟨eb, eo + k * 4, none⟩ = some (.string d.key) ∧ V.cell? ⟨eb, eo + k * 4 + 1, none⟩ = some (.int .u64 ((d.seq : Nat) : Int)) ∧ V.cell? ⟨eb, eo + k * 4 + 2, none⟩ = some (.string d.val) ∧ V.cell? ⟨eb, eo + k * 4 + 3, none⟩ = some (.bool d.gone))) (by kernel_rfl) hS0 (fun hHeld => ?_)
                refine wpAnyH_take (i := 0) (oi := ({ dst := some 42, op := Op.move (Operand.tmp 8), type := 3, pos := "ref.go:48", after := #[], guard := none } : Oper)) (v := ?_) rfl (by kernel_rfl) (by kernel_rfl) (by kernel_rfl) (fun _ _ _ h => h) (Or.inl ⟨by rfl, ?_⟩) (by assumption) ?_
                rotate_left
                · (intro w hSw; (try dsimp only at hSw); go_simp; try with_reducible rfl)
                try simp only [Act.put, List.setIfInBounds_toArray, List.set_cons_zero, List.set_cons_succ]
                refine wpAnyH_take (i := 1) (oi := ({ dst := some 43, op := Op.move (Operand.tmp 0), type := 26, pos := "ref.go:48", after := #[], guard := none } : Oper)) (v := ?_) rfl (by kernel_rfl) (by kernel_rfl) (by kernel_rfl) (fun _ _ _ h => h) (Or.inl ⟨by rfl, ?_⟩) (by assumption) ?_
                rotate_left
                · (intro w hSw; (try dsimp only at hSw); go_simp; try with_reducible rfl)
                try simp only [Act.put, List.setIfInBounds_toArray, List.set_cons_zero, List.set_cons_succ]
                refine wpAnyH_take (i := 2) (oi := ({ dst := some 44, op := Op.nilCheck (Operand.tmp 43), type := 0, pos := "ref.go:48", after := #[{ on := 1, ground := Ground.data }], guard := none } : Oper)) (v := ?_) rfl (by kernel_rfl) (by kernel_rfl) (by kernel_rfl) (fun _ _ _ h => h) (Or.inl ⟨by rfl, ?_⟩) (by assumption) ?_
                rotate_left
                · (intro w hSw; (try dsimp only at hSw); go_simp; try with_reducible rfl)
                try simp only [Act.put, List.setIfInBounds_toArray, List.set_cons_zero, List.set_cons_succ]
                refine wpAnyH_take (i := 3) (oi := ({ dst := some 45, op := Op.fieldAddr 30 (Operand.tmp 44) 0, type := 0, pos := "ref.go:48", after := #[{ on := 2, ground := Ground.data }], guard := none } : Oper)) (v := ?_) rfl (by kernel_rfl) (by kernel_rfl) (by kernel_rfl) (fun _ _ _ h => h) (Or.inl ⟨by rfl, ?_⟩) (by assumption) ?_
                rotate_left
                · (intro w hSw; (try dsimp only at hSw); go_simp; try with_reducible rfl)
                try simp only [Act.put, List.setIfInBounds_toArray, List.set_cons_zero, List.set_cons_succ]
                refine wpAnyH_take (i := 4) (oi := ({ dst := some 46, op := Op.load 27 (Operand.tmp 45), type := 27, pos := "ref.go:48", after := #[{ on := 3, ground := Ground.data }], guard := none } : Oper)) (v := ?_) rfl (by kernel_rfl) (by kernel_rfl) (by kernel_rfl) (fun _ _ _ h => h) (Or.inl ⟨by rfl, ?_⟩) (by assumption) ?_
                rotate_left
                · (intro w hSw; (try dsimp only at hSw); go_simp; try with_reducible rfl)
                try simp only [Act.put, List.setIfInBounds_toArray, List.set_cons_zero, List.set_cons_succ]
                refine wpAnyH_take (i := 5) (oi := ({ dst := some 47, op := Op.call { callee := Callee.builtin Builtin.len, args := #[Operand.tmp 46], argTypes := #[27] }, type := 3, pos := "ref.go:48", after := #[{ on := 4, ground := Ground.data }], guard := none } : Oper)) (v := ?_) rfl (by kernel_rfl) (by kernel_rfl) (by kernel_rfl) (fun _ _ _ h => h) (Or.inl ⟨by rfl, ?_⟩) (by assumption) ?_
                rotate_left
                · (intro w hSw; (try dsimp only at hSw); go_simp; try with_reducible rfl)
                try simp only [Act.put, List.setIfInBounds_toArray, List.set_cons_zero, List.set_cons_succ]
                refine wpAnyH_take (i := 6) (oi := ({ dst := some 48, op := Op.binOp BinOp.lss 3 (Operand.tmp 42) (Operand.tmp 47) 3, type := 4, pos := "ref.go:48", after := #[{ on := 0, ground := Ground.data }, { on := 5, ground := Ground.data }], guard := none } : Oper)) (v := ?_) rfl (by kernel_rfl) (by kernel_rfl) (by kernel_rfl) (fun _ _ _ h => h) (Or.inl ⟨by rfl, ?_⟩) (by assumption) ?_
                rotate_left
                · (intro w hSw; (try dsimp only at hSw); go_simp; try with_reducible rfl)
                try simp only [Act.put, List.setIfInBounds_toArray, List.set_cons_zero, List.set_cons_succ]
                refine wpAnyH_take (i := 7) (oi := ({ dst := some 49, op := Op.move (Operand.tmp 48), type := 4, pos := "ref.go:48", after := #[{ on := 6, ground := Ground.data }], guard := none } : Oper)) (v := ?_) rfl (by kernel_rfl) (by kernel_rfl) (by kernel_rfl) (fun _ _ _ h => h) (Or.inl ⟨by rfl, ?_⟩) (by assumption) ?_
                rotate_left
                · (intro w hSw; (try dsimp only at hSw); go_simp; try with_reducible rfl)
                try simp only [Act.put, List.setIfInBounds_toArray, List.set_cons_zero, List.set_cons_succ]
                refine wpAnyH_take (i := 8) (oi := ({ dst := some 50, op := Op.move (Operand.tmp 0), type := 26, pos := "ref.go:48", after := #[{ on := 7, ground := Ground.guard }], guard := some (7, true) } : Oper)) (v := ?_) rfl (by kernel_rfl) (by kernel_rfl) (by kernel_rfl) (fun _ _ _ h => h) (Or.inl ⟨by rfl, ?_⟩) (by assumption) ?_
                rotate_left
                · (intro w hSw; (try dsimp only at hSw); go_simp; try with_reducible rfl)
                try simp only [Act.put, List.setIfInBounds_toArray, List.set_cons_zero, List.set_cons_succ]
                refine wpAnyH_take (i := 9) (oi := ({ dst := some 51, op := Op.nilCheck (Operand.tmp 50), type := 0, pos := "ref.go:48", after := #[{ on := 8, ground := Ground.data }, { on := 7, ground := Ground.guard }], guard := some (7, true) } : Oper)) (v := ?_) rfl (by kernel_rfl) (by kernel_rfl) (by kernel_rfl) (fun _ _ _ h => h) (Or.inl ⟨by rfl, ?_⟩) (by assumption) ?_
                rotate_left
                · (intro w hSw; (try dsimp only at hSw); go_simp; try with_reducible rfl)
                try simp only [Act.put, List.setIfInBounds_toArray, List.set_cons_zero, List.set_cons_succ]
                refine wpAnyH_take (i := 10) (oi := ({ dst := some 52, op := Op.fieldAddr 30 (Operand.tmp 51) 0, type := 0, pos := "ref.go:48", after := #[{ on := 9, ground := Ground.data }, { on := 7, ground := Ground.guard }], guard := some (7, true) } : Oper)) (v := ?_) rfl (by kernel_rfl) (by kernel_rfl) (by kernel_rfl) (fun _ _ _ h => h) (Or.inl ⟨by rfl, ?_⟩) (by assumption) ?_
                rotate_left
                · (intro w hSw; (try dsimp only at hSw); go_simp; try with_reducible rfl)
                try simp only [Act.put, List.setIfInBounds_toArray, List.set_cons_zero, List.set_cons_succ]
                refine wpAnyH_take (i := 11) (oi := ({ dst := some 53, op := Op.load 27 (Operand.tmp 52), type := 27, pos := "ref.go:48", after := #[{ on := 10, ground := Ground.data }, { on := 7, ground := Ground.guard }], guard := some (7, true) } : Oper)) (v := ?_) rfl (by kernel_rfl) (by kernel_rfl) (by kernel_rfl) (fun _ _ _ h => h) (Or.inl ⟨by rfl, ?_⟩) (by assumption) ?_
                rotate_left
                · (intro w hSw; (try dsimp only at hSw); go_simp; try with_reducible rfl)
                try simp only [Act.put, List.setIfInBounds_toArray, List.set_cons_zero, List.set_cons_succ]
                refine wpAnyH_take (i := 12) (oi := ({ dst := some 54, op := Op.move (Operand.tmp 8), type := 3, pos := "ref.go:48", after := #[{ on := 7, ground := Ground.guard }], guard := some (7, true) } : Oper)) (v := ?_) rfl (by kernel_rfl) (by kernel_rfl) (by kernel_rfl) (fun _ _ _ h => h) (Or.inl ⟨by rfl, ?_⟩) (by assumption) ?_
                rotate_left
                · (intro w hSw; (try dsimp only at hSw); go_simp; try with_reducible rfl)
                try simp only [Act.put, List.setIfInBounds_toArray, List.set_cons_zero, List.set_cons_succ]
                refine wpAnyH_take (i := 13) (oi := ({ dst := some 55, op := Op.indexAddr 27 (Operand.tmp 53) (Operand.tmp 54), type := 0, pos := "ref.go:48", after := #[{ on := 11, ground := Ground.data }, { on := 12, ground := Ground.data }, { on := 7, ground := Ground.guard }], guard := some (7, true) } : Oper)) (v := ?_) rfl (by kernel_rfl) (by kernel_rfl) (by kernel_rfl) (fun _ _ _ h => h) (Or.inl ⟨by rfl, ?_⟩) (by assumption) ?_
                rotate_left
                · (intro w hSw; (try dsimp only at hSw); go_simp; try with_reducible rfl)
                try simp only [Act.put, List.setIfInBounds_toArray, List.set_cons_zero, List.set_cons_succ]
                refine wpAnyH_take (i := 14) (oi := ({ dst := some 56, op := Op.fieldAddr 33 (Operand.tmp 55) 0, type := 0, pos := "ref.go:48", after := #[{ on := 13, ground := Ground.data }, { on := 7, ground := Ground.guard }], guard := some (7, true) } : Oper)) (v := ?_) rfl (by kernel_rfl) (by kernel_rfl) (by kernel_rfl) (fun _ _ _ h => h) (Or.inl ⟨by rfl, ?_⟩) (by assumption) ?_
                rotate_left
                · (intro w hSw; (try dsimp only at hSw); go_simp; try with_reducible rfl)
                try simp only [Act.put, List.setIfInBounds_toArray, List.set_cons_zero, List.set_cons_succ]
                refine wpAnyH_take (i := 15) (oi := ({ dst := some 57, op := Op.load 9 (Operand.tmp 56), type := 9, pos := "ref.go:48", after := #[{ on := 14, ground := Ground.data }, { on := 7, ground := Ground.guard }], guard := some (7, true) } : Oper)) (v := ?_) rfl (by kernel_rfl) (by kernel_rfl) (by kernel_rfl) (fun _ _ _ h => h) (Or.inl ⟨by rfl, ?_⟩) (by assumption) ?_
                rotate_left
                · (intro w hSw; (try dsimp only at hSw); go_simp; try with_reducible rfl)
                try simp only [Act.put, List.setIfInBounds_toArray, List.set_cons_zero, List.set_cons_succ]
                refine wpAnyH_take (i := 16) (oi := ({ dst := some 58, op := Op.fieldAddr 33 (Operand.tmp 4) 0, type := 0, pos := "ref.go:48", after := #[{ on := 7, ground := Ground.guard }], guard := some (7, true) } : Oper)) (v := ?_) rfl (by kernel_rfl) (by kernel_rfl) (by kernel_rfl) (fun _ _ _ h => h) (Or.inl ⟨by rfl, ?_⟩) (by assumption) ?_
                rotate_left
                · (intro w hSw; (try dsimp only at hSw); go_simp; try with_reducible rfl)
                try simp only [Act.put, List.setIfInBounds_toArray, List.set_cons_zero, List.set_cons_succ]
                refine wpAnyH_take (i := 17) (oi := ({ dst := some 59, op := Op.load 9 (Operand.tmp 58), type := 9, pos := "ref.go:48", after := #[{ on := 16, ground := Ground.data }, { on := 7, ground := Ground.guard }], guard := some (7, true) } : Oper)) (v := ?_) rfl (by kernel_rfl) (by kernel_rfl) (by kernel_rfl) (fun _ _ _ h => h) (Or.inl ⟨by rfl, ?_⟩) (by assumption) ?_
                rotate_left
                · (intro w hSw; (try dsimp only at hSw); go_simp; try with_reducible rfl)
                try simp only [Act.put, List.setIfInBounds_toArray, List.set_cons_zero, List.set_cons_succ]
                refine wpAnyH_take (i := 18) (oi := ({ dst := some 60, op := Op.binOp BinOp.eql 9 (Operand.tmp 57) (Operand.tmp 59) 9, type := 4, pos := "ref.go:48", after := #[{ on := 15, ground := Ground.data }, { on := 17, ground := Ground.data }, { on := 7, ground := Ground.guard }], guard := some (7, true) } : Oper)) (v := ?_) rfl (by kernel_rfl) (by kernel_rfl) (by kernel_rfl) (fun _ _ _ h => h) (Or.inl ⟨by rfl, ?_⟩) (by assumption) ?_
                rotate_left
                · (intro w hSw; (try dsimp only at hSw); go_simp; try with_reducible rfl)
                try simp only [Act.put, List.setIfInBounds_toArray, List.set_cons_zero, List.set_cons_succ]
                refine wpAnyH_take (i := 19) (oi := ({ dst := some 61, op := Op.pick (Operand.tmp 49) (Operand.tmp 60) (Operand.const (Value.bool false)), type := 4, pos := "ref.go:48", after := #[{ on := 7, ground := Ground.data }, { on := 18, ground := Ground.data }], guard := none } : Oper)) (v := ?_) rfl (by kernel_rfl) (by kernel_rfl) (by kernel_rfl) (fun _ _ _ h => h) (Or.inl ⟨by rfl, ?_⟩) (by assumption) ?_
                rotate_left
                · (intro w hSw; (try dsimp only at hSw); go_simp; try with_reducible rfl)
                try simp only [Act.put, List.setIfInBounds_toArray, List.set_cons_zero, List.set_cons_succ]
                refine wpAnyH_take (i := 20) (oi := ({ dst := some 62, op := Op.move (Operand.tmp 61), type := 4, pos := "ref.go:48", after := #[{ on := 19, ground := Ground.data }, { on := 7, ground := Ground.chain }], guard := none } : Oper)) (v := ?_) rfl (by kernel_rfl) (by kernel_rfl) (by kernel_rfl) (fun _ _ _ h => h) (Or.inl ⟨by rfl, ?_⟩) (by assumption) ?_
                rotate_left
                · (intro w hSw; (try dsimp only at hSw); go_simp; try with_reducible rfl)
                try simp only [Act.put, List.setIfInBounds_toArray, List.set_cons_zero, List.set_cons_succ]
                refine wpAnyH_take (i := 21) (oi := ({ dst := some 63, op := Op.move (Operand.tmp 0), type := 26, pos := "ref.go:48", after := #[{ on := 20, ground := Ground.guard }], guard := some (20, true) } : Oper)) (v := ?_) rfl (by kernel_rfl) (by kernel_rfl) (by kernel_rfl) (fun _ _ _ h => h) (Or.inl ⟨by rfl, ?_⟩) (by assumption) ?_
                rotate_left
                · (intro w hSw; (try dsimp only at hSw); go_simp; try with_reducible rfl)
                try simp only [Act.put, List.setIfInBounds_toArray, List.set_cons_zero, List.set_cons_succ]
                refine wpAnyH_take (i := 22) (oi := ({ dst := some 64, op := Op.nilCheck (Operand.tmp 63), type := 0, pos := "ref.go:48", after := #[{ on := 21, ground := Ground.data }, { on := 20, ground := Ground.guard }], guard := some (20, true) } : Oper)) (v := ?_) rfl (by kernel_rfl) (by kernel_rfl) (by kernel_rfl) (fun _ _ _ h => h) (Or.inl ⟨by rfl, ?_⟩) (by assumption) ?_
                rotate_left
                · (intro w hSw; (try dsimp only at hSw); go_simp; try with_reducible rfl)
                try simp only [Act.put, List.setIfInBounds_toArray, List.set_cons_zero, List.set_cons_succ]
                refine wpAnyH_take (i := 23) (oi := ({ dst := some 65, op := Op.fieldAddr 30 (Operand.tmp 64) 0, type := 0, pos := "ref.go:48", after := #[{ on := 22, ground := Ground.data }, { on := 20, ground := Ground.guard }], guard := some (20, true) } : Oper)) (v := ?_) rfl (by kernel_rfl) (by kernel_rfl) (by kernel_rfl) (fun _ _ _ h => h) (Or.inl ⟨by rfl, ?_⟩) (by assumption) ?_
                rotate_left
                · (intro w hSw; (try dsimp only at hSw); go_simp; try with_reducible rfl)
                try simp only [Act.put, List.setIfInBounds_toArray, List.set_cons_zero, List.set_cons_succ]
                refine wpAnyH_take (i := 24) (oi := ({ dst := some 66, op := Op.load 27 (Operand.tmp 65), type := 27, pos := "ref.go:48", after := #[{ on := 23, ground := Ground.data }, { on := 20, ground := Ground.guard }], guard := some (20, true) } : Oper)) (v := ?_) rfl (by kernel_rfl) (by kernel_rfl) (by kernel_rfl) (fun _ _ _ h => h) (Or.inl ⟨by rfl, ?_⟩) (by assumption) ?_
                rotate_left
                · (intro w hSw; (try dsimp only at hSw); go_simp; try with_reducible rfl)
                try simp only [Act.put, List.setIfInBounds_toArray, List.set_cons_zero, List.set_cons_succ]
                refine wpAnyH_take (i := 25) (oi := ({ dst := some 67, op := Op.move (Operand.tmp 8), type := 3, pos := "ref.go:48", after := #[{ on := 20, ground := Ground.guard }], guard := some (20, true) } : Oper)) (v := ?_) rfl (by kernel_rfl) (by kernel_rfl) (by kernel_rfl) (fun _ _ _ h => h) (Or.inl ⟨by rfl, ?_⟩) (by assumption) ?_
                rotate_left
                · (intro w hSw; (try dsimp only at hSw); go_simp; try with_reducible rfl)
                try simp only [Act.put, List.setIfInBounds_toArray, List.set_cons_zero, List.set_cons_succ]
                refine wpAnyH_take (i := 26) (oi := ({ dst := some 68, op := Op.indexAddr 27 (Operand.tmp 66) (Operand.tmp 67), type := 0, pos := "ref.go:48", after := #[{ on := 24, ground := Ground.data }, { on := 25, ground := Ground.data }, { on := 20, ground := Ground.guard }], guard := some (20, true) } : Oper)) (v := ?_) rfl (by kernel_rfl) (by kernel_rfl) (by kernel_rfl) (fun _ _ _ h => h) (Or.inl ⟨by rfl, ?_⟩) (by assumption) ?_
                rotate_left
                · (intro w hSw; (try dsimp only at hSw); go_simp; try with_reducible rfl)
                try simp only [Act.put, List.setIfInBounds_toArray, List.set_cons_zero, List.set_cons_succ]
                refine wpAnyH_take (i := 27) (oi := ({ dst := some 69, op := Op.fieldAddr 33 (Operand.tmp 68) 1, type := 0, pos := "ref.go:48", after := #[{ on := 26, ground := Ground.data }, { on := 20, ground := Ground.guard }], guard := some (20, true) } : Oper)) (v := ?_) rfl (by kernel_rfl) (by kernel_rfl) (by kernel_rfl) (fun _ _ _ h => h) (Or.inl ⟨by rfl, ?_⟩) (by assumption) ?_
                rotate_left
                · (intro w hSw; (try dsimp only at hSw); go_simp; try with_reducible rfl)
                try simp only [Act.put, List.setIfInBounds_toArray, List.set_cons_zero, List.set_cons_succ]
                refine wpAnyH_take (i := 28) (oi := ({ dst := some 70, op := Op.load 31 (Operand.tmp 69), type := 31, pos := "ref.go:48", after := #[{ on := 27, ground := Ground.data }, { on := 20, ground := Ground.guard }], guard := some (20, true) } : Oper)) (v := ?_) rfl (by kernel_rfl) (by kernel_rfl) (by kernel_rfl) (fun _ _ _ h => h) (Or.inl ⟨by rfl, ?_⟩) (by assumption) ?_
                rotate_left
                · (intro w hSw; (try dsimp only at hSw); go_simp; try with_reducible rfl)
                try simp only [Act.put, List.setIfInBounds_toArray, List.set_cons_zero, List.set_cons_succ]
                refine wpAnyH_take (i := 29) (oi := ({ dst := some 71, op := Op.fieldAddr 33 (Operand.tmp 4) 1, type := 0, pos := "ref.go:48", after := #[{ on := 20, ground := Ground.guard }], guard := some (20, true) } : Oper)) (v := ?_) rfl (by kernel_rfl) (by kernel_rfl) (by kernel_rfl) (fun _ _ _ h => h) (Or.inl ⟨by rfl, ?_⟩) (by assumption) ?_
                rotate_left
                · (intro w hSw; (try dsimp only at hSw); go_simp; try with_reducible rfl)
                try simp only [Act.put, List.setIfInBounds_toArray, List.set_cons_zero, List.set_cons_succ]
                refine wpAnyH_take (i := 30) (oi := ({ dst := some 72, op := Op.load 31 (Operand.tmp 71), type := 31, pos := "ref.go:48", after := #[{ on := 29, ground := Ground.data }, { on := 20, ground := Ground.guard }], guard := some (20, true) } : Oper)) (v := ?_) rfl (by kernel_rfl) (by kernel_rfl) (by kernel_rfl) (fun _ _ _ h => h) (Or.inl ⟨by rfl, ?_⟩) (by assumption) ?_
                rotate_left
                · (intro w hSw; (try dsimp only at hSw); go_simp; try with_reducible rfl)
                try simp only [Act.put, List.setIfInBounds_toArray, List.set_cons_zero, List.set_cons_succ]
                refine wpAnyH_take (i := 31) (oi := ({ dst := some 73, op := Op.binOp BinOp.eql 31 (Operand.tmp 70) (Operand.tmp 72) 31, type := 4, pos := "ref.go:48", after := #[{ on := 28, ground := Ground.data }, { on := 30, ground := Ground.data }, { on := 20, ground := Ground.guard }], guard := some (20, true) } : Oper)) (v := ?_) rfl (by kernel_rfl) (by kernel_rfl) (by kernel_rfl) (fun _ _ _ h => h) (Or.inl ⟨by rfl, ?_⟩) (by assumption) ?_
                rotate_left
                · (intro w hSw; (try dsimp only at hSw); go_simp; try with_reducible rfl)
                try simp only [Act.put, List.setIfInBounds_toArray, List.set_cons_zero, List.set_cons_succ]
                refine wpAnyH_take (i := 32) (oi := ({ dst := some 74, op := Op.pick (Operand.tmp 62) (Operand.tmp 73) (Operand.const (Value.bool false)), type := 4, pos := "ref.go:48", after := #[{ on := 20, ground := Ground.data }, { on := 31, ground := Ground.data }], guard := none } : Oper)) (v := ?_) rfl (by kernel_rfl) (by kernel_rfl) (by kernel_rfl) (fun _ _ _ h => h) (Or.inl ⟨by rfl, ?_⟩) (by assumption) ?_
                rotate_left
                · (intro w hSw; (try dsimp only at hSw); go_simp; try with_reducible rfl)
                try simp only [Act.put, List.setIfInBounds_toArray, List.set_cons_zero, List.set_cons_succ]
                refine wpAnyH_done (by kernel_rfl) ?_ _
                clear hHeld hS0 hsz hsq hseq hsame
                obtain ⟨W9, hW9⟩ : ∃ W, v7.drew = W := ⟨_, rfl⟩
                rw [hW9] at HBW ⊢
                have HR9 : Hid (RA s0 W9 r L H (some ⟨eb, eo, none⟩) cc ha hc) := HRA.out W9 HBW.out
                have HK9 : Hid (k ≤ L.length ∧ k ≤ 3000000 ∧ k < n ∧ n ≤ 3000000) := ⟨by rw [HNL.out]; omega, by omega, hlt, hn3⟩
                obtain ⟨hh, hhk⟩ : ∃ hh, H[k]? = some hh := ⟨_, List.getElem?_eq_getElem (by rw [HR9.out.len, HNL.out]; exact hlt)⟩
                obtain ⟨hb, ho, e2, _⟩ := HR9.out.ia.2 k hh hhk
                subst e2
                have HC9 : Hid (∀ V, Below W9.heap.size W9 V → CB V x c) := fun V hV => HCN.out V (by rw [← hW9] at hV; exact (Below.refl v7.heap.size v7).drew.trans hV)
                clear hW9 HCN HBE Q7 Q7K HBD HLS HSS HC HA HHC hhk HRA HNO HX HB1 HC1
                have hcc2 : ¬ cc = k := by have := HR9.out.ca.1; have := HK9.out; have := HNL.out; omega
                have hhc2 : ¬ hc = k := by have := HR9.out.ia.1; have := HK9.out; have := HNL.out; omega
                have HR75 : Hid ((W9.alloc (.cells #[] 33)).ownsRow W9.heap.size 33 4 (.slice (some ⟨W9.heap.size, 0, none⟩) 0 0) 0 []) := World.ownsRow_lit W9 #[] 0 (Nat.le_refl _) (by decide) rfl
                have HX1 : Hid (RA s0 (W9.alloc (.cells #[] 33)) r L H (some ⟨eb, eo, none⟩) cc (some ⟨hb, ho, none⟩) hc) := HR9.out.below (below_new _ _)
                have f0 := HX1.out.f0.1
                rw [HNL.out] at f0
                have hcc : ((k : Nat) : Int) ≤ ((cc : Nat) : Int) := by have := HX1.out.ca.1; have := HK9.out.1; omega
                have hkn : ((k : Nat) : Int) ≤ ((n : Nat) : Int) := by have := HK9.out; have := HNL.out; omega
                have hhc : ((k : Nat) : Int) ≤ ((hc : Nat) : Int) := by have := HX1.out.ia.1; have := HK9.out.1; omega
                go_wp2_with (at_builtin; first
                  | (refine wpList_append_any _ rfl (.tmp 75) (.tmp 81) 27 rfl W9.heap.size 33 i0 (.agg #[.string ByteArray.empty, .int .u64 0, .string ByteArray.empty, .bool false]) 4 48 Try.underlying27 hi hz0 hz1 hz2 rfl (by decide) _ 0 [] rfl HR75.out _ k _ (flC (L.take k)) rfl (fun e => by cases e) (by rw [flC_len, List.length_take]; have := HK9.out.1; omega) (fun ad e j u hj => by cases e; exact news_cells HX1.out.ca.2 0 k (by simpa using hj)) (fun u hu => by obtain ⟨d', _, hd'⟩ := List.mem_flatMap.1 hu; exact clL_one d' u hd') (by unfold maxLen; have := HK9.out; omega) (by have := HK9.out; omega) (by simp) ?_
                     intro v1 w1 ho1 hg1
                     have HO1 : Hid (w1.ownsRow W9.heap.size 33 4 v1 k (flC (L.take k)) ∧ Below W9.heap.size W9 w1) := (by rw [Nat.zero_add, List.nil_append] at ho1; exact ⟨ho1, (below_new W9 _).grown hg1 (by simp) (fun j ej => (World.ownsRow.lt HR75.out j ej).1)⟩)
                     clear ho1 hg1 HR75
                     have hx4 := CB.cells (HC9.out w1 HO1.out.2)
                     have HO1X : Hid ((w1.alloc (.cells #[.string c.key, .int .u64 ((c.seq : Nat) : Int), .string c.val, .bool c.gone] 33)).ownsRow W9.heap.size 33 4 v1 k (flC (L.take k))) := World.ownsRow.alloc HO1.out.1 _
                     have HNC2 : Hid (∀ j u, [Value.string c.key, .int .u64 ((c.seq : Nat) : Int), .string c.val, .bool c.gone][j]? = some u → (w1.alloc (.cells #[.string c.key, .int .u64 ((c.seq : Nat) : Int), .string c.val, .bool c.gone] 33)).cell? ((⟨w1.heap.size, 0, none⟩ : Addr).add j) = some u) := fun j u hj => by
                       rw [addr_addC]
                       exact cell_of_block (o := 0 + j) (block_alloc_at _ _) (by rw [Nat.zero_add]; simpa using hj))
                  | (refine wpList_append_own _ rfl (.tmp 83) (.tmp 85) 27 rfl W9.heap.size 33 i0 (.agg #[.string ByteArray.empty, .int .u64 0, .string ByteArray.empty, .bool false]) 4 48 Try.underlying27 hi hz0 hz1 hz2 rfl (by decide) _ k _ rfl HO1X.out ⟨w1.heap.size, 0, none⟩ 1 1 [Value.string c.key, .int .u64 ((c.seq : Nat) : Int), .string c.val, .bool c.gone] rfl rfl HNC2.out (by simp [Value.oneCell']) (by unfold maxLen; have := HK9.out; omega) (by have := HK9.out; omega) (by have := HO1.out.2.size; simp; omega) ?_
                     intro v2 w2 ho2 hg2 _
                     have HO2 : Hid (w2.ownsRow W9.heap.size 33 4 v2 (k + 1) (flC (L.take k) ++ clL c) ∧ Below W9.heap.size W9 w2) := ⟨ho2, (HO1.out.2.alloc HO1.out.2.size _).grown hg2 (by have := HO1.out.2.size; simp; omega) (fun j ej => (World.ownsRow.lt HO1X.out j ej).1)⟩
                     clear ho2 hg2
                     have f1 := (HR9.out.below (HO2.out.2.alloc HO2.out.2.size (.cells #[] 3))).f0.2
                     rw [HNL.out] at f1
                     clear hx4 HO1 HO1X HNC2
                     have HR87 : Hid ((w2.alloc (.cells #[] 3)).ownsRow W9.heap.size 3 1 (.slice (some ⟨w2.heap.size, 0, none⟩) 0 0) 0 []) := World.ownsRow_lit w2 #[] 0 HO2.out.2.size (by decide) rfl
                     have HB3 : Hid (Below W9.heap.size W9 (w2.alloc (.cells #[] 3))) := HO2.out.2.alloc HO2.out.2.size _
                     have HX3 : Hid (RA s0 (w2.alloc (.cells #[] 3)) r L H (some ⟨eb, eo, none⟩) cc (some ⟨hb, ho, none⟩) hc) := HR9.out.below HB3.out
                     have HO2X : Hid ((w2.alloc (.cells #[] 3)).ownsRow W9.heap.size 33 4 v2 (k + 1) (flC (L.take k) ++ clL c)) := World.ownsRow.alloc HO2.out.1 _)
                  | (refine wpList_append_any _ rfl (.tmp 87) (.tmp 93) 28 rfl W9.heap.size 3 i3 (.int .i64 0) 1 8 Try.underlying28 hi3 hy0 hy1 hy2 rfl (by decide) _ 0 [] rfl HR87.out _ k _ (intsV (H.take k)) rfl (fun e => by cases e) (by unfold intsV; rw [List.length_map, List.length_take]; have := HK9.out.1; have := HX3.out.len; omega) (fun ad e j u hj => by cases e; exact news_ints HX3.out.ia.2 0 k (by simpa using hj)) (fun u hu => by obtain ⟨d', _, rfl⟩ := List.mem_map.1 hu; simp [Value.oneCell']) (by unfold maxLen; have := HK9.out; omega) (by have := HK9.out; omega) HB3.out.size ?_
                     intro v3 w3 ho3 hg3
                     have HO3 : Hid (w3.ownsRow W9.heap.size 3 1 v3 k (intsV (H.take k)) ∧ w3.ownsRow W9.heap.size 33 4 v2 (k + 1) (flC (L.take k) ++ clL c) ∧ Below W9.heap.size W9 w3) := (by rw [Nat.zero_add, List.nil_append] at ho3; exact ⟨ho3, row_stays HO2X.out HR87.out (by decide) hg3, HB3.out.grown hg3 HB3.out.size (fun j ej => (World.ownsRow.lt HR87.out j ej).1)⟩)
                     clear ho3 hg3
                     clear f1 HR87 HX3 HB3 HO2 HO2X
                     have HO3X : Hid ((w3.alloc (.cells #[.int .i64 hgt] 3)).ownsRow W9.heap.size 3 1 v3 k (intsV (H.take k))) := World.ownsRow.alloc HO3.out.1 _
                     have HO3Y : Hid ((w3.alloc (.cells #[.int .i64 hgt] 3)).ownsRow W9.heap.size 33 4 v2 (k + 1) (flC (L.take k) ++ clL c)) := World.ownsRow.alloc HO3.out.2.1 _
                     have HB4 : Hid (Below W9.heap.size W9 (w3.alloc (.cells #[.int .i64 hgt] 3))) := HO3.out.2.2.alloc HO3.out.2.2.size _)
                  | (refine wpList_append_own _ rfl (.tmp 95) (.tmp 97) 28 rfl W9.heap.size 3 i3 (.int .i64 0) 1 8 Try.underlying28 hi3 hy0 hy1 hy2 rfl (by decide) _ k _ rfl HO3X.out ⟨w3.heap.size, 0, none⟩ 1 1 [.int .i64 hgt] rfl rfl (cell_one_new _ _ _) (by simp [Value.oneCell']) (by unfold maxLen; have := HK9.out; omega) (by have := HK9.out; omega) HB4.out.size ?_
                     intro v4 w4 ho4 hg4 _
                     have HO4 : Hid (w4.ownsRow W9.heap.size 3 1 v4 (k + 1) (intsV (H.take k) ++ [.int .i64 hgt]) ∧ w4.ownsRow W9.heap.size 33 4 v2 (k + 1) (flC (L.take k) ++ clL c) ∧ Below W9.heap.size W9 w4) := ⟨ho4, row_stays HO3Y.out HO3X.out (by decide) hg4, HB4.out.grown hg4 HB4.out.size (fun j ej => (World.ownsRow.lt HO3X.out j ej).1)⟩
                     clear ho4 hg4
                     have f2 := (HR9.out.below HO4.out.2.2).f0.1
                     rw [HNL.out] at f2
                     clear HO3 HO3X HO3Y HB4
                     have HX4 : Hid (RA s0 w4 r L H (some ⟨eb, eo, none⟩) cc (some ⟨hb, ho, none⟩) hc) := HR9.out.below HO4.out.2.2
                     have hb5 := HX4.out.blk
                     rw [HNL.out] at hb5
                     have HB5 : Hid _ := hb5
                     have HRW : Hid (r < W9.heap.size) := HR9.out.lt
                     have HX5 : Hid (∀ (w5 : World) (v5 : Value), w5.ownsRow W9.heap.size 33 4 v5 (k + 1 + (n - k)) (flC (L.take k) ++ clL c ++ flC (L.drop k)) → w4.grownBy w5 v2.ownBlock → _) := fun w5 v5 q1 q2 => put_mid HR9.out HNL.out HO4.out.2.1 HO4.out.1 HO4.out.2.2 q1 q2)
                  | (refine wpList_append_any _ rfl (.tmp 100) (.tmp 106) 27 rfl W9.heap.size 33 i0 (.agg #[.string ByteArray.empty, .int .u64 0, .string ByteArray.empty, .bool false]) 4 48 Try.underlying27 hi hz0 hz1 hz2 rfl (by decide) _ (k + 1) _ rfl HO4.out.2.1 _ (n - k) _ (flC (L.drop k)) rfl (fun e => by cases e) (by rw [flC_len, List.length_drop, HNL.out]) (fun ad e j u hj => by cases e; exact news_cells_drop HX4.out.ca.2 k hj) (fun u hu => by obtain ⟨d', _, hd'⟩ := List.mem_flatMap.1 hu; exact clL_one d' u hd') (by unfold maxLen; have := HK9.out; have := HNL.out; omega) (by have := HK9.out; have := HNL.out; omega) HO4.out.2.2.size ?_
                     intro v5 w5 ho5 hg5
                     obtain ⟨a5, c5, rfl⟩ := row_form4 ho5
                     obtain ⟨fr5, ⟨u5, cu5⟩, hr5⟩ := HX5.out w5 _ ho5 hg5
                     have HY5 : Hid _ := hr5
                     clear ho5 hg5 hr5
                     have f3 := cell_of_block (o := 1) HY5.out.1 rfl
                     have HX6 : Hid (∀ (w6 : World) (v6 : Value), w6.ownsRow W9.heap.size 3 1 v6 (k + 1 + (n - k)) (intsV (H.take k) ++ [.int .i64 hgt] ++ intsV (H.drop k)) → (w5.setCell ⟨r, 0, none⟩ (.slice a5 (k + 1 + (n - k)) c5)).grownBy w6 v4.ownBlock → _) := fun w6 v6 q1 q2 => put_end HR9.out HNL.out (by have := HK9.out; have := HNL.out; omega) (Nat.le_trans HSZ.out.1 HBW.out.size) HBW.out HQ0.out HG1.out HT1.out HT2.out HY5.out.1 HY5.out.2.1 HY5.out.2.2.1 HY5.out.2.2.2.2 q1 q2
                     clear f2 HO4 HX4 HB5 HX5)
                  | (refine wpList_append_any _ rfl (.tmp 111) (.tmp 117) 28 rfl W9.heap.size 3 i3 (.int .i64 0) 1 8 Try.underlying28 hi3 hy0 hy1 hy2 rfl (by decide) _ (k + 1) _ rfl HY5.out.2.2.1 _ (n - k) _ (intsV (H.drop k)) rfl (fun e => by cases e) (by unfold intsV; rw [List.length_map, List.length_drop, HR9.out.len, HNL.out, Nat.mul_one]) (fun ad e j u hj => by cases e; exact news_ints_drop HY5.out.2.2.2.1 k hj) (fun u hu => by obtain ⟨d', _, rfl⟩ := List.mem_map.1 hu; simp [Value.oneCell']) (by unfold maxLen; have := HK9.out; have := HNL.out; omega) (by have := HK9.out; have := HNL.out; omega) HY5.out.2.2.2.2.size ?_
                     intro v6 w6 ho6 hg6
                     obtain ⟨a6, c6, rfl⟩ := row_form4 ho6
                     obtain ⟨fr6, ⟨u6x, cu6⟩, hfin⟩ := HX6.out w6 _ ho6 hg6
                     have HFIN : Hid _ := hfin
                     clear ho6 hg6 hfin f3 fr5 cu5))
                go_ret
                exact HFIN.out
            · have hsame : (d.key.toList == c.key.toList) = false := by simpa using hsame
              have HQ0 : Hid (putQ c hgt L = 0) := HQ.out.2 (by rw [HHC.out, hsame]; rfl)
              go_wp2_with fail
              refine wp_region_held_drew (S := fun V => V.cell? ⟨r, 0, none⟩ = some (.slice (some ⟨eb, eo, none⟩) n cc) ∧ (V.cell? ⟨x, 0, none⟩ = some (.string c.key) ∧ V.cell? ⟨x, 1, none⟩ = some (.int .u64 ((c.seq : Nat) : Int)) ∧ V.cell? ⟨x, 2, none⟩ = some (.string c.val) ∧ V.cell? ⟨x, 3, none⟩ = some (.bool c.gone)) ∧ (V.cell? ⟨eb, eo + k * 4, none⟩ = some (.string d.key) ∧ V.cell? ⟨eb, eo + k * 4 + 1, none⟩ = some (.int .u64 ((d.seq : Nat) : Int)) ∧ V.cell? ⟨eb, eo + k * 4 + 2, none⟩ = some (.string d.val) ∧ V.cell? ⟨eb, eo + k * 4 + 3, none⟩ = some (.bool d.gone))) (by kernel_rfl) hS0 (fun hHeld => ?_)
              refine wpAnyH_take (i := 0) (oi := ({ dst := some 42, op := Op.move (Operand.tmp 8), type := 3, pos := "ref.go:48", after := #[], guard := none } : Oper)) (v := ?_) rfl (by kernel_rfl) (by kernel_rfl) (by kernel_rfl) (fun _ _ _ h => h) (Or.inl ⟨by rfl, ?_⟩) (by assumption) ?_
              rotate_left
              · (intro w hSw; (try dsimp only at hSw); go_simp; try with_reducible rfl)
              try simp only [Act.put, List.setIfInBounds_toArray, List.set_cons_zero, List.set_cons_succ]
              refine wpAnyH_take (i := 1) (oi := ({ dst := some 43, op := Op.move (Operand.tmp 0), type := 26, pos := "ref.go:48", after := #[], guard := none } : Oper)) (v := ?_) rfl (by kernel_rfl) (by kernel_rfl) (by kernel_rfl) (fun _ _ _ h => h) (Or.inl ⟨by rfl, ?_⟩) (by assumption) ?_
              rotate_left
              · (intro w hSw; (try dsimp only at hSw); go_simp; try with_reducible rfl)
              try simp only [Act.put, List.setIfInBounds_toArray, List.set_cons_zero, List.set_cons_succ]
              refine wpAnyH_take (i := 2) (oi := ({ dst := some 44, op := Op.nilCheck (Operand.tmp 43), type := 0, pos := "ref.go:48", after := #[{ on := 1, ground := Ground.data }], guard := none } : Oper)) (v := ?_) rfl (by kernel_rfl) (by kernel_rfl) (by kernel_rfl) (fun _ _ _ h => h) (Or.inl ⟨by rfl, ?_⟩) (by assumption) ?_
              rotate_left
              · (intro w hSw; (try dsimp only at hSw); go_simp; try with_reducible rfl)
              try simp only [Act.put, List.setIfInBounds_toArray, List.set_cons_zero, List.set_cons_succ]
              refine wpAnyH_take (i := 3) (oi := ({ dst := some 45, op := Op.fieldAddr 30 (Operand.tmp 44) 0, type := 0, pos := "ref.go:48", after := #[{ on := 2, ground := Ground.data }], guard := none } : Oper)) (v := ?_) rfl (by kernel_rfl) (by kernel_rfl) (by kernel_rfl) (fun _ _ _ h => h) (Or.inl ⟨by rfl, ?_⟩) (by assumption) ?_
              rotate_left
              · (intro w hSw; (try dsimp only at hSw); go_simp; try with_reducible rfl)
              try simp only [Act.put, List.setIfInBounds_toArray, List.set_cons_zero, List.set_cons_succ]
              refine wpAnyH_take (i := 4) (oi := ({ dst := some 46, op := Op.load 27 (Operand.tmp 45), type := 27, pos := "ref.go:48", after := #[{ on := 3, ground := Ground.data }], guard := none } : Oper)) (v := ?_) rfl (by kernel_rfl) (by kernel_rfl) (by kernel_rfl) (fun _ _ _ h => h) (Or.inl ⟨by rfl, ?_⟩) (by assumption) ?_
              rotate_left
              · (intro w hSw; (try dsimp only at hSw); go_simp; try with_reducible rfl)
              try simp only [Act.put, List.setIfInBounds_toArray, List.set_cons_zero, List.set_cons_succ]
              refine wpAnyH_take (i := 5) (oi := ({ dst := some 47, op := Op.call { callee := Callee.builtin Builtin.len, args := #[Operand.tmp 46], argTypes := #[27] }, type := 3, pos := "ref.go:48", after := #[{ on := 4, ground := Ground.data }], guard := none } : Oper)) (v := ?_) rfl (by kernel_rfl) (by kernel_rfl) (by kernel_rfl) (fun _ _ _ h => h) (Or.inl ⟨by rfl, ?_⟩) (by assumption) ?_
              rotate_left
              · (intro w hSw; (try dsimp only at hSw); go_simp; try with_reducible rfl)
              try simp only [Act.put, List.setIfInBounds_toArray, List.set_cons_zero, List.set_cons_succ]
              refine wpAnyH_take (i := 6) (oi := ({ dst := some 48, op := Op.binOp BinOp.lss 3 (Operand.tmp 42) (Operand.tmp 47) 3, type := 4, pos := "ref.go:48", after := #[{ on := 0, ground := Ground.data }, { on := 5, ground := Ground.data }], guard := none } : Oper)) (v := ?_) rfl (by kernel_rfl) (by kernel_rfl) (by kernel_rfl) (fun _ _ _ h => h) (Or.inl ⟨by rfl, ?_⟩) (by assumption) ?_
              rotate_left
              · (intro w hSw; (try dsimp only at hSw); go_simp; try with_reducible rfl)
              try simp only [Act.put, List.setIfInBounds_toArray, List.set_cons_zero, List.set_cons_succ]
              refine wpAnyH_take (i := 7) (oi := ({ dst := some 49, op := Op.move (Operand.tmp 48), type := 4, pos := "ref.go:48", after := #[{ on := 6, ground := Ground.data }], guard := none } : Oper)) (v := ?_) rfl (by kernel_rfl) (by kernel_rfl) (by kernel_rfl) (fun _ _ _ h => h) (Or.inl ⟨by rfl, ?_⟩) (by assumption) ?_
              rotate_left
              · (intro w hSw; (try dsimp only at hSw); go_simp; try with_reducible rfl)
              try simp only [Act.put, List.setIfInBounds_toArray, List.set_cons_zero, List.set_cons_succ]
              refine wpAnyH_take (i := 8) (oi := ({ dst := some 50, op := Op.move (Operand.tmp 0), type := 26, pos := "ref.go:48", after := #[{ on := 7, ground := Ground.guard }], guard := some (7, true) } : Oper)) (v := ?_) rfl (by kernel_rfl) (by kernel_rfl) (by kernel_rfl) (fun _ _ _ h => h) (Or.inl ⟨by rfl, ?_⟩) (by assumption) ?_
              rotate_left
              · (intro w hSw; (try dsimp only at hSw); go_simp; try with_reducible rfl)
              try simp only [Act.put, List.setIfInBounds_toArray, List.set_cons_zero, List.set_cons_succ]
              refine wpAnyH_take (i := 9) (oi := ({ dst := some 51, op := Op.nilCheck (Operand.tmp 50), type := 0, pos := "ref.go:48", after := #[{ on := 8, ground := Ground.data }, { on := 7, ground := Ground.guard }], guard := some (7, true) } : Oper)) (v := ?_) rfl (by kernel_rfl) (by kernel_rfl) (by kernel_rfl) (fun _ _ _ h => h) (Or.inl ⟨by rfl, ?_⟩) (by assumption) ?_
              rotate_left
              · (intro w hSw; (try dsimp only at hSw); go_simp; try with_reducible rfl)
              try simp only [Act.put, List.setIfInBounds_toArray, List.set_cons_zero, List.set_cons_succ]
              refine wpAnyH_take (i := 10) (oi := ({ dst := some 52, op := Op.fieldAddr 30 (Operand.tmp 51) 0, type := 0, pos := "ref.go:48", after := #[{ on := 9, ground := Ground.data }, { on := 7, ground := Ground.guard }], guard := some (7, true) } : Oper)) (v := ?_) rfl (by kernel_rfl) (by kernel_rfl) (by kernel_rfl) (fun _ _ _ h => h) (Or.inl ⟨by rfl, ?_⟩) (by assumption) ?_
              rotate_left
              · (intro w hSw; (try dsimp only at hSw); go_simp; try with_reducible rfl)
              try simp only [Act.put, List.setIfInBounds_toArray, List.set_cons_zero, List.set_cons_succ]
              refine wpAnyH_take (i := 11) (oi := ({ dst := some 53, op := Op.load 27 (Operand.tmp 52), type := 27, pos := "ref.go:48", after := #[{ on := 10, ground := Ground.data }, { on := 7, ground := Ground.guard }], guard := some (7, true) } : Oper)) (v := ?_) rfl (by kernel_rfl) (by kernel_rfl) (by kernel_rfl) (fun _ _ _ h => h) (Or.inl ⟨by rfl, ?_⟩) (by assumption) ?_
              rotate_left
              · (intro w hSw; (try dsimp only at hSw); go_simp; try with_reducible rfl)
              try simp only [Act.put, List.setIfInBounds_toArray, List.set_cons_zero, List.set_cons_succ]
              refine wpAnyH_take (i := 12) (oi := ({ dst := some 54, op := Op.move (Operand.tmp 8), type := 3, pos := "ref.go:48", after := #[{ on := 7, ground := Ground.guard }], guard := some (7, true) } : Oper)) (v := ?_) rfl (by kernel_rfl) (by kernel_rfl) (by kernel_rfl) (fun _ _ _ h => h) (Or.inl ⟨by rfl, ?_⟩) (by assumption) ?_
              rotate_left
              · (intro w hSw; (try dsimp only at hSw); go_simp; try with_reducible rfl)
              try simp only [Act.put, List.setIfInBounds_toArray, List.set_cons_zero, List.set_cons_succ]
              refine wpAnyH_take (i := 13) (oi := ({ dst := some 55, op := Op.indexAddr 27 (Operand.tmp 53) (Operand.tmp 54), type := 0, pos := "ref.go:48", after := #[{ on := 11, ground := Ground.data }, { on := 12, ground := Ground.data }, { on := 7, ground := Ground.guard }], guard := some (7, true) } : Oper)) (v := ?_) rfl (by kernel_rfl) (by kernel_rfl) (by kernel_rfl) (fun _ _ _ h => h) (Or.inl ⟨by rfl, ?_⟩) (by assumption) ?_
              rotate_left
              · (intro w hSw; (try dsimp only at hSw); go_simp; try with_reducible rfl)
              try simp only [Act.put, List.setIfInBounds_toArray, List.set_cons_zero, List.set_cons_succ]
              refine wpAnyH_take (i := 14) (oi := ({ dst := some 56, op := Op.fieldAddr 33 (Operand.tmp 55) 0, type := 0, pos := "ref.go:48", after := #[{ on := 13, ground := Ground.data }, { on := 7, ground := Ground.guard }], guard := some (7, true) } : Oper)) (v := ?_) rfl (by kernel_rfl) (by kernel_rfl) (by kernel_rfl) (fun _ _ _ h => h) (Or.inl ⟨by rfl, ?_⟩) (by assumption) ?_
              rotate_left
              · (intro w hSw; (try dsimp only at hSw); go_simp; try with_reducible rfl)
              try simp only [Act.put, List.setIfInBounds_toArray, List.set_cons_zero, List.set_cons_succ]
              refine wpAnyH_take (i := 15) (oi := ({ dst := some 57, op := Op.load 9 (Operand.tmp 56), type := 9, pos := "ref.go:48", after := #[{ on := 14, ground := Ground.data }, { on := 7, ground := Ground.guard }], guard := some (7, true) } : Oper)) (v := ?_) rfl (by kernel_rfl) (by kernel_rfl) (by kernel_rfl) (fun _ _ _ h => h) (Or.inl ⟨by rfl, ?_⟩) (by assumption) ?_
              rotate_left
              · (intro w hSw; (try dsimp only at hSw); go_simp; try with_reducible rfl)
              try simp only [Act.put, List.setIfInBounds_toArray, List.set_cons_zero, List.set_cons_succ]
              refine wpAnyH_take (i := 16) (oi := ({ dst := some 58, op := Op.fieldAddr 33 (Operand.tmp 4) 0, type := 0, pos := "ref.go:48", after := #[{ on := 7, ground := Ground.guard }], guard := some (7, true) } : Oper)) (v := ?_) rfl (by kernel_rfl) (by kernel_rfl) (by kernel_rfl) (fun _ _ _ h => h) (Or.inl ⟨by rfl, ?_⟩) (by assumption) ?_
              rotate_left
              · (intro w hSw; (try dsimp only at hSw); go_simp; try with_reducible rfl)
              try simp only [Act.put, List.setIfInBounds_toArray, List.set_cons_zero, List.set_cons_succ]
              refine wpAnyH_take (i := 17) (oi := ({ dst := some 59, op := Op.load 9 (Operand.tmp 58), type := 9, pos := "ref.go:48", after := #[{ on := 16, ground := Ground.data }, { on := 7, ground := Ground.guard }], guard := some (7, true) } : Oper)) (v := ?_) rfl (by kernel_rfl) (by kernel_rfl) (by kernel_rfl) (fun _ _ _ h => h) (Or.inl ⟨by rfl, ?_⟩) (by assumption) ?_
              rotate_left
              · (intro w hSw; (try dsimp only at hSw); go_simp; try with_reducible rfl)
              try simp only [Act.put, List.setIfInBounds_toArray, List.set_cons_zero, List.set_cons_succ]
              refine wpAnyH_take (i := 18) (oi := ({ dst := some 60, op := Op.binOp BinOp.eql 9 (Operand.tmp 57) (Operand.tmp 59) 9, type := 4, pos := "ref.go:48", after := #[{ on := 15, ground := Ground.data }, { on := 17, ground := Ground.data }, { on := 7, ground := Ground.guard }], guard := some (7, true) } : Oper)) (v := ?_) rfl (by kernel_rfl) (by kernel_rfl) (by kernel_rfl) (fun _ _ _ h => h) (Or.inl ⟨by rfl, ?_⟩) (by assumption) ?_
              rotate_left
              · (intro w hSw; (try dsimp only at hSw); go_simp; try with_reducible rfl)
              try simp only [Act.put, List.setIfInBounds_toArray, List.set_cons_zero, List.set_cons_succ]
              refine wpAnyH_take (i := 19) (oi := ({ dst := some 61, op := Op.pick (Operand.tmp 49) (Operand.tmp 60) (Operand.const (Value.bool false)), type := 4, pos := "ref.go:48", after := #[{ on := 7, ground := Ground.data }, { on := 18, ground := Ground.data }], guard := none } : Oper)) (v := ?_) rfl (by kernel_rfl) (by kernel_rfl) (by kernel_rfl) (fun _ _ _ h => h) (Or.inl ⟨by rfl, ?_⟩) (by assumption) ?_
              rotate_left
              · (intro w hSw; (try dsimp only at hSw); go_simp; try with_reducible rfl)
              try simp only [Act.put, List.setIfInBounds_toArray, List.set_cons_zero, List.set_cons_succ]
              refine wpAnyH_take (i := 20) (oi := ({ dst := some 62, op := Op.move (Operand.tmp 61), type := 4, pos := "ref.go:48", after := #[{ on := 19, ground := Ground.data }, { on := 7, ground := Ground.chain }], guard := none } : Oper)) (v := ?_) rfl (by kernel_rfl) (by kernel_rfl) (by kernel_rfl) (fun _ _ _ h => h) (Or.inl ⟨by rfl, ?_⟩) (by assumption) ?_
              rotate_left
              · (intro w hSw; (try dsimp only at hSw); go_simp; try with_reducible rfl)
              try simp only [Act.put, List.setIfInBounds_toArray, List.set_cons_zero, List.set_cons_succ]
              refine wpAnyH_take (i := 21) (oi := ({ dst := some 63, op := Op.move (Operand.tmp 0), type := 26, pos := "ref.go:48", after := #[{ on := 20, ground := Ground.guard }], guard := some (20, true) } : Oper)) (v := undef) rfl (by kernel_rfl) (by kernel_rfl) (by kernel_rfl) (fun _ _ _ h => h) (Or.inr ⟨by rfl, rfl⟩) (by assumption) ?_
              try simp only [Act.put, List.setIfInBounds_toArray, List.set_cons_zero, List.set_cons_succ]
              refine wpAnyH_take (i := 22) (oi := ({ dst := some 64, op := Op.nilCheck (Operand.tmp 63), type := 0, pos := "ref.go:48", after := #[{ on := 21, ground := Ground.data }, { on := 20, ground := Ground.guard }], guard := some (20, true) } : Oper)) (v := undef) rfl (by kernel_rfl) (by kernel_rfl) (by kernel_rfl) (fun _ _ _ h => h) (Or.inr ⟨by rfl, rfl⟩) (by assumption) ?_
              try simp only [Act.put, List.setIfInBounds_toArray, List.set_cons_zero, List.set_cons_succ]
              refine wpAnyH_take (i := 23) (oi := ({ dst := some 65, op := Op.fieldAddr 30 (Operand.tmp 64) 0, type := 0, pos := "ref.go:48", after := #[{ on := 22, ground := Ground.data }, { on := 20, ground := Ground.guard }], guard := some (20, true) } : Oper)) (v := undef) rfl (by kernel_rfl) (by kernel_rfl) (by kernel_rfl) (fun _ _ _ h => h) (Or.inr ⟨by rfl, rfl⟩) (by assumption) ?_
              try simp only [Act.put, List.setIfInBounds_toArray, List.set_cons_zero, List.set_cons_succ]
              refine wpAnyH_take (i := 24) (oi := ({ dst := some 66, op := Op.load 27 (Operand.tmp 65), type := 27, pos := "ref.go:48", after := #[{ on := 23, ground := Ground.data }, { on := 20, ground := Ground.guard }], guard := some (20, true) } : Oper)) (v := undef) rfl (by kernel_rfl) (by kernel_rfl) (by kernel_rfl) (fun _ _ _ h => h) (Or.inr ⟨by rfl, rfl⟩) (by assumption) ?_
              try simp only [Act.put, List.setIfInBounds_toArray, List.set_cons_zero, List.set_cons_succ]
              refine wpAnyH_take (i := 25) (oi := ({ dst := some 67, op := Op.move (Operand.tmp 8), type := 3, pos := "ref.go:48", after := #[{ on := 20, ground := Ground.guard }], guard := some (20, true) } : Oper)) (v := undef) rfl (by kernel_rfl) (by kernel_rfl) (by kernel_rfl) (fun _ _ _ h => h) (Or.inr ⟨by rfl, rfl⟩) (by assumption) ?_
              try simp only [Act.put, List.setIfInBounds_toArray, List.set_cons_zero, List.set_cons_succ]
              refine wpAnyH_take (i := 26) (oi := ({ dst := some 68, op := Op.indexAddr 27 (Operand.tmp 66) (Operand.tmp 67), type := 0, pos := "ref.go:48", after := #[{ on := 24, ground := Ground.data }, { on := 25, ground := Ground.data }, { on := 20, ground := Ground.guard }], guard := some (20, true) } : Oper)) (v := undef) rfl (by kernel_rfl) (by kernel_rfl) (by kernel_rfl) (fun _ _ _ h => h) (Or.inr ⟨by rfl, rfl⟩) (by assumption) ?_
              try simp only [Act.put, List.setIfInBounds_toArray, List.set_cons_zero, List.set_cons_succ]
              refine wpAnyH_take (i := 27) (oi := ({ dst := some 69, op := Op.fieldAddr 33 (Operand.tmp 68) 1, type := 0, pos := "ref.go:48", after := #[{ on := 26, ground := Ground.data }, { on := 20, ground := Ground.guard }], guard := some (20, true) } : Oper)) (v := undef) rfl (by kernel_rfl) (by kernel_rfl) (by kernel_rfl) (fun _ _ _ h => h) (Or.inr ⟨by rfl, rfl⟩) (by assumption) ?_
              try simp only [Act.put, List.setIfInBounds_toArray, List.set_cons_zero, List.set_cons_succ]
              refine wpAnyH_take (i := 28) (oi := ({ dst := some 70, op := Op.load 31 (Operand.tmp 69), type := 31, pos := "ref.go:48", after := #[{ on := 27, ground := Ground.data }, { on := 20, ground := Ground.guard }], guard := some (20, true) } : Oper)) (v := undef) rfl (by kernel_rfl) (by kernel_rfl) (by kernel_rfl) (fun _ _ _ h => h) (Or.inr ⟨by rfl, rfl⟩) (by assumption) ?_
              try simp only [Act.put, List.setIfInBounds_toArray, List.set_cons_zero, List.set_cons_succ]
              refine wpAnyH_take (i := 29) (oi := ({ dst := some 71, op := Op.fieldAddr 33 (Operand.tmp 4) 1, type := 0, pos := "ref.go:48", after := #[{ on := 20, ground := Ground.guard }], guard := some (20, true) } : Oper)) (v := undef) rfl (by kernel_rfl) (by kernel_rfl) (by kernel_rfl) (fun _ _ _ h => h) (Or.inr ⟨by rfl, rfl⟩) (by assumption) ?_
              try simp only [Act.put, List.setIfInBounds_toArray, List.set_cons_zero, List.set_cons_succ]
              refine wpAnyH_take (i := 30) (oi := ({ dst := some 72, op := Op.load 31 (Operand.tmp 71), type := 31, pos := "ref.go:48", after := #[{ on := 29, ground := Ground.data }, { on := 20, ground := Ground.guard }], guard := some (20, true) } : Oper)) (v := undef) rfl (by kernel_rfl) (by kernel_rfl) (by kernel_rfl) (fun _ _ _ h => h) (Or.inr ⟨by rfl, rfl⟩) (by assumption) ?_
              try simp only [Act.put, List.setIfInBounds_toArray, List.set_cons_zero, List.set_cons_succ]
              refine wpAnyH_take (i := 31) (oi := ({ dst := some 73, op := Op.binOp BinOp.eql 31 (Operand.tmp 70) (Operand.tmp 72) 31, type := 4, pos := "ref.go:48", after := #[{ on := 28, ground := Ground.data }, { on := 30, ground := Ground.data }, { on := 20, ground := Ground.guard }], guard := some (20, true) } : Oper)) (v := undef) rfl (by kernel_rfl) (by kernel_rfl) (by kernel_rfl) (fun _ _ _ h => h) (Or.inr ⟨by rfl, rfl⟩) (by assumption) ?_
              try simp only [Act.put, List.setIfInBounds_toArray, List.set_cons_zero, List.set_cons_succ]
              refine wpAnyH_take (i := 32) (oi := ({ dst := some 74, op := Op.pick (Operand.tmp 62) (Operand.tmp 73) (Operand.const (Value.bool false)), type := 4, pos := "ref.go:48", after := #[{ on := 20, ground := Ground.data }, { on := 31, ground := Ground.data }], guard := none } : Oper)) (v := ?_) rfl (by kernel_rfl) (by kernel_rfl) (by kernel_rfl) (fun _ _ _ h => h) (Or.inl ⟨by rfl, ?_⟩) (by assumption) ?_
              rotate_left
              · (intro w hSw; (try dsimp only at hSw); go_simp; try with_reducible rfl)
              try simp only [Act.put, List.setIfInBounds_toArray, List.set_cons_zero, List.set_cons_succ]
              refine wpAnyH_done (by kernel_rfl) ?_ _
              clear hHeld hS0 hsame
              obtain ⟨W9, hW9⟩ : ∃ W, v7.drew = W := ⟨_, rfl⟩
              rw [hW9] at HBW ⊢
              have HR9 : Hid (RA s0 W9 r L H (some ⟨eb, eo, none⟩) cc ha hc) := HRA.out W9 HBW.out
              have HK9 : Hid (k ≤ L.length ∧ k ≤ 3000000 ∧ k < n ∧ n ≤ 3000000) := ⟨by rw [HNL.out]; omega, by omega, hlt, hn3⟩
              obtain ⟨hh, hhk⟩ : ∃ hh, H[k]? = some hh := ⟨_, List.getElem?_eq_getElem (by rw [HR9.out.len, HNL.out]; exact hlt)⟩
              obtain ⟨hb, ho, e2, _⟩ := HR9.out.ia.2 k hh hhk
              subst e2
              have HC9 : Hid (∀ V, Below W9.heap.size W9 V → CB V x c) := fun V hV => HCN.out V (by rw [← hW9] at hV; exact (Below.refl v7.heap.size v7).drew.trans hV)
              clear hW9 HCN HBE Q7 Q7K HBD HLS HSS HC HA HHC hhk HRA HNO HX HB1 HC1
              have hcc2 : ¬ cc = k := by have := HR9.out.ca.1; have := HK9.out; have := HNL.out; omega
              have hhc2 : ¬ hc = k := by have := HR9.out.ia.1; have := HK9.out; have := HNL.out; omega
              have HR75 : Hid ((W9.alloc (.cells #[] 33)).ownsRow W9.heap.size 33 4 (.slice (some ⟨W9.heap.size, 0, none⟩) 0 0) 0 []) := World.ownsRow_lit W9 #[] 0 (Nat.le_refl _) (by decide) rfl
              have HX1 : Hid (RA s0 (W9.alloc (.cells #[] 33)) r L H (some ⟨eb, eo, none⟩) cc (some ⟨hb, ho, none⟩) hc) := HR9.out.below (below_new _ _)
              have f0 := HX1.out.f0.1
              rw [HNL.out] at f0
              have hcc : ((k : Nat) : Int) ≤ ((cc : Nat) : Int) := by have := HX1.out.ca.1; have := HK9.out.1; omega
              have hkn : ((k : Nat) : Int) ≤ ((n : Nat) : Int) := by have := HK9.out; have := HNL.out; omega
              have hhc : ((k : Nat) : Int) ≤ ((hc : Nat) : Int) := by have := HX1.out.ia.1; have := HK9.out.1; omega
              go_wp2_with (at_builtin; first
                | (refine wpList_append_any _ rfl (.tmp 75) (.tmp 81) 27 rfl W9.heap.size 33 i0 (.agg #[.string ByteArray.empty, .int .u64 0, .string ByteArray.empty, .bool false]) 4 48 Try.underlying27 hi hz0 hz1 hz2 rfl (by decide) _ 0 [] rfl HR75.out _ k _ (flC (L.take k)) rfl (fun e => by cases e) (by rw [flC_len, List.length_take]; have := HK9.out.1; omega) (fun ad e j u hj => by cases e; exact news_cells HX1.out.ca.2 0 k (by simpa using hj)) (fun u hu => by obtain ⟨d', _, hd'⟩ := List.mem_flatMap.1 hu; exact clL_one d' u hd') (by unfold maxLen; have := HK9.out; omega) (by have := HK9.out; omega) (by simp) ?_
                   intro v1 w1 ho1 hg1
                   have HO1 : Hid (w1.ownsRow W9.heap.size 33 4 v1 k (flC (L.take k)) ∧ Below W9.heap.size W9 w1) := (by rw [Nat.zero_add, List.nil_append] at ho1; exact ⟨ho1, (below_new W9 _).grown hg1 (by simp) (fun j ej => (World.ownsRow.lt HR75.out j ej).1)⟩)
                   clear ho1 hg1 HR75
                   have hx4 := CB.cells (HC9.out w1 HO1.out.2)
                   have HO1X : Hid ((w1.alloc (.cells #[.string c.key, .int .u64 ((c.seq : Nat) : Int), .string c.val, .bool c.gone] 33)).ownsRow W9.heap.size 33 4 v1 k (flC (L.take k))) := World.ownsRow.alloc HO1.out.1 _
                   have HNC2 : Hid (∀ j u, [Value.string c.key, .int .u64 ((c.seq : Nat) : Int), .string c.val, .bool c.gone][j]? = some u → (w1.alloc (.cells #[.string c.key, .int .u64 ((c.seq : Nat) : Int), .string c.val, .bool c.gone] 33)).cell? ((⟨w1.heap.size, 0, none⟩ : Addr).add j) = some u) := fun j u hj => by
                     rw [addr_addC]
                     exact cell_of_block (o := 0 + j) (block_alloc_at _ _) (by rw [Nat.zero_add]; simpa using hj))
                | (refine wpList_append_own _ rfl (.tmp 83) (.tmp 85) 27 rfl W9.heap.size 33 i0 (.agg #[.string ByteArray.empty, .int .u64 0, .string ByteArray.empty, .bool false]) 4 48 Try.underlying27 hi hz0 hz1 hz2 rfl (by decide) _ k _ rfl HO1X.out ⟨w1.heap.size, 0, none⟩ 1 1 [Value.string c.key, .int .u64 ((c.seq : Nat) : Int), .string c.val, .bool c.gone] rfl rfl HNC2.out (by simp [Value.oneCell']) (by unfold maxLen; have := HK9.out; omega) (by have := HK9.out; omega) (by have := HO1.out.2.size; simp; omega) ?_
                   intro v2 w2 ho2 hg2 _
                   have HO2 : Hid (w2.ownsRow W9.heap.size 33 4 v2 (k + 1) (flC (L.take k) ++ clL c) ∧ Below W9.heap.size W9 w2) := ⟨ho2, (HO1.out.2.alloc HO1.out.2.size _).grown hg2 (by have := HO1.out.2.size; simp; omega) (fun j ej => (World.ownsRow.lt HO1X.out j ej).1)⟩
                   clear ho2 hg2
                   have f1 := (HR9.out.below (HO2.out.2.alloc HO2.out.2.size (.cells #[] 3))).f0.2
                   rw [HNL.out] at f1
                   clear hx4 HO1 HO1X HNC2
                   have HR87 : Hid ((w2.alloc (.cells #[] 3)).ownsRow W9.heap.size 3 1 (.slice (some ⟨w2.heap.size, 0, none⟩) 0 0) 0 []) := World.ownsRow_lit w2 #[] 0 HO2.out.2.size (by decide) rfl
                   have HB3 : Hid (Below W9.heap.size W9 (w2.alloc (.cells #[] 3))) := HO2.out.2.alloc HO2.out.2.size _
                   have HX3 : Hid (RA s0 (w2.alloc (.cells #[] 3)) r L H (some ⟨eb, eo, none⟩) cc (some ⟨hb, ho, none⟩) hc) := HR9.out.below HB3.out
                   have HO2X : Hid ((w2.alloc (.cells #[] 3)).ownsRow W9.heap.size 33 4 v2 (k + 1) (flC (L.take k) ++ clL c)) := World.ownsRow.alloc HO2.out.1 _)
                | (refine wpList_append_any _ rfl (.tmp 87) (.tmp 93) 28 rfl W9.heap.size 3 i3 (.int .i64 0) 1 8 Try.underlying28 hi3 hy0 hy1 hy2 rfl (by decide) _ 0 [] rfl HR87.out _ k _ (intsV (H.take k)) rfl (fun e => by cases e) (by unfold intsV; rw [List.length_map, List.length_take]; have := HK9.out.1; have := HX3.out.len; omega) (fun ad e j u hj => by cases e; exact news_ints HX3.out.ia.2 0 k (by simpa using hj)) (fun u hu => by obtain ⟨d', _, rfl⟩ := List.mem_map.1 hu; simp [Value.oneCell']) (by unfold maxLen; have := HK9.out; omega) (by have := HK9.out; omega) HB3.out.size ?_
                   intro v3 w3 ho3 hg3
                   have HO3 : Hid (w3.ownsRow W9.heap.size 3 1 v3 k (intsV (H.take k)) ∧ w3.ownsRow W9.heap.size 33 4 v2 (k + 1) (flC (L.take k) ++ clL c) ∧ Below W9.heap.size W9 w3) := (by rw [Nat.zero_add, List.nil_append] at ho3; exact ⟨ho3, row_stays HO2X.out HR87.out (by decide) hg3, HB3.out.grown hg3 HB3.out.size (fun j ej => (World.ownsRow.lt HR87.out j ej).1)⟩)
                   clear ho3 hg3
                   clear f1 HR87 HX3 HB3 HO2 HO2X
                   have HO3X : Hid ((w3.alloc (.cells #[.int .i64 hgt] 3)).ownsRow W9.heap.size 3 1 v3 k (intsV (H.take k))) := World.ownsRow.alloc HO3.out.1 _
                   have HO3Y : Hid ((w3.alloc (.cells #[.int .i64 hgt] 3)).ownsRow W9.heap.size 33 4 v2 (k + 1) (flC (L.take k) ++ clL c)) := World.ownsRow.alloc HO3.out.2.1 _
                   have HB4 : Hid (Below W9.heap.size W9 (w3.alloc (.cells #[.int .i64 hgt] 3))) := HO3.out.2.2.alloc HO3.out.2.2.size _)
                | (refine wpList_append_own _ rfl (.tmp 95) (.tmp 97) 28 rfl W9.heap.size 3 i3 (.int .i64 0) 1 8 Try.underlying28 hi3 hy0 hy1 hy2 rfl (by decide) _ k _ rfl HO3X.out ⟨w3.heap.size, 0, none⟩ 1 1 [.int .i64 hgt] rfl rfl (cell_one_new _ _ _) (by simp [Value.oneCell']) (by unfold maxLen; have := HK9.out; omega) (by have := HK9.out; omega) HB4.out.size ?_
                   intro v4 w4 ho4 hg4 _
                   have HO4 : Hid (w4.ownsRow W9.heap.size 3 1 v4 (k + 1) (intsV (H.take k) ++ [.int .i64 hgt]) ∧ w4.ownsRow W9.heap.size 33 4 v2 (k + 1) (flC (L.take k) ++ clL c) ∧ Below W9.heap.size W9 w4) := ⟨ho4, row_stays HO3Y.out HO3X.out (by decide) hg4, HB4.out.grown hg4 HB4.out.size (fun j ej => (World.ownsRow.lt HO3X.out j ej).1)⟩
                   clear ho4 hg4
                   have f2 := (HR9.out.below HO4.out.2.2).f0.1
                   rw [HNL.out] at f2
                   clear HO3 HO3X HO3Y HB4
                   have HX4 : Hid (RA s0 w4 r L H (some ⟨eb, eo, none⟩) cc (some ⟨hb, ho, none⟩) hc) := HR9.out.below HO4.out.2.2
                   have hb5 := HX4.out.blk
                   rw [HNL.out] at hb5
                   have HB5 : Hid _ := hb5
                   have HRW : Hid (r < W9.heap.size) := HR9.out.lt
                   have HX5 : Hid (∀ (w5 : World) (v5 : Value), w5.ownsRow W9.heap.size 33 4 v5 (k + 1 + (n - k)) (flC (L.take k) ++ clL c ++ flC (L.drop k)) → w4.grownBy w5 v2.ownBlock → _) := fun w5 v5 q1 q2 => put_mid HR9.out HNL.out HO4.out.2.1 HO4.out.1 HO4.out.2.2 q1 q2)
                | (refine wpList_append_any _ rfl (.tmp 100) (.tmp 106) 27 rfl W9.heap.size 33 i0 (.agg #[.string ByteArray.empty, .int .u64 0, .string ByteArray.empty, .bool false]) 4 48 Try.underlying27 hi hz0 hz1 hz2 rfl (by decide) _ (k + 1) _ rfl HO4.out.2.1 _ (n - k) _ (flC (L.drop k)) rfl (fun e => by cases e) (by rw [flC_len, List.length_drop, HNL.out]) (fun ad e j u hj => by cases e; exact news_cells_drop HX4.out.ca.2 k hj) (fun u hu => by obtain ⟨d', _, hd'⟩ := List.mem_flatMap.1 hu; exact clL_one d' u hd') (by unfold maxLen; have := HK9.out; have := HNL.out; omega) (by have := HK9.out; have := HNL.out; omega) HO4.out.2.2.size ?_
                   intro v5 w5 ho5 hg5
                   obtain ⟨a5, c5, rfl⟩ := row_form4 ho5
                   obtain ⟨fr5, ⟨u5, cu5⟩, hr5⟩ := HX5.out w5 _ ho5 hg5
                   have HY5 : Hid _ := hr5
                   clear ho5 hg5 hr5
                   have f3 := cell_of_block (o := 1) HY5.out.1 rfl
                   have HX6 : Hid (∀ (w6 : World) (v6 : Value), w6.ownsRow W9.heap.size 3 1 v6 (k + 1 + (n - k)) (intsV (H.take k) ++ [.int .i64 hgt] ++ intsV (H.drop k)) → (w5.setCell ⟨r, 0, none⟩ (.slice a5 (k + 1 + (n - k)) c5)).grownBy w6 v4.ownBlock → _) := fun w6 v6 q1 q2 => put_end HR9.out HNL.out (by have := HK9.out; have := HNL.out; omega) (Nat.le_trans HSZ.out.1 HBW.out.size) HBW.out HQ0.out HG1.out HT1.out HT2.out HY5.out.1 HY5.out.2.1 HY5.out.2.2.1 HY5.out.2.2.2.2 q1 q2
                   clear f2 HO4 HX4 HB5 HX5)
                | (refine wpList_append_any _ rfl (.tmp 111) (.tmp 117) 28 rfl W9.heap.size 3 i3 (.int .i64 0) 1 8 Try.underlying28 hi3 hy0 hy1 hy2 rfl (by decide) _ (k + 1) _ rfl HY5.out.2.2.1 _ (n - k) _ (intsV (H.drop k)) rfl (fun e => by cases e) (by unfold intsV; rw [List.length_map, List.length_drop, HR9.out.len, HNL.out, Nat.mul_one]) (fun ad e j u hj => by cases e; exact news_ints_drop HY5.out.2.2.2.1 k hj) (fun u hu => by obtain ⟨d', _, rfl⟩ := List.mem_map.1 hu; simp [Value.oneCell']) (by unfold maxLen; have := HK9.out; have := HNL.out; omega) (by have := HK9.out; have := HNL.out; omega) HY5.out.2.2.2.2.size ?_
                   intro v6 w6 ho6 hg6
                   obtain ⟨a6, c6, rfl⟩ := row_form4 ho6
                   obtain ⟨fr6, ⟨u6x, cu6⟩, hfin⟩ := HX6.out w6 _ ho6 hg6
                   have HFIN : Hid _ := hfin
                   clear ho6 hg6 hfin f3 fr5 cu5))
              go_ret
              exact HFIN.out
        · obtain rfl : k = n := by omega
          have hlz : ¬ ((k : Nat) : Int) < ((k : Nat) : Int) := by omega
          have HSS : Hid (∀ V, Below wr.drew.heap.size wr.drew V → V.cell? ⟨r, 0, none⟩ = some (.slice ca k cc) ∧ (V.cell? ⟨x, 0, none⟩ = some (.string c.key) ∧ V.cell? ⟨x, 1, none⟩ = some (.int .u64 ((c.seq : Nat) : Int)) ∧ V.cell? ⟨x, 2, none⟩ = some (.string c.val) ∧ V.cell? ⟨x, 3, none⟩ = some (.bool c.gone))) := fun V hV => by
            have hVw : Below w.heap.size w V := below_on HBD.out hV
            have f := (HRA.out V hVw).f0.1
            rw [HNL.out] at f
            exact ⟨f, CB.cells (HC.out V ((Below.refl wr.heap.size wr).drew.trans hV))⟩
          have hnone : L[k]? = none := List.getElem?_eq_none (by rw [HNL.out]; exact Nat.le_refl _)
          obtain ⟨hT1, hT2⟩ := tw_take (p := fun d => lessC d c) (L := L) (k := k) (by rw [HNL.out]; exact Nat.le_refl _) HA.out (fun d' hd' => by rw [hnone] at hd'; cases hd')
          have hdk : L.drop k = [] := by rw [← HNL.out, List.drop_length]
          have HQ0 : Hid (putQ c hgt L = 0) := HQ.out.2 (by
            unfold hasC
            rw [show (fun d => ahK d c.key c.seq) = (fun d => lessC d c) from rfl, hT2, hdk])
          have HT1 : Hid (L.takeWhile (fun d => lessC d c) = L.take k) := hT1
          have HT2 : Hid (L.dropWhile (fun d => lessC d c) = L.drop k) := hT2
          have HDK : Hid (L.drop k = []) := hdk
          clear hnone hT1 hT2 hdk hlt
          have hS0 := HSS.out _ (Below.refl _ _)
          go_wp2_with fail
          refine wp_region_held_drew (S := fun V => V.cell? ⟨r, 0, none⟩ = some (.slice ca k cc) ∧ (V.cell? ⟨x, 0, none⟩ = some (.string c.key) ∧ V.cell? ⟨x, 1, none⟩ = some (.int .u64 ((c.seq : Nat) : Int)) ∧ V.cell? ⟨x, 2, none⟩ = some (.string c.val) ∧ V.cell? ⟨x, 3, none⟩ = some (.bool c.gone))) (by kernel_rfl) hS0 (fun hHeld => ?_)
          refine wpAnyH_take (i := 0) (oi := ({ dst := some 22, op := Op.move (Operand.tmp 8), type := 3, pos := "ref.go:45", after := #[], guard := none } : Oper)) (v := ?_) rfl (by kernel_rfl) (by kernel_rfl) (by kernel_rfl) (fun _ _ _ h => h) (Or.inl ⟨by rfl, ?_⟩) (by assumption) ?_
          rotate_left
          · (intro w hSw; (try dsimp only at hSw); go_simp; try with_reducible rfl)
          try simp only [Act.put, List.setIfInBounds_toArray, List.set_cons_zero, List.set_cons_succ]
          refine wpAnyH_take (i := 1) (oi := ({ dst := some 23, op := Op.move (Operand.tmp 0), type := 26, pos := "ref.go:45", after := #[], guard := none } : Oper)) (v := ?_) rfl (by kernel_rfl) (by kernel_rfl) (by kernel_rfl) (fun _ _ _ h => h) (Or.inl ⟨by rfl, ?_⟩) (by assumption) ?_
          rotate_left
          · (intro w hSw; (try dsimp only at hSw); go_simp; try with_reducible rfl)
          try simp only [Act.put, List.setIfInBounds_toArray, List.set_cons_zero, List.set_cons_succ]
          refine wpAnyH_take (i := 2) (oi := ({ dst := some 24, op := Op.nilCheck (Operand.tmp 23), type := 0, pos := "ref.go:45", after := #[{ on := 1, ground := Ground.data }], guard := none } : Oper)) (v := ?_) rfl (by kernel_rfl) (by kernel_rfl) (by kernel_rfl) (fun _ _ _ h => h) (Or.inl ⟨by rfl, ?_⟩) (by assumption) ?_
          rotate_left
          · (intro w hSw; (try dsimp only at hSw); go_simp; try with_reducible rfl)
          try simp only [Act.put, List.setIfInBounds_toArray, List.set_cons_zero, List.set_cons_succ]
          refine wpAnyH_take (i := 3) (oi := ({ dst := some 25, op := Op.fieldAddr 30 (Operand.tmp 24) 0, type := 0, pos := "ref.go:45", after := #[{ on := 2, ground := Ground.data }], guard := none } : Oper)) (v := ?_) rfl (by kernel_rfl) (by kernel_rfl) (by kernel_rfl) (fun _ _ _ h => h) (Or.inl ⟨by rfl, ?_⟩) (by assumption) ?_
          rotate_left
          · (intro w hSw; (try dsimp only at hSw); go_simp; try with_reducible rfl)
          try simp only [Act.put, List.setIfInBounds_toArray, List.set_cons_zero, List.set_cons_succ]
          refine wpAnyH_take (i := 4) (oi := ({ dst := some 26, op := Op.load 27 (Operand.tmp 25), type := 27, pos := "ref.go:45", after := #[{ on := 3, ground := Ground.data }], guard := none } : Oper)) (v := ?_) rfl (by kernel_rfl) (by kernel_rfl) (by kernel_rfl) (fun _ _ _ h => h) (Or.inl ⟨by rfl, ?_⟩) (by assumption) ?_
          rotate_left
          · (intro w hSw; (try dsimp only at hSw); go_simp; try with_reducible rfl)
          try simp only [Act.put, List.setIfInBounds_toArray, List.set_cons_zero, List.set_cons_succ]
          refine wpAnyH_take (i := 5) (oi := ({ dst := some 27, op := Op.call { callee := Callee.builtin Builtin.len, args := #[Operand.tmp 26], argTypes := #[27] }, type := 3, pos := "ref.go:45", after := #[{ on := 4, ground := Ground.data }], guard := none } : Oper)) (v := ?_) rfl (by kernel_rfl) (by kernel_rfl) (by kernel_rfl) (fun _ _ _ h => h) (Or.inl ⟨by rfl, ?_⟩) (by assumption) ?_
          rotate_left
          · (intro w hSw; (try dsimp only at hSw); go_simp; try with_reducible rfl)
          try simp only [Act.put, List.setIfInBounds_toArray, List.set_cons_zero, List.set_cons_succ]
          refine wpAnyH_take (i := 6) (oi := ({ dst := some 28, op := Op.binOp BinOp.lss 3 (Operand.tmp 22) (Operand.tmp 27) 3, type := 4, pos := "ref.go:45", after := #[{ on := 0, ground := Ground.data }, { on := 5, ground := Ground.data }], guard := none } : Oper)) (v := ?_) rfl (by kernel_rfl) (by kernel_rfl) (by kernel_rfl) (fun _ _ _ h => h) (Or.inl ⟨by rfl, ?_⟩) (by assumption) ?_
          rotate_left
          · (intro w hSw; (try dsimp only at hSw); go_simp; try with_reducible rfl)
          try simp only [Act.put, List.setIfInBounds_toArray, List.set_cons_zero, List.set_cons_succ]
          refine wpAnyH_take (i := 7) (oi := ({ dst := some 29, op := Op.move (Operand.tmp 28), type := 4, pos := "ref.go:45", after := #[{ on := 6, ground := Ground.data }], guard := none } : Oper)) (v := ?_) rfl (by kernel_rfl) (by kernel_rfl) (by kernel_rfl) (fun _ _ _ h => h) (Or.inl ⟨by rfl, ?_⟩) (by assumption) ?_
          rotate_left
          · (intro w hSw; (try dsimp only at hSw); go_simp; try with_reducible rfl)
          try simp only [Act.put, List.setIfInBounds_toArray, List.set_cons_zero, List.set_cons_succ]
          refine wpAnyH_take (i := 8) (oi := ({ dst := some 30, op := Op.move (Operand.tmp 0), type := 26, pos := "ref.go:45", after := #[{ on := 7, ground := Ground.guard }], guard := some (7, true) } : Oper)) (v := undef) rfl (by kernel_rfl) (by kernel_rfl) (by kernel_rfl) (fun _ _ _ h => h) (Or.inr ⟨by rfl, rfl⟩) (by assumption) ?_
          try simp only [Act.put, List.setIfInBounds_toArray, List.set_cons_zero, List.set_cons_succ]
          refine wpAnyH_take (i := 9) (oi := ({ dst := some 31, op := Op.nilCheck (Operand.tmp 30), type := 0, pos := "ref.go:45", after := #[{ on := 8, ground := Ground.data }, { on := 7, ground := Ground.guard }], guard := some (7, true) } : Oper)) (v := undef) rfl (by kernel_rfl) (by kernel_rfl) (by kernel_rfl) (fun _ _ _ h => h) (Or.inr ⟨by rfl, rfl⟩) (by assumption) ?_
          try simp only [Act.put, List.setIfInBounds_toArray, List.set_cons_zero, List.set_cons_succ]
          refine wpAnyH_take (i := 10) (oi := ({ dst := some 32, op := Op.fieldAddr 30 (Operand.tmp 31) 0, type := 0, pos := "ref.go:45", after := #[{ on := 9, ground := Ground.data }, { on := 7, ground := Ground.guard }], guard := some (7, true) } : Oper)) (v := undef) rfl (by kernel_rfl) (by kernel_rfl) (by kernel_rfl) (fun _ _ _ h => h) (Or.inr ⟨by rfl, rfl⟩) (by assumption) ?_
          try simp only [Act.put, List.setIfInBounds_toArray, List.set_cons_zero, List.set_cons_succ]
          refine wpAnyH_take (i := 11) (oi := ({ dst := some 33, op := Op.load 27 (Operand.tmp 32), type := 27, pos := "ref.go:45", after := #[{ on := 10, ground := Ground.data }, { on := 7, ground := Ground.guard }], guard := some (7, true) } : Oper)) (v := undef) rfl (by kernel_rfl) (by kernel_rfl) (by kernel_rfl) (fun _ _ _ h => h) (Or.inr ⟨by rfl, rfl⟩) (by assumption) ?_
          try simp only [Act.put, List.setIfInBounds_toArray, List.set_cons_zero, List.set_cons_succ]
          refine wpAnyH_take (i := 12) (oi := ({ dst := some 34, op := Op.move (Operand.tmp 8), type := 3, pos := "ref.go:45", after := #[{ on := 7, ground := Ground.guard }], guard := some (7, true) } : Oper)) (v := undef) rfl (by kernel_rfl) (by kernel_rfl) (by kernel_rfl) (fun _ _ _ h => h) (Or.inr ⟨by rfl, rfl⟩) (by assumption) ?_
          try simp only [Act.put, List.setIfInBounds_toArray, List.set_cons_zero, List.set_cons_succ]
          refine wpAnyH_take (i := 13) (oi := ({ dst := some 35, op := Op.indexAddr 27 (Operand.tmp 33) (Operand.tmp 34), type := 0, pos := "ref.go:45", after := #[{ on := 11, ground := Ground.data }, { on := 12, ground := Ground.data }, { on := 7, ground := Ground.guard }], guard := some (7, true) } : Oper)) (v := undef) rfl (by kernel_rfl) (by kernel_rfl) (by kernel_rfl) (fun _ _ _ h => h) (Or.inr ⟨by rfl, rfl⟩) (by assumption) ?_
          try simp only [Act.put, List.setIfInBounds_toArray, List.set_cons_zero, List.set_cons_succ]
          refine wpAnyH_take (i := 14) (oi := ({ dst := some 36, op := Op.load 33 (Operand.tmp 35), type := 33, pos := "ref.go:45", after := #[{ on := 13, ground := Ground.data }, { on := 7, ground := Ground.guard }], guard := some (7, true) } : Oper)) (v := undef) rfl (by kernel_rfl) (by kernel_rfl) (by kernel_rfl) (fun _ _ _ h => h) (Or.inr ⟨by rfl, rfl⟩) (by assumption) ?_
          try simp only [Act.put, List.setIfInBounds_toArray, List.set_cons_zero, List.set_cons_succ]
          refine wpAnyH_take (i := 15) (oi := ({ dst := some 37, op := Op.load 33 (Operand.tmp 4), type := 33, pos := "ref.go:45", after := #[{ on := 7, ground := Ground.guard }], guard := some (7, true) } : Oper)) (v := undef) rfl (by kernel_rfl) (by kernel_rfl) (by kernel_rfl) (fun _ _ _ h => h) (Or.inr ⟨by rfl, rfl⟩) (by assumption) ?_
          try simp only [Act.put, List.setIfInBounds_toArray, List.set_cons_zero, List.set_cons_succ]
          refine wpAnyH_take (i := 16) (oi := ({ dst := some 38, op := Op.call { callee := Callee.value (Operand.func 22), args := #[Operand.tmp 36, Operand.tmp 37], argTypes := #[33, 33] }, type := 4, pos := "ref.go:45", after := #[{ on := 14, ground := Ground.data }, { on := 15, ground := Ground.data }, { on := 7, ground := Ground.chain }, { on := 7, ground := Ground.guard }], guard := some (7, true) } : Oper)) (v := undef) rfl (by kernel_rfl) (by kernel_rfl) (by kernel_rfl) (fun _ _ _ h => h) (Or.inr ⟨by rfl, rfl⟩) (by assumption) ?_
          try simp only [Act.put, List.setIfInBounds_toArray, List.set_cons_zero, List.set_cons_succ]
          refine wpAnyH_take (i := 17) (oi := ({ dst := some 39, op := Op.pick (Operand.tmp 29) (Operand.tmp 38) (Operand.const (Value.bool false)), type := 4, pos := "ref.go:45", after := #[{ on := 7, ground := Ground.data }, { on := 16, ground := Ground.data }], guard := none } : Oper)) (v := ?_) rfl (by kernel_rfl) (by kernel_rfl) (by kernel_rfl) (fun _ _ _ h => h) (Or.inl ⟨by rfl, ?_⟩) (by assumption) ?_
          rotate_left
          · (intro w hSw; (try dsimp only at hSw); go_simp; try with_reducible rfl)
          try simp only [Act.put, List.setIfInBounds_toArray, List.set_cons_zero, List.set_cons_succ]
          refine wpAnyH_done (by kernel_rfl) ?_ _
          clear hHeld hS0
          have hS0 := HSS.out wr.drew.drew (Below.refl _ _).drew
          go_wp2_with fail
          refine wp_region_held_drew (S := fun V => V.cell? ⟨r, 0, none⟩ = some (.slice ca k cc) ∧ (V.cell? ⟨x, 0, none⟩ = some (.string c.key) ∧ V.cell? ⟨x, 1, none⟩ = some (.int .u64 ((c.seq : Nat) : Int)) ∧ V.cell? ⟨x, 2, none⟩ = some (.string c.val) ∧ V.cell? ⟨x, 3, none⟩ = some (.bool c.gone))) (by kernel_rfl) hS0 (fun hHeld => ?_)
          refine wpAnyH_take (i := 0) (oi := ({ dst := some 42, op := Op.move (Operand.tmp 8), type := 3, pos := "ref.go:48", after := #[], guard := none } : Oper)) (v := ?_) rfl (by kernel_rfl) (by kernel_rfl) (by kernel_rfl) (fun _ _ _ h => h) (Or.inl ⟨by rfl, ?_⟩) (by assumption) ?_
          rotate_left
          · (intro w hSw; (try dsimp only at hSw); go_simp; try with_reducible rfl)
          try simp only [Act.put, List.setIfInBounds_toArray, List.set_cons_zero, List.set_cons_succ]
          refine wpAnyH_take (i := 1) (oi := ({ dst := some 43, op := Op.move (Operand.tmp 0), type := 26, pos := "ref.go:48", after := #[], guard := none } : Oper)) (v := ?_) rfl (by kernel_rfl) (by kernel_rfl) (by kernel_rfl) (fun _ _ _ h => h) (Or.inl ⟨by rfl, ?_⟩) (by assumption) ?_
          rotate_left
          · (intro w hSw; (try dsimp only at hSw); go_simp; try with_reducible rfl)
          try simp only [Act.put, List.setIfInBounds_toArray, List.set_cons_zero, List.set_cons_succ]
          refine wpAnyH_take (i := 2) (oi := ({ dst := some 44, op := Op.nilCheck (Operand.tmp 43), type := 0, pos := "ref.go:48", after := #[{ on := 1, ground := Ground.data }], guard := none } : Oper)) (v := ?_) rfl (by kernel_rfl) (by kernel_rfl) (by kernel_rfl) (fun _ _ _ h => h) (Or.inl ⟨by rfl, ?_⟩) (by assumption) ?_
          rotate_left
          · (intro w hSw; (try dsimp only at hSw); go_simp; try with_reducible rfl)
          try simp only [Act.put, List.setIfInBounds_toArray, List.set_cons_zero, List.set_cons_succ]
          refine wpAnyH_take (i := 3) (oi := ({ dst := some 45, op := Op.fieldAddr 30 (Operand.tmp 44) 0, type := 0, pos := "ref.go:48", after := #[{ on := 2, ground := Ground.data }], guard := none } : Oper)) (v := ?_) rfl (by kernel_rfl) (by kernel_rfl) (by kernel_rfl) (fun _ _ _ h => h) (Or.inl ⟨by rfl, ?_⟩) (by assumption) ?_
          rotate_left
          · (intro w hSw; (try dsimp only at hSw); go_simp; try with_reducible rfl)
          try simp only [Act.put, List.setIfInBounds_toArray, List.set_cons_zero, List.set_cons_succ]
          refine wpAnyH_take (i := 4) (oi := ({ dst := some 46, op := Op.load 27 (Operand.tmp 45), type := 27, pos := "ref.go:48", after := #[{ on := 3, ground := Ground.data }], guard := none } : Oper)) (v := ?_) rfl (by kernel_rfl) (by kernel_rfl) (by kernel_rfl) (fun _ _ _ h => h) (Or.inl ⟨by rfl, ?_⟩) (by assumption) ?_
          rotate_left
          · (intro w hSw; (try dsimp only at hSw); go_simp; try with_reducible rfl)
          try simp only [Act.put, List.setIfInBounds_toArray, List.set_cons_zero, List.set_cons_succ]
          refine wpAnyH_take (i := 5) (oi := ({ dst := some 47, op := Op.call { callee := Callee.builtin Builtin.len, args := #[Operand.tmp 46], argTypes := #[27] }, type := 3, pos := "ref.go:48", after := #[{ on := 4, ground := Ground.data }], guard := none } : Oper)) (v := ?_) rfl (by kernel_rfl) (by kernel_rfl) (by kernel_rfl) (fun _ _ _ h => h) (Or.inl ⟨by rfl, ?_⟩) (by assumption) ?_
          rotate_left
          · (intro w hSw; (try dsimp only at hSw); go_simp; try with_reducible rfl)
          try simp only [Act.put, List.setIfInBounds_toArray, List.set_cons_zero, List.set_cons_succ]
          refine wpAnyH_take (i := 6) (oi := ({ dst := some 48, op := Op.binOp BinOp.lss 3 (Operand.tmp 42) (Operand.tmp 47) 3, type := 4, pos := "ref.go:48", after := #[{ on := 0, ground := Ground.data }, { on := 5, ground := Ground.data }], guard := none } : Oper)) (v := ?_) rfl (by kernel_rfl) (by kernel_rfl) (by kernel_rfl) (fun _ _ _ h => h) (Or.inl ⟨by rfl, ?_⟩) (by assumption) ?_
          rotate_left
          · (intro w hSw; (try dsimp only at hSw); go_simp; try with_reducible rfl)
          try simp only [Act.put, List.setIfInBounds_toArray, List.set_cons_zero, List.set_cons_succ]
          refine wpAnyH_take (i := 7) (oi := ({ dst := some 49, op := Op.move (Operand.tmp 48), type := 4, pos := "ref.go:48", after := #[{ on := 6, ground := Ground.data }], guard := none } : Oper)) (v := ?_) rfl (by kernel_rfl) (by kernel_rfl) (by kernel_rfl) (fun _ _ _ h => h) (Or.inl ⟨by rfl, ?_⟩) (by assumption) ?_
          rotate_left
          · (intro w hSw; (try dsimp only at hSw); go_simp; try with_reducible rfl)
          try simp only [Act.put, List.setIfInBounds_toArray, List.set_cons_zero, List.set_cons_succ]
          refine wpAnyH_take (i := 8) (oi := ({ dst := some 50, op := Op.move (Operand.tmp 0), type := 26, pos := "ref.go:48", after := #[{ on := 7, ground := Ground.guard }], guard := some (7, true) } : Oper)) (v := undef) rfl (by kernel_rfl) (by kernel_rfl) (by kernel_rfl) (fun _ _ _ h => h) (Or.inr ⟨by rfl, rfl⟩) (by assumption) ?_
          try simp only [Act.put, List.setIfInBounds_toArray, List.set_cons_zero, List.set_cons_succ]
          refine wpAnyH_take (i := 9) (oi := ({ dst := some 51, op := Op.nilCheck (Operand.tmp 50), type := 0, pos := "ref.go:48", after := #[{ on := 8, ground := Ground.data }, { on := 7, ground := Ground.guard }], guard := some (7, true) } : Oper)) (v := undef) rfl (by kernel_rfl) (by kernel_rfl) (by kernel_rfl) (fun _ _ _ h => h) (Or.inr ⟨by rfl, rfl⟩) (by assumption) ?_
          try simp only [Act.put, List.setIfInBounds_toArray, List.set_cons_zero, List.set_cons_succ]
          refine wpAnyH_take (i := 10) (oi := ({ dst := some 52, op := Op.fieldAddr 30 (Operand.tmp 51) 0, type := 0, pos := "ref.go:48", after := #[{ on := 9, ground := Ground.data }, { on := 7, ground := Ground.guard }], guard := some (7, true) } : Oper)) (v := undef) rfl (by kernel_rfl) (by kernel_rfl) (by kernel_rfl) (fun _ _ _ h => h) (Or.inr ⟨by rfl, rfl⟩) (by assumption) ?_
          try simp only [Act.put, List.setIfInBounds_toArray, List.set_cons_zero, List.set_cons_succ]
          refine wpAnyH_take (i := 11) (oi := ({ dst := some 53, op := Op.load 27 (Operand.tmp 52), type := 27, pos := "ref.go:48", after := #[{ on := 10, ground := Ground.data }, { on := 7, ground := Ground.guard }], guard := some (7, true) } : Oper)) (v := undef) rfl (by kernel_rfl) (by kernel_rfl) (by kernel_rfl) (fun _ _ _ h => h) (Or.inr ⟨by rfl, rfl⟩) (by assumption) ?_
          try simp only [Act.put, List.setIfInBounds_toArray, List.set_cons_zero, List.set_cons_succ]
          refine wpAnyH_take (i := 12) (oi := ({ dst := some 54, op := Op.move (Operand.tmp 8), type := 3, pos := "ref.go:48", after := #[{ on := 7, ground := Ground.guard }], guard := some (7, true) } : Oper)) (v := undef) rfl (by kernel_rfl) (by kernel_rfl) (by kernel_rfl) (fun _ _ _ h => h) (Or.inr ⟨by rfl, rfl⟩) (by assumption) ?_
          try simp only [Act.put, List.setIfInBounds_toArray, List.set_cons_zero, List.set_cons_succ]
          refine wpAnyH_take (i := 13) (oi := ({ dst := some 55, op := Op.indexAddr 27 (Operand.tmp 53) (Operand.tmp 54), type := 0, pos := "ref.go:48", after := #[{ on := 11, ground := Ground.data }, { on := 12, ground := Ground.data }, { on := 7, ground := Ground.guard }], guard := some (7, true) } : Oper)) (v := undef) rfl (by kernel_rfl) (by kernel_rfl) (by kernel_rfl) (fun _ _ _ h => h) (Or.inr ⟨by rfl, rfl⟩) (by assumption) ?_
          try simp only [Act.put, List.setIfInBounds_toArray, List.set_cons_zero, List.set_cons_succ]
          refine wpAnyH_take (i := 14) (oi := ({ dst := some 56, op := Op.fieldAddr 33 (Operand.tmp 55) 0, type := 0, pos := "ref.go:48", after := #[{ on := 13, ground := Ground.data }, { on := 7, ground := Ground.guard }], guard := some (7, true) } : Oper)) (v := undef) rfl (by kernel_rfl) (by kernel_rfl) (by kernel_rfl) (fun _ _ _ h => h) (Or.inr ⟨by rfl, rfl⟩) (by assumption) ?_
          try simp only [Act.put, List.setIfInBounds_toArray, List.set_cons_zero, List.set_cons_succ]
          refine wpAnyH_take (i := 15) (oi := ({ dst := some 57, op := Op.load 9 (Operand.tmp 56), type := 9, pos := "ref.go:48", after := #[{ on := 14, ground := Ground.data }, { on := 7, ground := Ground.guard }], guard := some (7, true) } : Oper)) (v := undef) rfl (by kernel_rfl) (by kernel_rfl) (by kernel_rfl) (fun _ _ _ h => h) (Or.inr ⟨by rfl, rfl⟩) (by assumption) ?_
          try simp only [Act.put, List.setIfInBounds_toArray, List.set_cons_zero, List.set_cons_succ]
          refine wpAnyH_take (i := 16) (oi := ({ dst := some 58, op := Op.fieldAddr 33 (Operand.tmp 4) 0, type := 0, pos := "ref.go:48", after := #[{ on := 7, ground := Ground.guard }], guard := some (7, true) } : Oper)) (v := undef) rfl (by kernel_rfl) (by kernel_rfl) (by kernel_rfl) (fun _ _ _ h => h) (Or.inr ⟨by rfl, rfl⟩) (by assumption) ?_
          try simp only [Act.put, List.setIfInBounds_toArray, List.set_cons_zero, List.set_cons_succ]
          refine wpAnyH_take (i := 17) (oi := ({ dst := some 59, op := Op.load 9 (Operand.tmp 58), type := 9, pos := "ref.go:48", after := #[{ on := 16, ground := Ground.data }, { on := 7, ground := Ground.guard }], guard := some (7, true) } : Oper)) (v := undef) rfl (by kernel_rfl) (by kernel_rfl) (by kernel_rfl) (fun _ _ _ h => h) (Or.inr ⟨by rfl, rfl⟩) (by assumption) ?_
          try simp only [Act.put, List.setIfInBounds_toArray, List.set_cons_zero, List.set_cons_succ]
          refine wpAnyH_take (i := 18) (oi := ({ dst := some 60, op := Op.binOp BinOp.eql 9 (Operand.tmp 57) (Operand.tmp 59) 9, type := 4, pos := "ref.go:48", after := #[{ on := 15, ground := Ground.data }, { on := 17, ground := Ground.data }, { on := 7, ground := Ground.guard }], guard := some (7, true) } : Oper)) (v := undef) rfl (by kernel_rfl) (by kernel_rfl) (by kernel_rfl) (fun _ _ _ h => h) (Or.inr ⟨by rfl, rfl⟩) (by assumption) ?_
          try simp only [Act.put, List.setIfInBounds_toArray, List.set_cons_zero, List.set_cons_succ]
          refine wpAnyH_take (i := 19) (oi := ({ dst := some 61, op := Op.pick (Operand.tmp 49) (Operand.tmp 60) (Operand.const (Value.bool false)), type := 4, pos := "ref.go:48", after := #[{ on := 7, ground := Ground.data }, { on := 18, ground := Ground.data }], guard := none } : Oper)) (v := ?_) rfl (by kernel_rfl) (by kernel_rfl) (by kernel_rfl) (fun _ _ _ h => h) (Or.inl ⟨by rfl, ?_⟩) (by assumption) ?_
          rotate_left
          · (intro w hSw; (try dsimp only at hSw); go_simp; try with_reducible rfl)
          try simp only [Act.put, List.setIfInBounds_toArray, List.set_cons_zero, List.set_cons_succ]
          refine wpAnyH_take (i := 20) (oi := ({ dst := some 62, op := Op.move (Operand.tmp 61), type := 4, pos := "ref.go:48", after := #[{ on := 19, ground := Ground.data }, { on := 7, ground := Ground.chain }], guard := none } : Oper)) (v := ?_) rfl (by kernel_rfl) (by kernel_rfl) (by kernel_rfl) (fun _ _ _ h => h) (Or.inl ⟨by rfl, ?_⟩) (by assumption) ?_
          rotate_left
          · (intro w hSw; (try dsimp only at hSw); go_simp; try with_reducible rfl)
          try simp only [Act.put, List.setIfInBounds_toArray, List.set_cons_zero, List.set_cons_succ]
          refine wpAnyH_take (i := 21) (oi := ({ dst := some 63, op := Op.move (Operand.tmp 0), type := 26, pos := "ref.go:48", after := #[{ on := 20, ground := Ground.guard }], guard := some (20, true) } : Oper)) (v := undef) rfl (by kernel_rfl) (by kernel_rfl) (by kernel_rfl) (fun _ _ _ h => h) (Or.inr ⟨by rfl, rfl⟩) (by assumption) ?_
          try simp only [Act.put, List.setIfInBounds_toArray, List.set_cons_zero, List.set_cons_succ]
          refine wpAnyH_take (i := 22) (oi := ({ dst := some 64, op := Op.nilCheck (Operand.tmp 63), type := 0, pos := "ref.go:48", after := #[{ on := 21, ground := Ground.data }, { on := 20, ground := Ground.guard }], guard := some (20, true) } : Oper)) (v := undef) rfl (by kernel_rfl) (by kernel_rfl) (by kernel_rfl) (fun _ _ _ h => h) (Or.inr ⟨by rfl, rfl⟩) (by assumption) ?_
          try simp only [Act.put, List.setIfInBounds_toArray, List.set_cons_zero, List.set_cons_succ]
          refine wpAnyH_take (i := 23) (oi := ({ dst := some 65, op := Op.fieldAddr 30 (Operand.tmp 64) 0, type := 0, pos := "ref.go:48", after := #[{ on := 22, ground := Ground.data }, { on := 20, ground := Ground.guard }], guard := some (20, true) } : Oper)) (v := undef) rfl (by kernel_rfl) (by kernel_rfl) (by kernel_rfl) (fun _ _ _ h => h) (Or.inr ⟨by rfl, rfl⟩) (by assumption) ?_
          try simp only [Act.put, List.setIfInBounds_toArray, List.set_cons_zero, List.set_cons_succ]
          refine wpAnyH_take (i := 24) (oi := ({ dst := some 66, op := Op.load 27 (Operand.tmp 65), type := 27, pos := "ref.go:48", after := #[{ on := 23, ground := Ground.data }, { on := 20, ground := Ground.guard }], guard := some (20, true) } : Oper)) (v := undef) rfl (by kernel_rfl) (by kernel_rfl) (by kernel_rfl) (fun _ _ _ h => h) (Or.inr ⟨by rfl, rfl⟩) (by assumption) ?_
          try simp only [Act.put, List.setIfInBounds_toArray, List.set_cons_zero, List.set_cons_succ]
          refine wpAnyH_take (i := 25) (oi := ({ dst := some 67, op := Op.move (Operand.tmp 8), type := 3, pos := "ref.go:48", after := #[{ on := 20, ground := Ground.guard }], guard := some (20, true) } : Oper)) (v := undef) rfl (by kernel_rfl) (by kernel_rfl) (by kernel_rfl) (fun _ _ _ h => h) (Or.inr ⟨by rfl, rfl⟩) (by assumption) ?_
          try simp only [Act.put, List.setIfInBounds_toArray, List.set_cons_zero, List.set_cons_succ]
          refine wpAnyH_take (i := 26) (oi := ({ dst := some 68, op := Op.indexAddr 27 (Operand.tmp 66) (Operand.tmp 67), type := 0, pos := "ref.go:48", after := #[{ on := 24, ground := Ground.data }, { on := 25, ground := Ground.data }, { on := 20, ground := Ground.guard }], guard := some (20, true) } : Oper)) (v := undef) rfl (by kernel_rfl) (by kernel_rfl) (by kernel_rfl) (fun _ _ _ h => h) (Or.inr ⟨by rfl, rfl⟩) (by assumption) ?_
          try simp only [Act.put, List.setIfInBounds_toArray, List.set_cons_zero, List.set_cons_succ]
          refine wpAnyH_take (i := 27) (oi := ({ dst := some 69, op := Op.fieldAddr 33 (Operand.tmp 68) 1, type := 0, pos := "ref.go:48", after := #[{ on := 26, ground := Ground.data }, { on := 20, ground := Ground.guard }], guard := some (20, true) } : Oper)) (v := undef) rfl (by kernel_rfl) (by kernel_rfl) (by kernel_rfl) (fun _ _ _ h => h) (Or.inr ⟨by rfl, rfl⟩) (by assumption) ?_
          try simp only [Act.put, List.setIfInBounds_toArray, List.set_cons_zero, List.set_cons_succ]
          refine wpAnyH_take (i := 28) (oi := ({ dst := some 70, op := Op.load 31 (Operand.tmp 69), type := 31, pos := "ref.go:48", after := #[{ on := 27, ground := Ground.data }, { on := 20, ground := Ground.guard }], guard := some (20, true) } : Oper)) (v := undef) rfl (by kernel_rfl) (by kernel_rfl) (by kernel_rfl) (fun _ _ _ h => h) (Or.inr ⟨by rfl, rfl⟩) (by assumption) ?_
          try simp only [Act.put, List.setIfInBounds_toArray, List.set_cons_zero, List.set_cons_succ]
          refine wpAnyH_take (i := 29) (oi := ({ dst := some 71, op := Op.fieldAddr 33 (Operand.tmp 4) 1, type := 0, pos := "ref.go:48", after := #[{ on := 20, ground := Ground.guard }], guard := some (20, true) } : Oper)) (v := undef) rfl (by kernel_rfl) (by kernel_rfl) (by kernel_rfl) (fun _ _ _ h => h) (Or.inr ⟨by rfl, rfl⟩) (by assumption) ?_
          try simp only [Act.put, List.setIfInBounds_toArray, List.set_cons_zero, List.set_cons_succ]
          refine wpAnyH_take (i := 30) (oi := ({ dst := some 72, op := Op.load 31 (Operand.tmp 71), type := 31, pos := "ref.go:48", after := #[{ on := 29, ground := Ground.data }, { on := 20, ground := Ground.guard }], guard := some (20, true) } : Oper)) (v := undef) rfl (by kernel_rfl) (by kernel_rfl) (by kernel_rfl) (fun _ _ _ h => h) (Or.inr ⟨by rfl, rfl⟩) (by assumption) ?_
          try simp only [Act.put, List.setIfInBounds_toArray, List.set_cons_zero, List.set_cons_succ]
          refine wpAnyH_take (i := 31) (oi := ({ dst := some 73, op := Op.binOp BinOp.eql 31 (Operand.tmp 70) (Operand.tmp 72) 31, type := 4, pos := "ref.go:48", after := #[{ on := 28, ground := Ground.data }, { on := 30, ground := Ground.data }, { on := 20, ground := Ground.guard }], guard := some (20, true) } : Oper)) (v := undef) rfl (by kernel_rfl) (by kernel_rfl) (by kernel_rfl) (fun _ _ _ h => h) (Or.inr ⟨by rfl, rfl⟩) (by assumption) ?_
          try simp only [Act.put, List.setIfInBounds_toArray, List.set_cons_zero, List.set_cons_succ]
          refine wpAnyH_take (i := 32) (oi := ({ dst := some 74, op := Op.pick (Operand.tmp 62) (Operand.tmp 73) (Operand.const (Value.bool false)), type := 4, pos := "ref.go:48", after := #[{ on := 20, ground := Ground.data }, { on := 31, ground := Ground.data }], guard := none } : Oper)) (v := ?_) rfl (by kernel_rfl) (by kernel_rfl) (by kernel_rfl) (fun _ _ _ h => h) (Or.inl ⟨by rfl, ?_⟩) (by assumption) ?_
          rotate_left
          · (intro w hSw; (try dsimp only at hSw); go_simp; try with_reducible rfl)
          try simp only [Act.put, List.setIfInBounds_toArray, List.set_cons_zero, List.set_cons_succ]
          refine wpAnyH_done (by kernel_rfl) ?_ _
          clear hHeld hS0
          obtain ⟨W9, hW9⟩ : ∃ W, wr.drew.drew = W := ⟨_, rfl⟩
          have HBW : Hid (Below w.heap.size w W9) := by rw [Hid, ← hW9]; exact HBD.out.drew
          rw [hW9]
          have HR9 : Hid (RA s0 W9 r L H ca cc ha hc) := HRA.out W9 HBW.out
          have HK9 : Hid (k ≤ L.length ∧ k ≤ 3000000) := ⟨by rw [HNL.out]; exact Nat.le_refl _, by omega⟩
          have HC9 : Hid (∀ V, Below W9.heap.size W9 V → CB V x c) := fun V hV => HC.out V (by rw [← hW9] at hV; exact ((Below.refl wr.heap.size wr).drew).drew.trans hV)
          clear hW9 HBD HSS HC HA HRA HNO HX HB1 HC1
          have HNC : Hid ((ca = none → k = 0 ∧ cc = 0) ∧ (ha = none → k = 0 ∧ hc = 0)) := by
            have h1 := HR9.out.cells
            have h2 := HR9.out.hts
            rw [HNL.out] at h1 h2
            exact ⟨fun e => nil_row (e ▸ h1), fun e => nil_row (e ▸ h2)⟩
          have HR75 : Hid ((W9.alloc (.cells #[] 33)).ownsRow W9.heap.size 33 4 (.slice (some ⟨W9.heap.size, 0, none⟩) 0 0) 0 []) := World.ownsRow_lit W9 #[] 0 (Nat.le_refl _) (by decide) rfl
          have HX1 : Hid (RA s0 (W9.alloc (.cells #[] 33)) r L H ca cc ha hc) := HR9.out.below (below_new _ _)
          have f0 := HX1.out.f0.1
          rw [HNL.out] at f0
          have hcc : ((k : Nat) : Int) ≤ ((cc : Nat) : Int) := by have := HX1.out.ca.1; have := HK9.out.1; omega
          have hhc : ((k : Nat) : Int) ≤ ((hc : Nat) : Int) := by have := HX1.out.ia.1; have := HK9.out.1; omega
          go_wp2_with (at_builtin; first
            | (refine wpList_append_any _ rfl (.tmp 75) (.tmp 81) 27 rfl W9.heap.size 33 i0 (.agg #[.string ByteArray.empty, .int .u64 0, .string ByteArray.empty, .bool false]) 4 48 Try.underlying27 hi hz0 hz1 hz2 rfl (by decide) _ 0 [] rfl HR75.out _ k _ (flC (L.take k)) rfl (fun e => HNC.out.1 e) (by rw [flC_len, List.length_take]; have := HK9.out.1; omega) (fun ad e j u hj => news_cells_any HX1.out.ca.2 e k (by simpa using hj)) (fun u hu => by obtain ⟨d', _, hd'⟩ := List.mem_flatMap.1 hu; exact clL_one d' u hd') (by unfold maxLen; have := HK9.out; omega) (by have := HK9.out; omega) (by simp) ?_
               intro v1 w1 ho1 hg1
               have HO1 : Hid (w1.ownsRow W9.heap.size 33 4 v1 k (flC (L.take k)) ∧ Below W9.heap.size W9 w1) := (by rw [Nat.zero_add, List.nil_append] at ho1; exact ⟨ho1, (below_new W9 _).grown hg1 (by simp) (fun j ej => (World.ownsRow.lt HR75.out j ej).1)⟩)
               clear ho1 hg1 HR75
               have hx4 := CB.cells (HC9.out w1 HO1.out.2)
               have HO1X : Hid ((w1.alloc (.cells #[.string c.key, .int .u64 ((c.seq : Nat) : Int), .string c.val, .bool c.gone] 33)).ownsRow W9.heap.size 33 4 v1 k (flC (L.take k))) := World.ownsRow.alloc HO1.out.1 _
               have HNC2 : Hid (∀ j u, [Value.string c.key, .int .u64 ((c.seq : Nat) : Int), .string c.val, .bool c.gone][j]? = some u → (w1.alloc (.cells #[.string c.key, .int .u64 ((c.seq : Nat) : Int), .string c.val, .bool c.gone] 33)).cell? ((⟨w1.heap.size, 0, none⟩ : Addr).add j) = some u) := fun j u hj => by
                 rw [addr_addC]
                 exact cell_of_block (o := 0 + j) (block_alloc_at _ _) (by rw [Nat.zero_add]; simpa using hj))
            | (refine wpList_append_own _ rfl (.tmp 83) (.tmp 85) 27 rfl W9.heap.size 33 i0 (.agg #[.string ByteArray.empty, .int .u64 0, .string ByteArray.empty, .bool false]) 4 48 Try.underlying27 hi hz0 hz1 hz2 rfl (by decide) _ k _ rfl HO1X.out ⟨w1.heap.size, 0, none⟩ 1 1 [Value.string c.key, .int .u64 ((c.seq : Nat) : Int), .string c.val, .bool c.gone] rfl rfl HNC2.out (by simp [Value.oneCell']) (by unfold maxLen; have := HK9.out; omega) (by have := HK9.out; omega) (by have := HO1.out.2.size; simp; omega) ?_
               intro v2 w2 ho2 hg2 _
               have HO2 : Hid (w2.ownsRow W9.heap.size 33 4 v2 (k + 1) (flC (L.take k) ++ clL c) ∧ Below W9.heap.size W9 w2) := ⟨ho2, (HO1.out.2.alloc HO1.out.2.size _).grown hg2 (by have := HO1.out.2.size; simp; omega) (fun j ej => (World.ownsRow.lt HO1X.out j ej).1)⟩
               clear ho2 hg2
               have f1 := (HR9.out.below (HO2.out.2.alloc HO2.out.2.size (.cells #[] 3))).f0.2
               rw [HNL.out] at f1
               clear hx4 HO1 HO1X HNC2
               have HR87 : Hid ((w2.alloc (.cells #[] 3)).ownsRow W9.heap.size 3 1 (.slice (some ⟨w2.heap.size, 0, none⟩) 0 0) 0 []) := World.ownsRow_lit w2 #[] 0 HO2.out.2.size (by decide) rfl
               have HB3 : Hid (Below W9.heap.size W9 (w2.alloc (.cells #[] 3))) := HO2.out.2.alloc HO2.out.2.size _
               have HX3 : Hid (RA s0 (w2.alloc (.cells #[] 3)) r L H ca cc ha hc) := HR9.out.below HB3.out
               have HO2X : Hid ((w2.alloc (.cells #[] 3)).ownsRow W9.heap.size 33 4 v2 (k + 1) (flC (L.take k) ++ clL c)) := World.ownsRow.alloc HO2.out.1 _)
            | (refine wpList_append_any _ rfl (.tmp 87) (.tmp 93) 28 rfl W9.heap.size 3 i3 (.int .i64 0) 1 8 Try.underlying28 hi3 hy0 hy1 hy2 rfl (by decide) _ 0 [] rfl HR87.out _ k _ (intsV (H.take k)) rfl (fun e => HNC.out.2 e) (by unfold intsV; rw [List.length_map, List.length_take]; have := HK9.out.1; have := HX3.out.len; omega) (fun ad e j u hj => news_ints_any HX3.out.ia.2 e k (by simpa using hj)) (fun u hu => by obtain ⟨d', _, rfl⟩ := List.mem_map.1 hu; simp [Value.oneCell']) (by unfold maxLen; have := HK9.out; omega) (by have := HK9.out; omega) HB3.out.size ?_
               intro v3 w3 ho3 hg3
               have HO3 : Hid (w3.ownsRow W9.heap.size 3 1 v3 k (intsV (H.take k)) ∧ w3.ownsRow W9.heap.size 33 4 v2 (k + 1) (flC (L.take k) ++ clL c) ∧ Below W9.heap.size W9 w3) := (by rw [Nat.zero_add, List.nil_append] at ho3; exact ⟨ho3, row_stays HO2X.out HR87.out (by decide) hg3, HB3.out.grown hg3 HB3.out.size (fun j ej => (World.ownsRow.lt HR87.out j ej).1)⟩)
               clear ho3 hg3
               clear f1 HR87 HX3 HB3 HO2 HO2X
               have HO3X : Hid ((w3.alloc (.cells #[.int .i64 hgt] 3)).ownsRow W9.heap.size 3 1 v3 k (intsV (H.take k))) := World.ownsRow.alloc HO3.out.1 _
               have HO3Y : Hid ((w3.alloc (.cells #[.int .i64 hgt] 3)).ownsRow W9.heap.size 33 4 v2 (k + 1) (flC (L.take k) ++ clL c)) := World.ownsRow.alloc HO3.out.2.1 _
               have HB4 : Hid (Below W9.heap.size W9 (w3.alloc (.cells #[.int .i64 hgt] 3))) := HO3.out.2.2.alloc HO3.out.2.2.size _)
            | (refine wpList_append_own _ rfl (.tmp 95) (.tmp 97) 28 rfl W9.heap.size 3 i3 (.int .i64 0) 1 8 Try.underlying28 hi3 hy0 hy1 hy2 rfl (by decide) _ k _ rfl HO3X.out ⟨w3.heap.size, 0, none⟩ 1 1 [.int .i64 hgt] rfl rfl (cell_one_new _ _ _) (by simp [Value.oneCell']) (by unfold maxLen; have := HK9.out; omega) (by have := HK9.out; omega) HB4.out.size ?_
               intro v4 w4 ho4 hg4 _
               have HO4 : Hid (w4.ownsRow W9.heap.size 3 1 v4 (k + 1) (intsV (H.take k) ++ [.int .i64 hgt]) ∧ w4.ownsRow W9.heap.size 33 4 v2 (k + 1) (flC (L.take k) ++ clL c) ∧ Below W9.heap.size W9 w4) := ⟨ho4, row_stays HO3Y.out HO3X.out (by decide) hg4, HB4.out.grown hg4 HB4.out.size (fun j ej => (World.ownsRow.lt HO3X.out j ej).1)⟩
               clear ho4 hg4
               have f2 := (HR9.out.below HO4.out.2.2).f0.1
               rw [HNL.out] at f2
               clear HO3 HO3X HO3Y HB4
               have HX4 : Hid (RA s0 w4 r L H ca cc ha hc) := HR9.out.below HO4.out.2.2
               have hb5 := HX4.out.blk
               rw [HNL.out] at hb5
               have HB5 : Hid _ := hb5
               have HRW : Hid (r < W9.heap.size) := HR9.out.lt
               have HX5 : Hid (∀ (w5 : World) (v5 : Value), w5.ownsRow W9.heap.size 33 4 v5 (k + 1 + (k - k)) (flC (L.take k) ++ clL c ++ flC (L.drop k)) → w4.grownBy w5 v2.ownBlock → _) := fun w5 v5 q1 q2 => put_mid HR9.out HNL.out HO4.out.2.1 HO4.out.1 HO4.out.2.2 q1 q2)
            | (refine wpList_append_any _ rfl (.tmp 100) (.tmp 106) 27 rfl W9.heap.size 33 i0 (.agg #[.string ByteArray.empty, .int .u64 0, .string ByteArray.empty, .bool false]) 4 48 Try.underlying27 hi hz0 hz1 hz2 rfl (by decide) _ (k + 1) _ rfl HO4.out.2.1 _ 0 _ [] rfl (fun e => ⟨rfl, by have h : ca = none := (by first | exact e | exact Option.map_eq_none_iff.1 e | exact none_if e); have := HNC.out.1 h; omega⟩) rfl (fun ad e j u hj => by simp at hj) (fun u hu => by cases hu) (by unfold maxLen; have := HK9.out; have := HNL.out; omega) (by have := HK9.out; have := HNL.out; omega) HO4.out.2.2.size ?_
               intro v5 w5 ho5 hg5
               rw [show ([] : List Value) = flC (L.drop k) by rw [HDK.out]; rfl, show (0 : Nat) = k - k by omega] at ho5
               obtain ⟨a5, c5, rfl⟩ := row_form4 ho5
               obtain ⟨fr5, ⟨u5, cu5⟩, hr5⟩ := HX5.out w5 _ ho5 hg5
               have HY5 : Hid _ := hr5
               clear ho5 hg5 hr5
               have hz5 := HY5.out
               rw [Nat.sub_self, Nat.add_zero] at hz5
               have HZ5 : Hid _ := hz5
               clear hz5
               have f3 := cell_of_block (o := 1) HZ5.out.1 rfl
               have HX6 : Hid (∀ (w6 : World) (v6 : Value), w6.ownsRow W9.heap.size 3 1 v6 (k + 1) (intsV (H.take k) ++ [.int .i64 hgt] ++ intsV (H.drop k)) → (w5.setCell ⟨r, 0, none⟩ (.slice a5 (k + 1) c5)).grownBy w6 v4.ownBlock → _) := fun w6 v6 q1 q2 => put_end HR9.out HNL.out (by have := HK9.out; have := HNL.out; omega) (Nat.le_trans HSZ.out.1 HBW.out.size) HBW.out HQ0.out HG1.out HT1.out HT2.out HZ5.out.1 (by rw [Nat.sub_self, Nat.add_zero]; exact HZ5.out.2.1) HZ5.out.2.2.1 HZ5.out.2.2.2.2 (by rw [Nat.sub_self, Nat.add_zero]; exact q1) q2
               clear f2 HO4 HX4 HB5 HX5)
            | (refine wpList_append_any _ rfl (.tmp 111) (.tmp 117) 28 rfl W9.heap.size 3 i3 (.int .i64 0) 1 8 Try.underlying28 hi3 hy0 hy1 hy2 rfl (by decide) _ (k + 1) _ rfl HZ5.out.2.2.1 _ 0 _ [] rfl (fun e => ⟨rfl, by have h : ha = none := (by first | exact e | exact Option.map_eq_none_iff.1 e | exact none_if e); have := HNC.out.2 h; omega⟩) rfl (fun ad e j u hj => by simp at hj) (fun u hu => by cases hu) (by unfold maxLen; have := HK9.out; have := HNL.out; omega) (by have := HK9.out; have := HNL.out; omega) HZ5.out.2.2.2.2.size ?_
               intro v6 w6 ho6 hg6
               replace ho6 := row_tail (ys := intsV (H.drop k)) ho6 (by rw [← HNL.out, ← HR9.out.len, List.drop_length]; rfl)
               obtain ⟨a6, c6, rfl⟩ := row_form4 ho6
               obtain ⟨fr6, ⟨u6x, cu6⟩, hfin⟩ := HX6.out w6 _ ho6 hg6
               have HFIN : Hid _ := hfin
               clear ho6 hg6 hfin f3 fr5 cu5))
          all_goals
            go_ret
            exact HFIN.out
  · have HQ : Hid (putQ c hgt L = 60) := by rw [Hid]; unfold putQ; rw [if_pos (by simp [hk0])]
    rw [hk0] at HCK
    clear hk0
    go_enter Try.func32, Try.ntmps32
    go_wp2_with fail
    rw [HW0.out]
    clear HW0 x0 x1 x2 x3 hx
    refine (HCK.out W0).mono ?_
    rintro e w1 ⟨rfl, b1⟩
    have HB1 : Hid (Below w.heap.size w w1) := below_on HB0.out b1
    clear b1 HCB HB0 HCK
    go_wp2_with fail
    go_ret
    exact HNO.out 60 HQ.out (by decide) _ HB1.out
end Go.Proofs.Ytdgmjmohfpjlnaa
