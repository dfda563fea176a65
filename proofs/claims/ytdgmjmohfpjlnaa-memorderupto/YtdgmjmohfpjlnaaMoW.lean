/-
  The walk of MemOrder.
-/
import Derived.Test.YtdgmjmohfpjlnaaCoi
import Derived.Test.YtdgmjmohfpjlnaaAwk
import Derived.Deep.RegionHeld
namespace Go.Proofs.Ytdgmjmohfpjlnaa
open Go.RowKit Go.Shelf
attribute [local go_sem] Oper.semAt_some
theorem sgtr (t : TypeId) (a b : ByteArray) (W : World) : (binOp BinOp.gtr t (.string a) (.string b)).run Try.prog W = .ok (.bool (Op.bytesLess b.toList a.toList)) W := by
  have h : (!(Op.bytesLess a.toList b.toList || a.toList == b.toList)) = Op.bytesLess b.toList a.toList := by
    rcases bytesLess_tri a.toList b.toList with h | h | h
    · rw [h, bytesLess_asym h]; rfl
    · rw [h, bytesLess_irrefl]; simp
    · rw [h, bytesLess_asym h]
      have : (a.toList == b.toList) = false := by
        rw [beq_eq_false_iff_ne]
        intro e
        rw [e, bytesLess_irrefl] at h
        cases h
      rw [this]; rfl
  rw [← h]
  simp [binOp, Op.stringOp, Sem.run_pure]
set_option maxRecDepth 100000 in
set_option maxHeartbeats 32000000 in
theorem order_walk (ca : Option Addr) (cc : Nat) (cs : List Cl) (fr md tw : ByteArray) (w : World) (h1 : CA w.heap.size w ca cs) (hl1 : cs.length ≤ 2000000) :
    Calls Try.prog 7 #[.slice ca cs.length cc, .agg #[.string fr, .string md, .string tw]] w fun e w' => e = .returned (.bool true) ∧ Below w.heap.size w w' := by
  obtain ⟨i0, hi, hz0, hz1, hz2⟩ := info_parts info33
  have HCA : Hid (CA w.heap.size w ca cs) := h1
  obtain ⟨n1, hn1⟩ : ∃ n, cs.length = n := ⟨_, rfl⟩
  have HN1 : Hid _ := hn1
  rw [hn1] at hl1 ⊢
  clear h1 hn1
  obtain ⟨W0, hW0⟩ : ∃ W0, w.alloc (.cells #[.string fr, .string md, .string tw] 51) = W0 := ⟨_, rfl⟩
  have HB0 : Hid (Below w.heap.size w W0) := by rw [Hid, ← hW0]; exact below_new _ _
  have hx0 : W0.heap[w.heap.size]? = some (.cells #[.string fr, .string md, .string tw] 51 (0, 0)) := by rw [← hW0]; exact block_alloc_at _ _
  have x0 : W0.cell? ⟨w.heap.size, 0, none⟩ = some (.string fr) := cell_of_block hx0 rfl
  have x1 : W0.cell? ⟨w.heap.size, 1, none⟩ = some (.string md) := cell_of_block hx0 rfl
  have x2 : W0.cell? ⟨w.heap.size, 2, none⟩ = some (.string tw) := cell_of_block hx0 rfl
  clear hx0
  refine callsIn_wide.1 (callsIn_of_wp_marks (F := Fence.wide) (n := 8) Try.func7 rfl trivial ?_ rfl)
  refine wpIn_wide.2 ?_
  simp only [Try.ntmps7, List.size_toArray, List.length_cons, List.length_nil, Nat.reduceAdd, Nat.reduceSub, Array.replicate_succ, Array.replicate_zero, List.push_toArray, List.append_toArray, List.nil_append, List.cons_append]
  go_wp2_with fail
  try rw [hW0]
  clear hW0
  go_quiet (fail)
  obtain ⟨W1, hW1⟩ : ∃ W1, W0.drewN nq = W1 := ⟨_, rfl⟩
  have HB1 : Hid (Below w.heap.size w W1) := by rw [Hid, ← hW1]; exact ⟨HB0.out.os, HB0.out.tape, HB0.out.output, HB0.out.size, HB0.out.block⟩
  rw [hW1]
  clear hW1 x0 x1 x2 HB0
  go_wp2_with fail
  refine (new_any W1).mono ?_
  rintro e w2 ⟨rfl, hma, b2⟩
  obtain ⟨B, hB⟩ : ∃ B, W1.heap.size = B := ⟨_, rfl⟩
  rw [hB] at hma ⊢
  obtain ⟨g, hg⟩ : ∃ g, B + 1 = g := ⟨_, rfl⟩
  rw [hg] at hma ⊢
  have hzB : w.heap.size ≤ B := by rw [← hB]; exact HB1.out.size
  have HT2 : Hid (TM w.heap.size B g w w2 0 st0 B 1) := ⟨hma, by show 1 ≤ 0 + 1; omega, by show 0 ≤ _; omega, below_on HB1.out b2, hzB⟩
  clear hma b2 hB hg HB1
  go_wp2_with fail
  refine (awake_any w2).mono ?_
  rintro e w3 ⟨rfl, b3⟩
  have HT3 : Hid (TM w.heap.size B g w w3 0 st0 B 1) := HT2.out.on b3 HT2.out.bel.size
  clear b3 HT2
  go_wp2_with fail
  go_loopw [33] (fun i wr => ∃ (k : Nat) (s : St) (b cap : Nat), k ≤ n1 ∧ i = .int .i64 (k : Nat) ∧ Hid (TM w.heap.size B g w wr k s b cap) ∧ Hid (OkE s)) (fun i _ => n1 - (intOf i).toNat)
  case atStart => exact ⟨0, _, _, _, by omega, rfl, HT3.out, okE_new⟩
  case round =>
    obtain ⟨k, s, b, cap, hk, rfl, HT, HO⟩ := hrel
    by_cases hlt : k < n1
    · have hlz : (k : Int) < (n1 : Int) := by omega
      obtain ⟨c, hc⟩ : ∃ c, cs[k]? = some c := ⟨_, List.getElem?_eq_getElem (by rw [HN1.out]; exact hlt)⟩
      obtain ⟨cb, off, rfl, hcb, c0, c1, c2, c3⟩ := (HCA.out.below (fun x hx => HT.out.bel.block x hx)) k c hc
      obtain ⟨V, hV⟩ : ∃ V, wr.alloc (.cells #[.string c.key, .int .u64 (c.seq : Nat), .string c.val, .bool c.gone] 33) = V := ⟨_, rfl⟩
      have HTV : Hid (TM w.heap.size B g w V k s b cap) := by rw [Hid, ← hV]; exact HT.out.on (below_new _ _) HT.out.bel.size
      have HPU : Hid (∀ _ : Unit, _) := fun _ => put_any B g b cap s c 1 V HTV.out.ma (by have := HTV.out.nk; omega) HTV.out.sz
      simp only [clV] at HPU
      have HV : Hid _ := hV
      clear hc hcb hV
      go_wp2_with fail
      rw [HV.out]
      clear HV c0 c1 c2 c3
      refine (HPU.out ()).mono ?_
      rintro e w6 ⟨rfl, b', cap', hma, hkm, _⟩
      have HT6 : Hid (TM w.heap.size B g w w6 (k + 1) (putS c 1 s) b' cap') := HTV.out.put c 1 hma hkm HTV.out.bel.size
      clear hma hkm HPU
      go_wp2_with fail
      go_roundw
      case rel => exact ⟨k + 1, _, b', cap', by omega, by go_num, HT6.out, okE_put HO.out c 1⟩
      case measure => simp [intOf]; omega
    · obtain rfl : k = n1 := by omega
      have hlz : ¬ (k : Int) < (k : Int) := by omega
      have HLE : Hid (s.E.length ≤ 2000000) := by rw [Hid]; have := HT.out.nk; have := HT.out.ma.rep.size; omega
      go_wp2_with fail
      refine (cells_any B g b cap s wr HT.out.ma).mono ?_
      rintro e w7 ⟨v7, rfl, hr7, b7⟩
      obtain ⟨ra, rc, rfl, hrc, hca7⟩ := ca_row hr7
      have HT7 : Hid (TM w.heap.size B g w w7 k s b cap) := HT.out.on b7 HT.out.bel.size
      have HC7 : Hid (CA w7.heap.size w7 ra (scanL ⟨#[]⟩ ⟨#[]⟩ s.E)) := hca7
      have HSO : Hid ((scanL ⟨#[]⟩ ⟨#[]⟩ s.E).Pairwise (fun a b => lessC a b = true)) := scan_sorted HT.out.ma.rep _ _
      obtain ⟨L, hL⟩ : ∃ L, scanL ⟨#[]⟩ ⟨#[]⟩ s.E = L := ⟨_, rfl⟩
      rw [hL] at HC7 HSO ⊢
      obtain ⟨nl, hnl⟩ : ∃ nl, L.length = nl := ⟨_, rfl⟩
      have HNL : Hid _ := hnl
      have hnl2 : nl ≤ 2000000 := by rw [← hnl, ← hL]; exact Nat.le_trans (scan_len HT.out.ma.rep _ _) HLE.out
      rw [hnl]
      clear hr7 b7 hrc hca7 HT hL hnl hlz
      go_wp2_with fail
      go_loopw [12] (fun i wr => ∃ k2 : Nat, 1 ≤ k2 ∧ (k2 ≤ nl ∨ k2 = 1) ∧ i = .int .i64 (k2 : Nat) ∧ Hid (Below w7.heap.size w7 wr)) (fun i _ => nl - (intOf i).toNat)
      case atStart => exact ⟨1, by omega, by omega, rfl, Below.refl _ _⟩
      case round =>
        obtain ⟨i, hi1, hi2, rfl, HBI⟩ := hrel
        by_cases hlt2 : i < nl
        · obtain ⟨j, rfl⟩ : ∃ j, i = j + 1 := ⟨i - 1, by omega⟩
          obtain ⟨i, hij⟩ : ∃ i, j + 1 = i := ⟨_, rfl⟩
          rw [hij] at hlt2 hi1 hi2 ⊢
          have hjz : ((i : Nat) : Int) - 1 = ((j : Nat) : Int) := by omega
          have hwj : IntKind.i64.wrap ((j : Nat) : Int) = ((j : Nat) : Int) := by rw [IntKind.wrap_i64]; omega
          have hiz : ((i : Nat) : Int) < ((nl : Nat) : Int) := by omega
          have hjl : ((j : Nat) : Int) < ((nl : Nat) : Int) := by omega
          have hl0 : j < L.length := by have := HNL.out; omega
          have hl1' : i < L.length := by have := HNL.out; omega
          obtain ⟨d, hd⟩ : ∃ d, L[j]? = some d := ⟨_, List.getElem?_eq_getElem hl0⟩
          obtain ⟨c, hc⟩ : ∃ c, L[i]? = some c := ⟨_, List.getElem?_eq_getElem hl1'⟩
          have hless : lessC d c = true := by
            have := List.pairwise_iff_getElem.1 HSO.out j i hl0 hl1' (by omega)
            rw [List.getElem?_eq_getElem hl0] at hd
            rw [List.getElem?_eq_getElem hl1'] at hc
            cases hd; cases hc
            exact this
          have hSS : ∀ V, Below w7.heap.size w7 V → ∃ cb off, ra = some ⟨cb, off, none⟩ ∧ ((V.cell? ⟨cb, off + j * 4, none⟩ = some (.string d.key) ∧ V.cell? ⟨cb, off + j * 4 + 1, none⟩ = some (.int .u64 ((d.seq : Nat) : Int)) ∧ V.cell? ⟨cb, off + j * 4 + 2, none⟩ = some (.string d.val) ∧ V.cell? ⟨cb, off + j * 4 + 3, none⟩ = some (.bool d.gone)) ∧ (V.cell? ⟨cb, off + i * 4, none⟩ = some (.string c.key) ∧ V.cell? ⟨cb, off + i * 4 + 1, none⟩ = some (.int .u64 ((c.seq : Nat) : Int)) ∧ V.cell? ⟨cb, off + i * 4 + 2, none⟩ = some (.string c.val) ∧ V.cell? ⟨cb, off + i * 4 + 3, none⟩ = some (.bool c.gone))) := fun V hV => by
            obtain ⟨cb, off, e1, _, q0, q1, q2, q3⟩ := (HC7.out.below (fun x hx => hV.block x hx)) j d hd
            obtain ⟨cb', off', e2, _, r0, r1, r2, r3⟩ := (HC7.out.below (fun x hx => hV.block x hx)) i c hc
            rw [e1] at e2
            cases e2
            exact ⟨cb, off, e1, ⟨q0, q1, q2, q3⟩, ⟨r0, r1, r2, r3⟩⟩
          obtain ⟨cb, off, rfl, _⟩ := hSS _ HBI.out
          have HSS : Hid (∀ V, Below w7.heap.size w7 V → (V.cell? ⟨cb, off + j * 4, none⟩ = some (.string d.key) ∧ V.cell? ⟨cb, off + j * 4 + 1, none⟩ = some (.int .u64 ((d.seq : Nat) : Int)) ∧ V.cell? ⟨cb, off + j * 4 + 2, none⟩ = some (.string d.val) ∧ V.cell? ⟨cb, off + j * 4 + 3, none⟩ = some (.bool d.gone)) ∧ (V.cell? ⟨cb, off + i * 4, none⟩ = some (.string c.key) ∧ V.cell? ⟨cb, off + i * 4 + 1, none⟩ = some (.int .u64 ((c.seq : Nat) : Int)) ∧ V.cell? ⟨cb, off + i * 4 + 2, none⟩ = some (.string c.val) ∧ V.cell? ⟨cb, off + i * 4 + 3, none⟩ = some (.bool c.gone))) := fun V hV => by
            obtain ⟨cb', off', e, h⟩ := hSS V hV
            cases e
            exact h
          have HLS : Hid (∀ V : World, _) := fun V => less_any d c V
          rw [hless] at HLS
          simp only [clV] at HLS
          have HBD : Hid (Below w7.heap.size w7 wr.drew) := HBI.out.drew
          have hS0 := HSS.out _ HBD.out
          have HIJ : Hid (j + 1 = i ∧ 1 ≤ i) := ⟨hij, hi1⟩
          clear hSS hd hc hless hl0 hl1' hij hi1 hi2 hlt
          go_wp2_with fail
          refine wp_then_false ?_
          refine wp_region_held_drew (S := fun V => (V.cell? ⟨cb, off + j * 4, none⟩ = some (.string d.key) ∧ V.cell? ⟨cb, off + j * 4 + 1, none⟩ = some (.int .u64 ((d.seq : Nat) : Int)) ∧ V.cell? ⟨cb, off + j * 4 + 2, none⟩ = some (.string d.val) ∧ V.cell? ⟨cb, off + j * 4 + 3, none⟩ = some (.bool d.gone)) ∧ (V.cell? ⟨cb, off + i * 4, none⟩ = some (.string c.key) ∧ V.cell? ⟨cb, off + i * 4 + 1, none⟩ = some (.int .u64 ((c.seq : Nat) : Int)) ∧ V.cell? ⟨cb, off + i * 4 + 2, none⟩ = some (.string c.val) ∧ V.cell? ⟨cb, off + i * 4 + 3, none⟩ = some (.bool c.gone))) (by kernel_rfl) hS0 (fun hHeld => ?_)
          refine wpAnyH_take (i := 0) (oi := ({ dst := some 49, op := Op.move (Operand.tmp 11), type := 27, pos := "law.go:227", after := #[], guard := none } : Oper)) (v := ?_) rfl (by kernel_rfl) (by kernel_rfl) (by kernel_rfl) (fun _ _ _ h => h) (Or.inl ⟨by rfl, ?_⟩) (by assumption) ?_
          rotate_left
          · (intro w hSw; (try dsimp only at hSw); go_simp; try with_reducible rfl)
          try simp only [Act.put, List.setIfInBounds_toArray, List.set_cons_zero, List.set_cons_succ]
          refine wpAnyH_take (i := 1) (oi := ({ dst := some 50, op := Op.move (Operand.tmp 12), type := 3, pos := "law.go:227", after := #[], guard := none } : Oper)) (v := ?_) rfl (by kernel_rfl) (by kernel_rfl) (by kernel_rfl) (fun _ _ _ h => h) (Or.inl ⟨by rfl, ?_⟩) (by assumption) ?_
          rotate_left
          · (intro w hSw; (try dsimp only at hSw); go_simp; try with_reducible rfl)
          try simp only [Act.put, List.setIfInBounds_toArray, List.set_cons_zero, List.set_cons_succ]
          refine wpAnyH_take (i := 2) (oi := ({ dst := some 51, op := Op.binOp BinOp.sub 3 (Operand.tmp 50) (Operand.const (Value.int IntKind.i64 1)) 3, type := 3, pos := "law.go:227", after := #[{ on := 1, ground := Ground.data }], guard := none } : Oper)) (v := ?_) rfl (by kernel_rfl) (by kernel_rfl) (by kernel_rfl) (fun _ _ _ h => h) (Or.inl ⟨by rfl, ?_⟩) (by assumption) ?_
          rotate_left
          · (intro w hSw; (try dsimp only at hSw); go_simp; try with_reducible rfl)
          try simp only [Act.put, List.setIfInBounds_toArray, List.set_cons_zero, List.set_cons_succ]
          refine wpAnyH_take (i := 3) (oi := ({ dst := some 52, op := Op.indexAddr 27 (Operand.tmp 49) (Operand.tmp 51), type := 0, pos := "law.go:227", after := #[{ on := 0, ground := Ground.data }, { on := 2, ground := Ground.data }], guard := none } : Oper)) (v := ?_) rfl (by kernel_rfl) (by kernel_rfl) (by kernel_rfl) (fun _ _ _ h => h) (Or.inl ⟨by rfl, ?_⟩) (by assumption) ?_
          rotate_left
          · (intro w hSw; (try dsimp only at hSw); go_simp; try with_reducible rfl)
          try simp only [Act.put, List.setIfInBounds_toArray, List.set_cons_zero, List.set_cons_succ]
          refine wpAnyH_take (i := 4) (oi := ({ dst := some 53, op := Op.load 33 (Operand.tmp 52), type := 33, pos := "law.go:227", after := #[{ on := 3, ground := Ground.data }], guard := none } : Oper)) (v := ?_) rfl (by kernel_rfl) (by kernel_rfl) (by kernel_rfl) (fun _ _ _ h => h) (Or.inl ⟨by rfl, ?_⟩) (by assumption) ?_
          rotate_left
          · (intro w hSw; (try dsimp only at hSw); go_simp; try with_reducible rfl)
          try simp only [Act.put, List.setIfInBounds_toArray, List.set_cons_zero, List.set_cons_succ]
          refine wpAnyH_take (i := 5) (oi := ({ dst := some 54, op := Op.move (Operand.tmp 11), type := 27, pos := "law.go:227", after := #[], guard := none } : Oper)) (v := ?_) rfl (by kernel_rfl) (by kernel_rfl) (by kernel_rfl) (fun _ _ _ h => h) (Or.inl ⟨by rfl, ?_⟩) (by assumption) ?_
          rotate_left
          · (intro w hSw; (try dsimp only at hSw); go_simp; try with_reducible rfl)
          try simp only [Act.put, List.setIfInBounds_toArray, List.set_cons_zero, List.set_cons_succ]
          refine wpAnyH_take (i := 6) (oi := ({ dst := some 55, op := Op.move (Operand.tmp 12), type := 3, pos := "law.go:227", after := #[], guard := none } : Oper)) (v := ?_) rfl (by kernel_rfl) (by kernel_rfl) (by kernel_rfl) (fun _ _ _ h => h) (Or.inl ⟨by rfl, ?_⟩) (by assumption) ?_
          rotate_left
          · (intro w hSw; (try dsimp only at hSw); go_simp; try with_reducible rfl)
          try simp only [Act.put, List.setIfInBounds_toArray, List.set_cons_zero, List.set_cons_succ]
          refine wpAnyH_take (i := 7) (oi := ({ dst := some 56, op := Op.indexAddr 27 (Operand.tmp 54) (Operand.tmp 55), type := 0, pos := "law.go:227", after := #[{ on := 5, ground := Ground.data }, { on := 6, ground := Ground.data }], guard := none } : Oper)) (v := ?_) rfl (by kernel_rfl) (by kernel_rfl) (by kernel_rfl) (fun _ _ _ h => h) (Or.inl ⟨by rfl, ?_⟩) (by assumption) ?_
          rotate_left
          · (intro w hSw; (try dsimp only at hSw); go_simp; try with_reducible rfl)
          try simp only [Act.put, List.setIfInBounds_toArray, List.set_cons_zero, List.set_cons_succ]
          refine wpAnyH_take (i := 8) (oi := ({ dst := some 57, op := Op.load 33 (Operand.tmp 56), type := 33, pos := "law.go:227", after := #[{ on := 7, ground := Ground.data }], guard := none } : Oper)) (v := ?_) rfl (by kernel_rfl) (by kernel_rfl) (by kernel_rfl) (fun _ _ _ h => h) (Or.inl ⟨by rfl, ?_⟩) (by assumption) ?_
          rotate_left
          · (intro w hSw; (try dsimp only at hSw); go_simp; try with_reducible rfl)
          try simp only [Act.put, List.setIfInBounds_toArray, List.set_cons_zero, List.set_cons_succ]
          refine wpAnyH_ready (rs := [9]) (by kernel_rfl) (by simp) ?_
          refine AllReadyH.cons rfl (fun K hK => ?_) AllReadyH.nil
          go_simp
          go_wp2_with (go_at_call 22; refine (HLS.out _).mono ?_; rintro e w8 ⟨rfl, b8⟩; have q8 : Below w7.heap.size w7 w8 := HBD.out.trans (b8.mono HBD.out.size); have hS8 := HSS.out w8 q8; clear b8)
          refine hK.out _ _ (by assumption) (fun hHeld => ?_)
          clear hK K
          refine wpAnyH_take (i := 10) (oi := ({ dst := some 59, op := Op.unOp UnOp.not 4 (Operand.tmp 58), type := 4, pos := "law.go:227", after := #[{ on := 9, ground := Ground.data }], guard := none } : Oper)) (v := ?_) rfl (by kernel_rfl) (by kernel_rfl) (by kernel_rfl) (fun _ _ _ h => h) (Or.inl ⟨by rfl, ?_⟩) (by assumption) ?_
          rotate_left
          · (intro w hSw; (try dsimp only at hSw); go_simp; try with_reducible rfl)
          try simp only [Act.put, List.setIfInBounds_toArray, List.set_cons_zero, List.set_cons_succ]
          refine wpAnyH_done (by kernel_rfl) ?_ _
          have HBN : Hid (Below w7.heap.size w7 w8) := q8
          clear hHeld hS0 hS8 q8
          go_wp2_with fail
          go_roundw
          case rel => exact ⟨i + 1, by omega, by omega, by go_num, HBN.out⟩
          case measure => simp [intOf]; omega
        · have hiz : ¬ ((i : Nat) : Int) < ((nl : Nat) : Int) := by omega
          have HT8 : Hid (TM w.heap.size B g w wr k s b cap) := HT7.out.on HBI.out HT7.out.bel.size
          clear hi1 hi2 hlt2 HC7 HSO HNL HBI HT7 HT3 hlt hk
          by_cases q1 : Op.bytesLess md.toList fr.toList = true
          · have hg1 := fun W => sgtr 9 fr md W
            rw [q1] at hg1
            clear q1
            go_wp2_with fail
            refine leaves_marks [] _ List.nodup_nil (fun _ h => by cases h) (fun w' e0 e1 e2 => ?_)
            exact ⟨_, results_tmp rfl _ _ _, rfl, HT8.out.bel.trans ⟨e0.1, e0.2.1, e0.2.2, by omega, fun q _ => e2 q (by simp)⟩⟩
          have q1 : Op.bytesLess md.toList fr.toList = false := by simpa using q1
          have hg1 := fun W => sgtr 9 fr md W
          rw [q1] at hg1
          by_cases q2 : md.toList.isEmpty = true
          · clear q1
            go_wp2_with fail
            refine leaves_marks [] _ List.nodup_nil (fun _ h => by cases h) (fun w' e0 e1 e2 => ?_)
            exact ⟨_, results_tmp rfl _ _ _, rfl, HT8.out.bel.trans ⟨e0.1, e0.2.1, e0.2.2, by omega, fun q _ => e2 q (by simp)⟩⟩
          have q2 : md.toList.isEmpty = false := by simpa using q2
          by_cases q3 : tw.toList.isEmpty = true
          · have HSJ : Hid (scanL fr md s.E ++ scanL md tw s.E = scanL fr tw s.E) := scan_join HO.out q1 q2 (.inl q3)
            clear q1
            go_wp2_with fail
            obtain ⟨P, hP⟩ : ∃ P, wr.heap.size = P := ⟨_, rfl⟩
            have HGP : Hid (g < P ∧ b < P) := by rw [← hP]; exact HT8.out.ma.lt
            refine (scan_any (some ⟨g, 0, none⟩) fr md _).mono ?_
            rintro e V1 ⟨rfl, hV1⟩
            obtain ⟨hV1b, hv1, hv1q, hV1x, hV1y, hV1z, hV1s⟩ := three_boxes wr (some ⟨g, 0, none⟩) fr md V1 hV1
            rw [hP] at hv1 hv1q hV1x hV1y hV1z hV1s
            have HV1 : Hid (TM w.heap.size B g w V1 k s b cap) := HT8.out.on hV1b HT8.out.bel.size
            have hPw : w.heap.size ≤ P := by rw [← hP]; exact HT8.out.bel.size
            have HM1 : Hid (MA B V1 g b cap s) := HV1.out.ma
            have HVS1 : Hid (V1.heap.size = P + 5) := hV1s
            have HLN1 : Hid (∀ _ : Unit, s.E.length ≤ 2000000 ∧ ([] : List Cl).length ≤ 2000000) := fun _ => ⟨HLE.out, by decide⟩
            clear hV1 hV1b HT8 hV1s
            simp only [World.size_alloc, hP]
            go_wp2_with fail
            have hgp := HGP.out
            have hvs1 := HVS1.out
            have HOL1 : Hid (∀ q, (fun q => obS g b (P + 2) q ∨ q = P + 1) q → q < V1.heap.size) := fun q hq => by
              simp only at hq
              rcases hq with hq | rfl
              · exact obS_lt HM1.out (by omega) q hq
              · omega
            have HTO1 : Hid (¬ (fun q => obS g b (P + 2) q ∨ q = P + 1) P) := by rw [Hid]; unfold obS; simp only; omega
            have hml1 := HM1.out.lt
            refine (wpIn_wide (n := 8)).1 ?_
            refine wpIn_rangeFunc_MB rfl (by omega) (gf := 40) (lb := #[.pointer (some ⟨P + 1 + 1, 0, none⟩), .pointer (some ⟨P + 1 + 1 + 1, 0, none⟩), .pointer (some ⟨P + 1 + 1 + 1 + 1, 0, none⟩)]) rfl trivial (enters_of Try.func40 (by kernel_rfl) rfl)
              (scan_seq (8 - 1) B g b cap s (P + 2) fr md V1 HM1.out hV1x.cell hV1y.cell hV1z.cell (by omega)) (fun q hq => HOL1.out q (.inl hq)) (Below.refl _ _) (fun _ => rfl)
              (fun M pre W => CoI w.heap.size w P (V1.heap.size + 2) M (fun q => obS g b (P + 2) q ∨ q = P + 1) pre V1 W) (fun _ _ _ _ => False)
              (fun M => coI_own (s := w.heap.size) (W0 := V1) (L := fun l => l) (Nat.le_refl _) (by omega) HOL1.out) (fun _ _ _ _ _ _ h _ _ => h)
              (fun W0 hb0 hM0 => ⟨⟨⟨.slice none 0 0, (hb0.block (P) (by have := HVS1.out; omega)).trans hv1, World.ownsRow_nil _ _ _ _, fun g h => by cases h⟩, HV1.out.bel.trans (hb0.mono HV1.out.bel.size), Nat.le_refl _⟩, fun q hq => hb0.block q (HOL1.out q hq), hb0.size⟩)
              (fun c : Cl => .cells #[.string c.key, .int .u64 ((c.seq : Nat) : Int), .string c.val, .bool c.gone] 33)
              (fun c A => { tmps := #[Value.slice ca k cc, Value.agg #[Value.string fr, Value.string md, Value.string tw], undef, Value.pointer (some ⟨w.heap.size, 0, none⟩), u4, Value.string fr, Value.string md, Value.string tw, Value.pointer (some ⟨g, 0, none⟩), undef, u10, Value.slice ra nl rc, Value.int IntKind.i64 ((i : Nat) : Int), Value.pointer (some ⟨P, 0, none⟩), Value.pointer (some ⟨P + 1, 0, none⟩), .pointer (some ⟨A, 0, none⟩), undef, undef, Value.pointer (some ⟨w.heap.size, 0, none⟩), Value.string fr, Value.pointer (some ⟨w.heap.size, 1, none⟩), Value.string md, Value.pointer (some ⟨w.heap.size, 2, none⟩), Value.string tw, Value.pointer (some ⟨g, 0, none⟩), Value.bool true, Value.bool false, Value.bool false, Value.pointer (some ⟨g, 0, none⟩), Value.bool false, Value.bool false, Value.slice ca k cc, Value.int IntKind.i64 ((k : Nat) : Int), Value.int IntKind.i64 ((k : Nat) : Int), Value.bool false, u35, u36, u37, u38, u39, u40, Value.pointer (some ⟨g, 0, none⟩), Value.slice ra nl rc, Value.int IntKind.i64 ((i : Nat) : Int), Value.slice ra nl rc, Value.int IntKind.i64 ((nl : Nat) : Int), Value.bool false, u47, u48, u49, u50, u51, u52, u53, u54, u55, u56, u57, u58, u59, Value.string fr, Value.string md, Value.bool false, Value.bool false, Value.string md, Value.bool false, Value.bool false, Value.bool false, Value.string tw, Value.bool false, Value.bool false, undef, undef, undef, Value.bool false, Value.bool false, Value.pointer (some ⟨g, 0, none⟩), Value.string fr, Value.string md, Value.func (Fn.func 40) #[] #[Value.pointer (some ⟨P + 1 + 1, 0, none⟩), Value.pointer (some ⟨P + 1 + 1 + 1, 0, none⟩), Value.pointer (some ⟨P + 1 + 1 + 1 + 1, 0, none⟩)], clV c, undef, undef, undef, undef, undef, undef, undef, undef, undef, undef, undef, undef, undef, undef, undef, undef, undef, undef, undef, undef, undef, undef, undef, undef, undef], defers := [] }) ?assign ?body ?done ?stop
            case assign =>
              intro lp c W K hK
              simp only [clV]
              gi_wp2
              exact hK
            case body =>
              rintro lp M pre c A W hzM hMA hA hI hlen'
              obtain ⟨⟨⟨v, hv, hr, hm⟩, hbel, hsiz⟩, hkept, hgrow⟩ := hI
              obtain ⟨va, vc, rfl⟩ := row_form4 hr
              have hlen0 := HLN1.out ()
              obtain ⟨nL, hnL⟩ : ∃ nL, pre.length = nL := ⟨_, rfl⟩
              have hnl : nL ≤ 4000000 := by rw [← hnL]; omega
              rw [hnL] at hr hv hm
              have c5 : W.cell? ⟨P, 0, none⟩ = some (.slice va nL vc) := hv.cell
              have k0 : W.cell? ⟨A, 0, none⟩ = some (.string c.key) := cell_of_block hA rfl
              have k1 : W.cell? ⟨A, 1, none⟩ = some (.int .u64 ((c.seq : Nat) : Int)) := cell_of_block hA rfl
              have k2 : W.cell? ⟨A, 2, none⟩ = some (.string c.val) := cell_of_block hA rfl
              have k3 : W.cell? ⟨A, 3, none⟩ = some (.bool c.gone) := cell_of_block hA rfl
              have HRX : Hid ((W.alloc (.cells #[.string c.key, .int .u64 ((c.seq : Nat) : Int), .string c.val, .bool c.gone] 33)).ownsRow w.heap.size 33 4 (.slice va nL vc) nL (flC pre)) := World.ownsRow.alloc hr _
              have HNC : Hid (∀ j u, [Value.string c.key, .int .u64 ((c.seq : Nat) : Int), .string c.val, .bool c.gone][j]? = some u → (W.alloc (.cells #[.string c.key, .int .u64 ((c.seq : Nat) : Int), .string c.val, .bool c.gone] 33)).cell? ((⟨W.heap.size, 0, none⟩ : Addr).add j) = some u) := fun j u hj => by
                rw [addr_addC]
                exact cell_of_block (o := 0 + j) (block_alloc_at _ _) (by rw [Nat.zero_add]; simpa using hj)
              have HST : Hid (∀ w3 v2, w3.ownsRow w.heap.size 33 4 v2 (nL + 1) (flC pre ++ [Value.string c.key, .int .u64 ((c.seq : Nat) : Int), .string c.val, .bool c.gone]) → (W.alloc (.cells #[.string c.key, .int .u64 ((c.seq : Nat) : Int), .string c.val, .bool c.gone] 33)).grownBy w3 (Value.slice va nL vc).ownBlock → (v2.ownBlock = (Value.slice va nL vc).ownBlock ∨ v2.ownBlock = some (W.alloc (.cells #[.string c.key, .int .u64 ((c.seq : Nat) : Int), .string c.val, .bool c.gone] 33)).heap.size) → _) := fun w3 v2 q1 q2 q3 =>
                colM_step (s := w.heap.size) (c := c) (Nat.le_refl _) (by omega) (by omega) HTO1.out (fun q hq => by have := HOL1.out q hq; omega) hnL hzM hsiz hv hr hm hbel ((Below.refl _ W).alloc (Nat.le_refl _) _) q1 q2 q3
              have hsW : w.heap.size ≤ (W.alloc (.cells #[.string c.key, .int .u64 ((c.seq : Nat) : Int), .string c.val, .bool c.gone] 33)).heap.size := by have := hbel.size; simp; omega
              have hb2 : (nL + 1) * 48 ≤ 140737488355328 := by omega
              have hb1 : nL + 1 ≤ maxLen := by unfold maxLen; omega
              have HKE : Hid (∀ q, (fun q => obS g b (P + 2) q ∨ q = P + 1) q → W.heap[q]? = V1.heap[q]?) := hkept
              have HGR : Hid (V1.heap.size ≤ W.heap.size) := hgrow
              clear hv hr hm hbel hA hMA hsiz hlen' hlen0 hnl hkept hgrow hvs1
              gi_wp2_with (gi_at_builtin; refine wpListIn_append_own_at _ rfl _ _ 27 rfl w.heap.size 33 i0 (.agg #[.string ByteArray.empty, .int .u64 0, .string ByteArray.empty, .bool false]) 4 48 Try.underlying27 hi hz0 hz1 hz2 rfl (by decide) _ _ _ rfl HRX.out ⟨W.heap.size, 0, none⟩ 1 1 [.string c.key, .int .u64 ((c.seq : Nat) : Int), .string c.val, .bool c.gone] rfl rfl HNC.out (by simp [Value.oneCell']) hb1 hb2 hsW ?_; intro v2 w3 hown2 hg2 _ hat2; obtain ⟨a2, c2', rfl, z5, f5, HE⟩ := HST.out w3 v2 hown2 hg2 hat2; clear hown2 hg2 hat2)
              have hfi := coI_step HKE.out HGR.out (ob' := obS g b (P + 2)) (fun q hq => Or.inl hq) HE.out V1.heap.size
              exact hfi
            case stop => exact fun _ _ _ _ _ _ _ _ h => h.elim
            case done =>
              rintro D1 M1 xs1 Wd1 hD1 hzM1 hxs1 ⟨⟨⟨v1, hvd1, hrd1, hmd1⟩, hbd1, _⟩, hkd1, hgd1⟩ hK1
              rw [hxs1] at hrd1
              have hvs1 := HVS1.out
              clear hzM1 hmd1 hxs1
              have HMd1 : Hid (MA B Wd1 g b cap s) := HM1.out.eq (hkd1 g (.inl (.inl rfl))) (hkd1 b (.inl (.inr (.inl rfl))))
              have hvq1 : Boxed Wd1 (P + 1) 27 (.slice none 0 0) := (hkd1 (P + 1) (.inr rfl)).trans hv1q
              have hd1V : D1 < Wd1.heap.size := (Array.getElem?_eq_some_iff.1 hK1).1
              obtain ⟨X2, hX2⟩ : ∃ X, Wd1.heap.size = X := ⟨_, rfl⟩
              have HX2 : Hid (Wd1.heap.size = X2) := hX2
              have HBd1 : Hid (Below w.heap.size w Wd1) := hbd1
              have HVd1 : Hid (Boxed Wd1 P 27 v1 ∧ Boxed Wd1 (P + 1) 27 (.slice none 0 0)) := ⟨hvd1, hvq1⟩
              have HRd1 : Hid (Wd1.ownsRow w.heap.size 33 4 v1 (scanL fr md s.E).length (flC (scanL fr md s.E))) := hrd1
              have HKd1 : Hid (Wd1.heap[D1]? = some (.deferred (some []))) := hK1
              have HDs1 : Hid (P + 5 ≤ D1 ∧ D1 < X2 ∧ P + 5 ≤ X2 ∧ w.heap.size ≤ P ∧ g < P ∧ b < P) := ⟨by omega, by omega, by omega, hPw, hgp⟩
              clear hkd1 hvd1 hrd1 hbd1 hK1 hvq1 hd1V hX2 hgd1 hv1 hv1q hV1x hV1y hV1z hvs1 hml1 hD1 hPw hgp
              go_wp2_with fail
              refine (scan_any (some ⟨g, 0, none⟩) md tw _).mono ?_
              rintro e V2 ⟨rfl, hV2⟩
              obtain ⟨hV2b, hV2x, hV2y, hV2z, hV2s⟩ := three_new Wd1 (some ⟨g, 0, none⟩) md tw V2 hV2
              have hX2 := HX2.out
              rw [hX2] at hV2x hV2y hV2z hV2s
              rw [hX2]
              obtain ⟨hda, hdb, hdc, hPw, hgp⟩ := HDs1.out
              have HVS2 : Hid (V2.heap.size = X2 + 3) := hV2s
              have HM2 : Hid (MA B V2 g b cap s) := HMd1.out.below hV2b
              have hv2 : Boxed V2 P 27 v1 := (hV2b.block _ (by omega)).trans HVd1.out.1
              have hv2q : Boxed V2 (P + 1) 27 (.slice none 0 0) := (hV2b.block _ (by omega)).trans HVd1.out.2
              have hm2 : V2.heap[D1]? = some (.deferred (some [])) := (hV2b.block _ (by omega)).trans HKd1.out
              have hr2 : V2.ownsRow w.heap.size 33 4 v1 (scanL fr md s.E).length (flC (scanL fr md s.E)) := owns_same HRd1.out (fun q hq => hV2b.block q (HRd1.out.lt q hq).2)
              have hbv2 : Below w.heap.size w V2 := HBd1.out.trans (hV2b.mono HBd1.out.size)
              have hc2 : ∀ q, v1.ownBlock = some q → (q < V2.heap.size + 2) ∧ ¬ (obS g b X2 q ∨ q = P + 1 ∨ q = D1) := fun q hq => by
                have h1 := (HRd1.out.lt q hq).2
                have h2 := row_table hr2 HM2.out q hq
                have h3 := row_not hr2 hv2q (fun c f e => by simp at e) q hq
                have h4 := row_not hr2 hm2 (fun c f e => by simp at e) q hq
                refine ⟨by have := hV2b.size; omega, ?_⟩
                unfold obS
                omega
              have HC2 : Hid _ := hc2
              have HR2 : Hid _ := hr2
              have HBV2 : Hid _ := hbv2
              have HQ2 : Hid (Boxed V2 (P + 1) 27 (.slice none 0 0) ∧ V2.heap[D1]? = some (.deferred (some []))) := ⟨hv2q, hm2⟩
              have HLN2 : Hid (∀ _ : Unit, s.E.length ≤ 2000000 ∧ (scanL fr md s.E).length ≤ 2000000) := fun _ => ⟨HLE.out, Nat.le_trans (scan_len HM2.out.rep _ _) HLE.out⟩
              clear hV2s hV2 hV2b hc2 hr2 hbv2 hv2q hm2 HRd1 HVd1 HKd1 HMd1 HBd1 HLN1
              go_wp2_with fail
              have hvs2 := HVS2.out
              have HOL2 : Hid (∀ q, (fun q => obS g b X2 q ∨ q = P + 1 ∨ q = D1) q → q < V2.heap.size) := fun q hq => by
                simp only at hq
                rcases hq with hq | rfl | rfl
                · exact obS_lt HM2.out (by omega) q hq
                · omega
                · omega
              have HTO2 : Hid (¬ (fun q => obS g b X2 q ∨ q = P + 1 ∨ q = D1) P) := by rw [Hid]; unfold obS; simp only; omega
              have hml2 := HM2.out.lt
              refine (wpIn_wide (n := 8)).1 ?_
              refine wpIn_rangeFunc_MB rfl (by omega) (gf := 40) (lb := #[.pointer (some ⟨X2, 0, none⟩), .pointer (some ⟨X2 + 1, 0, none⟩), .pointer (some ⟨X2 + 1 + 1, 0, none⟩)]) rfl trivial (enters_of Try.func40 (by kernel_rfl) rfl)
                (scan_seq (8 - 1) B g b cap s X2 md tw V2 HM2.out hV2x.cell hV2y.cell hV2z.cell (by omega)) (fun q hq => HOL2.out q (.inl hq)) (Below.refl _ _) (fun _ => rfl)
                (fun M pre W => CoI w.heap.size w P (V2.heap.size + 2) M (fun q => obS g b X2 q ∨ q = P + 1 ∨ q = D1) (scanL fr md s.E ++ pre) V2 W) (fun _ _ _ _ => False)
                (fun M => coI_own (s := w.heap.size) (W0 := V2) (L := fun l => (scanL fr md s.E ++ l)) (Nat.le_refl _) (by omega) HOL2.out) (fun _ _ _ _ _ _ h _ _ => h)
                (fun W0 hb0 hM0 => ⟨⟨⟨v1, (hb0.block (P) (by have := HVS2.out; omega)).trans hv2, by rw [List.append_nil]; exact owns_same HR2.out (fun q hq => hb0.block q (World.ownsRow.lt HR2.out q hq).2), fun q hq => ⟨.inl (HC2.out q hq).1, (HC2.out q hq).2⟩⟩, HBV2.out.trans (hb0.mono HBV2.out.size), Nat.le_refl _⟩, fun q hq => hb0.block q (HOL2.out q hq), hb0.size⟩)
                (fun c : Cl => .cells #[.string c.key, .int .u64 ((c.seq : Nat) : Int), .string c.val, .bool c.gone] 33)
                (fun c A => { tmps := #[Value.slice ca k cc, Value.agg #[Value.string fr, Value.string md, Value.string tw], undef, Value.pointer (some ⟨w.heap.size, 0, none⟩), u4, Value.string fr, Value.string md, Value.string tw, Value.pointer (some ⟨g, 0, none⟩), undef, u10, Value.slice ra nl rc, Value.int IntKind.i64 ((i : Nat) : Int), Value.pointer (some ⟨P, 0, none⟩), Value.pointer (some ⟨P + 1, 0, none⟩), undef, .pointer (some ⟨A, 0, none⟩), undef, Value.pointer (some ⟨w.heap.size, 0, none⟩), Value.string fr, Value.pointer (some ⟨w.heap.size, 1, none⟩), Value.string md, Value.pointer (some ⟨w.heap.size, 2, none⟩), Value.string tw, Value.pointer (some ⟨g, 0, none⟩), Value.bool true, Value.bool false, Value.bool false, Value.pointer (some ⟨g, 0, none⟩), Value.bool false, Value.bool false, Value.slice ca k cc, Value.int IntKind.i64 ((k : Nat) : Int), Value.int IntKind.i64 ((k : Nat) : Int), Value.bool false, u35, u36, u37, u38, u39, u40, Value.pointer (some ⟨g, 0, none⟩), Value.slice ra nl rc, Value.int IntKind.i64 ((i : Nat) : Int), Value.slice ra nl rc, Value.int IntKind.i64 ((nl : Nat) : Int), Value.bool false, u47, u48, u49, u50, u51, u52, u53, u54, u55, u56, u57, u58, u59, Value.string fr, Value.string md, Value.bool false, Value.bool false, Value.string md, Value.bool false, Value.bool false, Value.bool false, Value.string tw, Value.bool false, Value.bool false, undef, undef, undef, Value.bool false, Value.bool false, Value.pointer (some ⟨g, 0, none⟩), Value.string fr, Value.string md, Value.func (Fn.func 40) #[] #[Value.pointer (some ⟨P + 1 + 1, 0, none⟩), Value.pointer (some ⟨P + 1 + 1 + 1, 0, none⟩), Value.pointer (some ⟨P + 1 + 1 + 1 + 1, 0, none⟩)], undef, undef, undef, undef, undef, Value.pointer (some ⟨g, 0, none⟩), Value.string md, Value.string tw, Value.func (Fn.func 40) #[] #[Value.pointer (some ⟨X2, 0, none⟩), Value.pointer (some ⟨X2 + 1, 0, none⟩), Value.pointer (some ⟨X2 + 1 + 1, 0, none⟩)], clV c, undef, undef, undef, undef, undef, undef, undef, undef, undef, undef, undef, undef, undef, undef, undef, undef], defers := [] }) ?assign ?body ?done ?stop
              case assign =>
                intro lp c W K hK
                simp only [clV]
                gi_wp2
                exact hK
              case body =>
                rintro lp M pre c A W hzM hMA hA hI hlen'
                obtain ⟨⟨⟨v, hv, hr, hm⟩, hbel, hsiz⟩, hkept, hgrow⟩ := hI
                obtain ⟨va, vc, rfl⟩ := row_form4 hr
                have hlen0 := HLN2.out ()
                obtain ⟨nL, hnL⟩ : ∃ nL, (scanL fr md s.E ++ pre).length = nL := ⟨_, rfl⟩
                have hnl : nL ≤ 4000000 := by rw [← hnL]; rw [List.length_append]; omega
                rw [hnL] at hr hv hm
                have c5 : W.cell? ⟨P, 0, none⟩ = some (.slice va nL vc) := hv.cell
                have k0 : W.cell? ⟨A, 0, none⟩ = some (.string c.key) := cell_of_block hA rfl
                have k1 : W.cell? ⟨A, 1, none⟩ = some (.int .u64 ((c.seq : Nat) : Int)) := cell_of_block hA rfl
                have k2 : W.cell? ⟨A, 2, none⟩ = some (.string c.val) := cell_of_block hA rfl
                have k3 : W.cell? ⟨A, 3, none⟩ = some (.bool c.gone) := cell_of_block hA rfl
                have HRX : Hid ((W.alloc (.cells #[.string c.key, .int .u64 ((c.seq : Nat) : Int), .string c.val, .bool c.gone] 33)).ownsRow w.heap.size 33 4 (.slice va nL vc) nL (flC (scanL fr md s.E ++ pre))) := World.ownsRow.alloc hr _
                have HNC : Hid (∀ j u, [Value.string c.key, .int .u64 ((c.seq : Nat) : Int), .string c.val, .bool c.gone][j]? = some u → (W.alloc (.cells #[.string c.key, .int .u64 ((c.seq : Nat) : Int), .string c.val, .bool c.gone] 33)).cell? ((⟨W.heap.size, 0, none⟩ : Addr).add j) = some u) := fun j u hj => by
                  rw [addr_addC]
                  exact cell_of_block (o := 0 + j) (block_alloc_at _ _) (by rw [Nat.zero_add]; simpa using hj)
                have HST : Hid (∀ w3 v2, w3.ownsRow w.heap.size 33 4 v2 (nL + 1) (flC (scanL fr md s.E ++ pre) ++ [Value.string c.key, .int .u64 ((c.seq : Nat) : Int), .string c.val, .bool c.gone]) → (W.alloc (.cells #[.string c.key, .int .u64 ((c.seq : Nat) : Int), .string c.val, .bool c.gone] 33)).grownBy w3 (Value.slice va nL vc).ownBlock → (v2.ownBlock = (Value.slice va nL vc).ownBlock ∨ v2.ownBlock = some (W.alloc (.cells #[.string c.key, .int .u64 ((c.seq : Nat) : Int), .string c.val, .bool c.gone] 33)).heap.size) → _) := fun w3 v2 q1 q2 q3 =>
                  colM_step (s := w.heap.size) (c := c) (Nat.le_refl _) (by omega) (by omega) HTO2.out (fun q hq => by have := HOL2.out q hq; omega) hnL hzM hsiz hv hr hm hbel ((Below.refl _ W).alloc (Nat.le_refl _) _) q1 q2 q3
                have hsW : w.heap.size ≤ (W.alloc (.cells #[.string c.key, .int .u64 ((c.seq : Nat) : Int), .string c.val, .bool c.gone] 33)).heap.size := by have := hbel.size; simp; omega
                have hb2 : (nL + 1) * 48 ≤ 140737488355328 := by omega
                have hb1 : nL + 1 ≤ maxLen := by unfold maxLen; omega
                have HKE : Hid (∀ q, (fun q => obS g b X2 q ∨ q = P + 1 ∨ q = D1) q → W.heap[q]? = V2.heap[q]?) := hkept
                have HGR : Hid (V2.heap.size ≤ W.heap.size) := hgrow
                clear hv hr hm hbel hA hMA hsiz hlen' hlen0 hnl hkept hgrow hvs2
                gi_wp2_with (gi_at_builtin; refine wpListIn_append_own_at _ rfl _ _ 27 rfl w.heap.size 33 i0 (.agg #[.string ByteArray.empty, .int .u64 0, .string ByteArray.empty, .bool false]) 4 48 Try.underlying27 hi hz0 hz1 hz2 rfl (by decide) _ _ _ rfl HRX.out ⟨W.heap.size, 0, none⟩ 1 1 [.string c.key, .int .u64 ((c.seq : Nat) : Int), .string c.val, .bool c.gone] rfl rfl HNC.out (by simp [Value.oneCell']) hb1 hb2 hsW ?_; intro v2 w3 hown2 hg2 _ hat2; obtain ⟨a2, c2', rfl, z5, f5, HE⟩ := HST.out w3 v2 hown2 hg2 hat2; clear hown2 hg2 hat2)
                have hfi := coI_step HKE.out HGR.out (ob' := obS g b X2) (fun q hq => Or.inl hq) HE.out V2.heap.size
                rw [List.append_assoc] at hfi
                exact hfi
              case stop => exact fun _ _ _ _ _ _ _ _ h => h.elim
              case done =>
                rintro D2 M2 xs2 Wd2 hD2 hzM2 hxs2 ⟨⟨⟨v2, hvd2, hrd2, hmd2⟩, hbd2, _⟩, hkd2, hgd2⟩ hK2
                rw [hxs2] at hrd2
                have hvs2 := HVS2.out
                clear hzM2 hmd2 hxs2
                have HMd2 : Hid (MA B Wd2 g b cap s) := HM2.out.eq (hkd2 g (.inl (.inl rfl))) (hkd2 b (.inl (.inr (.inl rfl))))
                have hvq2 : Boxed Wd2 (P + 1) 27 (.slice none 0 0) := (hkd2 (P + 1) (.inr (.inl rfl))).trans HQ2.out.1
                have hmk1 : Wd2.heap[D1]? = some (.deferred (some [])) := (hkd2 D1 (.inr (.inr rfl))).trans HQ2.out.2
                have hd2V : D2 < Wd2.heap.size := (Array.getElem?_eq_some_iff.1 hK2).1
                obtain ⟨X3, hX3⟩ : ∃ X, Wd2.heap.size = X := ⟨_, rfl⟩
                have HX3 : Hid (Wd2.heap.size = X3) := hX3
                have HBd2 : Hid (Below w.heap.size w Wd2) := hbd2
                have HVd2 : Hid (Boxed Wd2 P 27 v2 ∧ Boxed Wd2 (P + 1) 27 (.slice none 0 0)) := ⟨hvd2, hvq2⟩
                have HRd2 : Hid (Wd2.ownsRow w.heap.size 33 4 v2 (scanL fr md s.E ++ scanL md tw s.E).length (flC (scanL fr md s.E ++ scanL md tw s.E))) := hrd2
                have HKd2 : Hid (Wd2.heap[D2]? = some (.deferred (some [])) ∧ Wd2.heap[D1]? = some (.deferred (some []))) := ⟨hK2, hmk1⟩
                have HDs2 : Hid (P + 5 ≤ D1 ∧ D1 < D2 ∧ D2 < X3 ∧ P + 5 ≤ X3 ∧ w.heap.size ≤ P ∧ g < P ∧ b < P) := ⟨by omega, by omega, by omega, by omega, hPw, hgp⟩
                clear hkd2 hvd2 hrd2 hbd2 hK2 hvq2 hmk1 hd2V hX3 hgd2 hv2 hV2x hV2y hV2z hvs2 hml2 hD2 hPw hgp hX2 hda hdb hdc HC2 HR2 HBV2 HQ2
                go_wp2_with fail
                refine (scan_any (some ⟨g, 0, none⟩) fr tw _).mono ?_
                rintro e V3 ⟨rfl, hV3⟩
                obtain ⟨hV3b, hV3x, hV3y, hV3z, hV3s⟩ := three_new Wd2 (some ⟨g, 0, none⟩) fr tw V3 hV3
                have hX3 := HX3.out
                rw [hX3] at hV3x hV3y hV3z hV3s
                rw [hX3]
                obtain ⟨hda, hdb, hdc, hdd, hPw, hgp⟩ := HDs2.out
                have HVS3 : Hid (V3.heap.size = X3 + 3) := hV3s
                have HM3 : Hid (MA B V3 g b cap s) := HMd2.out.below hV3b
                have hv3p : Boxed V3 P 27 v2 := (hV3b.block _ (by omega)).trans HVd2.out.1
                have hv3 : Boxed V3 (P + 1) 27 (.slice none 0 0) := (hV3b.block _ (by omega)).trans HVd2.out.2
                have hm3 : V3.heap[D2]? = some (.deferred (some [])) ∧ V3.heap[D1]? = some (.deferred (some [])) := ⟨(hV3b.block _ (by omega)).trans HKd2.out.1, (hV3b.block _ (by omega)).trans HKd2.out.2⟩
                have hr3 : V3.ownsRow w.heap.size 33 4 v2 (scanL fr md s.E ++ scanL md tw s.E).length (flC (scanL fr md s.E ++ scanL md tw s.E)) := owns_same HRd2.out (fun q hq => hV3b.block q (HRd2.out.lt q hq).2)
                have hbv3 : Below w.heap.size w V3 := HBd2.out.trans (hV3b.mono HBd2.out.size)
                have HRL3 : Hid (∀ q, v2.ownBlock = some q → q < V3.heap.size ∧ q ≠ P + 1) := fun q hq => ⟨(hr3.lt q hq).2, row_not hr3 hv3 (fun c f e => by simp at e) q hq⟩
                have HR3 : Hid _ := hr3
                have HBV3 : Hid _ := hbv3
                have HQ3 : Hid (Boxed V3 P 27 v2 ∧ V3.heap[D2]? = some (.deferred (some [])) ∧ V3.heap[D1]? = some (.deferred (some []))) := ⟨hv3p, hm3⟩
                have HLN3 : Hid (∀ _ : Unit, s.E.length ≤ 2000000 ∧ ([] : List Cl).length ≤ 2000000) := fun _ => ⟨HLE.out, by decide⟩
                clear hV3s hV3 hV3b hr3 hbv3 hv3p hm3 HRd2 HVd2 HKd2 HMd2 HBd2 HLN2
                go_wp2_with fail
                have hvs3 := HVS3.out
                have HOL3 : Hid (∀ q, (fun q => obS g b X3 q ∨ q = P ∨ q = D1 ∨ q = D2 ∨ v2.ownBlock = some q) q → q < V3.heap.size) := fun q hq => by
                  simp only at hq
                  rcases hq with hq | rfl | rfl | rfl | hq
                  · exact obS_lt HM3.out (by omega) q hq
                  · omega
                  · omega
                  · omega
                  · exact (HRL3.out q hq).1
                have HTO3 : Hid (¬ (fun q => obS g b X3 q ∨ q = P ∨ q = D1 ∨ q = D2 ∨ v2.ownBlock = some q) (P + 1)) := by rw [Hid]; unfold obS; simp only; have h0 := fun h => (HRL3.out (P + 1) h).2 rfl; intro hq; rcases hq with hq | hq | hq | hq | hq <;> first | omega | exact h0 hq
                have hml3 := HM3.out.lt
                refine (wpIn_wide (n := 8)).1 ?_
                refine wpIn_rangeFunc_MB rfl (by omega) (gf := 40) (lb := #[.pointer (some ⟨X3, 0, none⟩), .pointer (some ⟨X3 + 1, 0, none⟩), .pointer (some ⟨X3 + 1 + 1, 0, none⟩)]) rfl trivial (enters_of Try.func40 (by kernel_rfl) rfl)
                  (scan_seq (8 - 1) B g b cap s X3 fr tw V3 HM3.out hV3x.cell hV3y.cell hV3z.cell (by omega)) (fun q hq => HOL3.out q (.inl hq)) (Below.refl _ _) (fun _ => rfl)
                  (fun M pre W => CoI w.heap.size w (P + 1) (V3.heap.size + 2) M (fun q => obS g b X3 q ∨ q = P ∨ q = D1 ∨ q = D2 ∨ v2.ownBlock = some q) pre V3 W) (fun _ _ _ _ => False)
                  (fun M => coI_own (s := w.heap.size) (W0 := V3) (L := fun l => l) (Nat.le_refl _) (by omega) HOL3.out) (fun _ _ _ _ _ _ h _ _ => h)
                  (fun W0 hb0 hM0 => ⟨⟨⟨.slice none 0 0, (hb0.block ((P + 1)) (by have := HVS3.out; omega)).trans hv3, World.ownsRow_nil _ _ _ _, fun g h => by cases h⟩, HBV3.out.trans (hb0.mono HBV3.out.size), Nat.le_refl _⟩, fun q hq => hb0.block q (HOL3.out q hq), hb0.size⟩)
                  (fun c : Cl => .cells #[.string c.key, .int .u64 ((c.seq : Nat) : Int), .string c.val, .bool c.gone] 33)
                  (fun c A => { tmps := #[Value.slice ca k cc, Value.agg #[Value.string fr, Value.string md, Value.string tw], undef, Value.pointer (some ⟨w.heap.size, 0, none⟩), u4, Value.string fr, Value.string md, Value.string tw, Value.pointer (some ⟨g, 0, none⟩), undef, u10, Value.slice ra nl rc, Value.int IntKind.i64 ((i : Nat) : Int), Value.pointer (some ⟨P, 0, none⟩), Value.pointer (some ⟨P + 1, 0, none⟩), undef, undef, .pointer (some ⟨A, 0, none⟩), Value.pointer (some ⟨w.heap.size, 0, none⟩), Value.string fr, Value.pointer (some ⟨w.heap.size, 1, none⟩), Value.string md, Value.pointer (some ⟨w.heap.size, 2, none⟩), Value.string tw, Value.pointer (some ⟨g, 0, none⟩), Value.bool true, Value.bool false, Value.bool false, Value.pointer (some ⟨g, 0, none⟩), Value.bool false, Value.bool false, Value.slice ca k cc, Value.int IntKind.i64 ((k : Nat) : Int), Value.int IntKind.i64 ((k : Nat) : Int), Value.bool false, u35, u36, u37, u38, u39, u40, Value.pointer (some ⟨g, 0, none⟩), Value.slice ra nl rc, Value.int IntKind.i64 ((i : Nat) : Int), Value.slice ra nl rc, Value.int IntKind.i64 ((nl : Nat) : Int), Value.bool false, u47, u48, u49, u50, u51, u52, u53, u54, u55, u56, u57, u58, u59, Value.string fr, Value.string md, Value.bool false, Value.bool false, Value.string md, Value.bool false, Value.bool false, Value.bool false, Value.string tw, Value.bool false, Value.bool false, undef, undef, undef, Value.bool false, Value.bool false, Value.pointer (some ⟨g, 0, none⟩), Value.string fr, Value.string md, Value.func (Fn.func 40) #[] #[Value.pointer (some ⟨P + 1 + 1, 0, none⟩), Value.pointer (some ⟨P + 1 + 1 + 1, 0, none⟩), Value.pointer (some ⟨P + 1 + 1 + 1 + 1, 0, none⟩)], undef, undef, undef, undef, undef, Value.pointer (some ⟨g, 0, none⟩), Value.string md, Value.string tw, Value.func (Fn.func 40) #[] #[Value.pointer (some ⟨X2, 0, none⟩), Value.pointer (some ⟨X2 + 1, 0, none⟩), Value.pointer (some ⟨X2 + 1 + 1, 0, none⟩)], undef, undef, undef, undef, undef, Value.pointer (some ⟨g, 0, none⟩), Value.string fr, Value.string tw, Value.func (Fn.func 40) #[] #[Value.pointer (some ⟨X3, 0, none⟩), Value.pointer (some ⟨X3 + 1, 0, none⟩), Value.pointer (some ⟨X3 + 1 + 1, 0, none⟩)], clV c, undef, undef, undef, undef, undef, undef, undef], defers := [] }) ?assign ?body ?done ?stop
                case assign =>
                  intro lp c W K hK
                  simp only [clV]
                  gi_wp2
                  exact hK
                case body =>
                  rintro lp M pre c A W hzM hMA hA hI hlen'
                  obtain ⟨⟨⟨v, hv, hr, hm⟩, hbel, hsiz⟩, hkept, hgrow⟩ := hI
                  obtain ⟨va, vc, rfl⟩ := row_form4 hr
                  have hlen0 := HLN3.out ()
                  obtain ⟨nL, hnL⟩ : ∃ nL, pre.length = nL := ⟨_, rfl⟩
                  have hnl : nL ≤ 4000000 := by rw [← hnL]; omega
                  rw [hnL] at hr hv hm
                  have c5 : W.cell? ⟨(P + 1), 0, none⟩ = some (.slice va nL vc) := hv.cell
                  have k0 : W.cell? ⟨A, 0, none⟩ = some (.string c.key) := cell_of_block hA rfl
                  have k1 : W.cell? ⟨A, 1, none⟩ = some (.int .u64 ((c.seq : Nat) : Int)) := cell_of_block hA rfl
                  have k2 : W.cell? ⟨A, 2, none⟩ = some (.string c.val) := cell_of_block hA rfl
                  have k3 : W.cell? ⟨A, 3, none⟩ = some (.bool c.gone) := cell_of_block hA rfl
                  have HRX : Hid ((W.alloc (.cells #[.string c.key, .int .u64 ((c.seq : Nat) : Int), .string c.val, .bool c.gone] 33)).ownsRow w.heap.size 33 4 (.slice va nL vc) nL (flC pre)) := World.ownsRow.alloc hr _
                  have HNC : Hid (∀ j u, [Value.string c.key, .int .u64 ((c.seq : Nat) : Int), .string c.val, .bool c.gone][j]? = some u → (W.alloc (.cells #[.string c.key, .int .u64 ((c.seq : Nat) : Int), .string c.val, .bool c.gone] 33)).cell? ((⟨W.heap.size, 0, none⟩ : Addr).add j) = some u) := fun j u hj => by
                    rw [addr_addC]
                    exact cell_of_block (o := 0 + j) (block_alloc_at _ _) (by rw [Nat.zero_add]; simpa using hj)
                  have HST : Hid (∀ w3 v2, w3.ownsRow w.heap.size 33 4 v2 (nL + 1) (flC pre ++ [Value.string c.key, .int .u64 ((c.seq : Nat) : Int), .string c.val, .bool c.gone]) → (W.alloc (.cells #[.string c.key, .int .u64 ((c.seq : Nat) : Int), .string c.val, .bool c.gone] 33)).grownBy w3 (Value.slice va nL vc).ownBlock → (v2.ownBlock = (Value.slice va nL vc).ownBlock ∨ v2.ownBlock = some (W.alloc (.cells #[.string c.key, .int .u64 ((c.seq : Nat) : Int), .string c.val, .bool c.gone] 33)).heap.size) → _) := fun w3 v2 q1 q2 q3 =>
                    colM_step (s := w.heap.size) (c := c) (Nat.le_refl _) (by omega) (by omega) HTO3.out (fun q hq => by have := HOL3.out q hq; omega) hnL hzM hsiz hv hr hm hbel ((Below.refl _ W).alloc (Nat.le_refl _) _) q1 q2 q3
                  have hsW : w.heap.size ≤ (W.alloc (.cells #[.string c.key, .int .u64 ((c.seq : Nat) : Int), .string c.val, .bool c.gone] 33)).heap.size := by have := hbel.size; simp; omega
                  have hb2 : (nL + 1) * 48 ≤ 140737488355328 := by omega
                  have hb1 : nL + 1 ≤ maxLen := by unfold maxLen; omega
                  have HKE : Hid (∀ q, (fun q => obS g b X3 q ∨ q = P ∨ q = D1 ∨ q = D2 ∨ v2.ownBlock = some q) q → W.heap[q]? = V3.heap[q]?) := hkept
                  have HGR : Hid (V3.heap.size ≤ W.heap.size) := hgrow
                  clear hv hr hm hbel hA hMA hsiz hlen' hlen0 hnl hkept hgrow hvs3
                  gi_wp2_with (gi_at_builtin; refine wpListIn_append_own_at _ rfl _ _ 27 rfl w.heap.size 33 i0 (.agg #[.string ByteArray.empty, .int .u64 0, .string ByteArray.empty, .bool false]) 4 48 Try.underlying27 hi hz0 hz1 hz2 rfl (by decide) _ _ _ rfl HRX.out ⟨W.heap.size, 0, none⟩ 1 1 [.string c.key, .int .u64 ((c.seq : Nat) : Int), .string c.val, .bool c.gone] rfl rfl HNC.out (by simp [Value.oneCell']) hb1 hb2 hsW ?_; intro v2 w3 hown2 hg2 _ hat2; obtain ⟨a2, c2', rfl, z5, f5, HE⟩ := HST.out w3 v2 hown2 hg2 hat2; clear hown2 hg2 hat2)
                  have hfi := coI_step HKE.out HGR.out (ob' := obS g b X3) (fun q hq => Or.inl hq) HE.out V3.heap.size
                  exact hfi
                case stop => exact fun _ _ _ _ _ _ _ _ h => h.elim
                case done =>
                  rintro D3 M3 xs3 Wd3 hD3 hzM3 hxs3 ⟨⟨⟨v3, hvd3, hrd3, hmd3⟩, hbd3, _⟩, hkd3, hgd3⟩ hK3
                  rw [hxs3] at hrd3
                  have hvs3 := HVS3.out
                  clear hzM3 hmd3 hxs3
                  have HSJ2 := HSJ.out
                  have hvp3 : Boxed Wd3 P 27 v2 := (hkd3 P (.inr (.inl rfl))).trans HQ3.out.1
                  have hmk1 : Wd3.heap[D1]? = some (.deferred (some [])) := (hkd3 D1 (.inr (.inr (.inl rfl)))).trans HQ3.out.2.2
                  have hmk2 : Wd3.heap[D2]? = some (.deferred (some [])) := (hkd3 D2 (.inr (.inr (.inr (.inl rfl))))).trans HQ3.out.2.1
                  have hrp : Wd3.ownsRow w.heap.size 33 4 v2 (scanL fr tw s.E).length (flC (scanL fr tw s.E)) := by
                    rw [← HSJ2]
                    exact owns_same HR3.out (fun q hq => hkd3 q (.inr (.inr (.inr (.inr hq)))))
                  have hrq : Wd3.ownsRow w.heap.size 33 4 v3 (scanL fr tw s.E).length (flC (scanL fr tw s.E)) := hrd3
                  have hll : (scanL fr tw s.E).length < 1000000000000000 := by have := scan_len HM3.out.rep fr tw; have := HLE.out; omega
                  obtain ⟨LL, hLL⟩ : ∃ LL, scanL fr tw s.E = LL := ⟨_, rfl⟩
                  rw [hLL] at hrp hrq hll
                  obtain ⟨pa, pc, rfl, _, hpa⟩ := ca_row hrp
                  obtain ⟨qa, qc, rfl, _, hqa⟩ := ca_row hrq
                  have cP : Wd3.cell? ⟨P, 0, none⟩ = some (.slice pa LL.length pc) := hvp3.cell
                  have cQ : Wd3.cell? ⟨P + 1, 0, none⟩ = some (.slice qa LL.length qc) := hvd3.cell
                  have HSM : Hid (∀ _ : Unit, _) := fun _ => same_eq pa qa LL.length pc qc LL Wd3 hpa hqa rfl hll
                  have hd3V : D3 < Wd3.heap.size := (Array.getElem?_eq_some_iff.1 hK3).1
                  have HBd3 : Hid (Below w.heap.size w Wd3) := hbd3
                  have HKd3 : Hid (Wd3.heap[D3]? = some (.deferred (some [])) ∧ Wd3.heap[D2]? = some (.deferred (some [])) ∧ Wd3.heap[D1]? = some (.deferred (some []))) := ⟨hK3, hmk2, hmk1⟩
                  have HDs3 : Hid (D1 ≠ D2 ∧ D1 ≠ D3 ∧ D2 ≠ D3 ∧ w.heap.size ≤ D1 ∧ w.heap.size ≤ D2 ∧ w.heap.size ≤ D3) := ⟨by omega, by omega, by omega, by omega, by omega, by omega⟩
                  clear hkd3 hvd3 hrd3 hbd3 hK3 hvp3 hmk1 hmk2 hrp hrq hll hLL hpa hqa hd3V hgd3 hv3 hV3x hV3y hV3z hvs3 hml3 hD3 hPw hgp hX3 hda hdb hdc hdd HSJ2
                  go_wp2_with fail
                  refine (HSM.out ()).mono ?_
                  rintro e w9 ⟨rfl, nq9, rfl⟩
                  clear cP cQ
                  go_wp2_with fail
                  refine leaves_marks [D3, D2, D1] _ (by have := HDs3.out; simp; omega) (fun D' hD' => ?_) (fun w' e0 e1 e2 => ?_)
                  · simp only [List.mem_cons, List.not_mem_nil, or_false] at hD'
                    rcases hD' with rfl | rfl | rfl
                    · exact HKd3.out.1
                    · exact HKd3.out.2.1
                    · exact HKd3.out.2.2
                  · refine ⟨_, results_tmp rfl _ _ _, rfl, HBd3.out.trans ⟨e0.1, e0.2.1, e0.2.2, by rw [e1]; exact Nat.le_refl _, fun q hq => e2 q (fun hD' => ?_)⟩⟩
                    have := HDs3.out
                    simp only [List.mem_cons, List.not_mem_nil, or_false] at hD'
                    omega
          have q3 : tw.toList.isEmpty = false := by simpa using q3
          by_cases q4 : Op.bytesLess tw.toList md.toList = true
          · have hg2 := fun W => sgtr 9 md tw W
            rw [q4] at hg2
            clear q1 q4
            go_wp2_with fail
            refine leaves_marks [] _ List.nodup_nil (fun _ h => by cases h) (fun w' e0 e1 e2 => ?_)
            exact ⟨_, results_tmp rfl _ _ _, rfl, HT8.out.bel.trans ⟨e0.1, e0.2.1, e0.2.2, by omega, fun q _ => e2 q (by simp)⟩⟩
          have q4 : Op.bytesLess tw.toList md.toList = false := by simpa using q4
          have HSJ : Hid (scanL fr md s.E ++ scanL md tw s.E = scanL fr tw s.E) := scan_join HO.out q1 q2 (.inr q4)
          have hg2 := fun W => sgtr 9 md tw W
          rw [q4] at hg2
          clear q1 q4
          go_wp2_with fail
          obtain ⟨P, hP⟩ : ∃ P, wr.heap.size = P := ⟨_, rfl⟩
          have HGP : Hid (g < P ∧ b < P) := by rw [← hP]; exact HT8.out.ma.lt
          refine (scan_any (some ⟨g, 0, none⟩) fr md _).mono ?_
          rintro e V1 ⟨rfl, hV1⟩
          obtain ⟨hV1b, hv1, hv1q, hV1x, hV1y, hV1z, hV1s⟩ := three_boxes wr (some ⟨g, 0, none⟩) fr md V1 hV1
          rw [hP] at hv1 hv1q hV1x hV1y hV1z hV1s
          have HV1 : Hid (TM w.heap.size B g w V1 k s b cap) := HT8.out.on hV1b HT8.out.bel.size
          have hPw : w.heap.size ≤ P := by rw [← hP]; exact HT8.out.bel.size
          have HM1 : Hid (MA B V1 g b cap s) := HV1.out.ma
          have HVS1 : Hid (V1.heap.size = P + 5) := hV1s
          have HLN1 : Hid (∀ _ : Unit, s.E.length ≤ 2000000 ∧ ([] : List Cl).length ≤ 2000000) := fun _ => ⟨HLE.out, by decide⟩
          clear hV1 hV1b HT8 hV1s
          simp only [World.size_alloc, hP]
          go_wp2_with fail
          have hgp := HGP.out
          have hvs1 := HVS1.out
          have HOL1 : Hid (∀ q, (fun q => obS g b (P + 2) q ∨ q = P + 1) q → q < V1.heap.size) := fun q hq => by
            simp only at hq
            rcases hq with hq | rfl
            · exact obS_lt HM1.out (by omega) q hq
            · omega
          have HTO1 : Hid (¬ (fun q => obS g b (P + 2) q ∨ q = P + 1) P) := by rw [Hid]; unfold obS; simp only; omega
          have hml1 := HM1.out.lt
          refine (wpIn_wide (n := 8)).1 ?_
          refine wpIn_rangeFunc_MB rfl (by omega) (gf := 40) (lb := #[.pointer (some ⟨P + 1 + 1, 0, none⟩), .pointer (some ⟨P + 1 + 1 + 1, 0, none⟩), .pointer (some ⟨P + 1 + 1 + 1 + 1, 0, none⟩)]) rfl trivial (enters_of Try.func40 (by kernel_rfl) rfl)
            (scan_seq (8 - 1) B g b cap s (P + 2) fr md V1 HM1.out hV1x.cell hV1y.cell hV1z.cell (by omega)) (fun q hq => HOL1.out q (.inl hq)) (Below.refl _ _) (fun _ => rfl)
            (fun M pre W => CoI w.heap.size w P (V1.heap.size + 2) M (fun q => obS g b (P + 2) q ∨ q = P + 1) pre V1 W) (fun _ _ _ _ => False)
            (fun M => coI_own (s := w.heap.size) (W0 := V1) (L := fun l => l) (Nat.le_refl _) (by omega) HOL1.out) (fun _ _ _ _ _ _ h _ _ => h)
            (fun W0 hb0 hM0 => ⟨⟨⟨.slice none 0 0, (hb0.block (P) (by have := HVS1.out; omega)).trans hv1, World.ownsRow_nil _ _ _ _, fun g h => by cases h⟩, HV1.out.bel.trans (hb0.mono HV1.out.bel.size), Nat.le_refl _⟩, fun q hq => hb0.block q (HOL1.out q hq), hb0.size⟩)
            (fun c : Cl => .cells #[.string c.key, .int .u64 ((c.seq : Nat) : Int), .string c.val, .bool c.gone] 33)
            (fun c A => { tmps := #[Value.slice ca k cc, Value.agg #[Value.string fr, Value.string md, Value.string tw], undef, Value.pointer (some ⟨w.heap.size, 0, none⟩), u4, Value.string fr, Value.string md, Value.string tw, Value.pointer (some ⟨g, 0, none⟩), undef, u10, Value.slice ra nl rc, Value.int IntKind.i64 ((i : Nat) : Int), Value.pointer (some ⟨P, 0, none⟩), Value.pointer (some ⟨P + 1, 0, none⟩), .pointer (some ⟨A, 0, none⟩), undef, undef, Value.pointer (some ⟨w.heap.size, 0, none⟩), Value.string fr, Value.pointer (some ⟨w.heap.size, 1, none⟩), Value.string md, Value.pointer (some ⟨w.heap.size, 2, none⟩), Value.string tw, Value.pointer (some ⟨g, 0, none⟩), Value.bool true, Value.bool false, Value.bool false, Value.pointer (some ⟨g, 0, none⟩), Value.bool false, Value.bool false, Value.slice ca k cc, Value.int IntKind.i64 ((k : Nat) : Int), Value.int IntKind.i64 ((k : Nat) : Int), Value.bool false, u35, u36, u37, u38, u39, u40, Value.pointer (some ⟨g, 0, none⟩), Value.slice ra nl rc, Value.int IntKind.i64 ((i : Nat) : Int), Value.slice ra nl rc, Value.int IntKind.i64 ((nl : Nat) : Int), Value.bool false, u47, u48, u49, u50, u51, u52, u53, u54, u55, u56, u57, u58, u59, Value.string fr, Value.string md, Value.bool false, Value.bool false, Value.string md, Value.bool false, Value.bool false, Value.bool false, Value.string tw, Value.bool true, Value.bool true, Value.string md, Value.string tw, Value.bool false, Value.bool false, Value.bool false, Value.pointer (some ⟨g, 0, none⟩), Value.string fr, Value.string md, Value.func (Fn.func 40) #[] #[Value.pointer (some ⟨P + 1 + 1, 0, none⟩), Value.pointer (some ⟨P + 1 + 1 + 1, 0, none⟩), Value.pointer (some ⟨P + 1 + 1 + 1 + 1, 0, none⟩)], clV c, undef, undef, undef, undef, undef, undef, undef, undef, undef, undef, undef, undef, undef, undef, undef, undef, undef, undef, undef, undef, undef, undef, undef, undef, undef], defers := [] }) ?assign ?body ?done ?stop
          case assign =>
            intro lp c W K hK
            simp only [clV]
            gi_wp2
            exact hK
          case body =>
            rintro lp M pre c A W hzM hMA hA hI hlen'
            obtain ⟨⟨⟨v, hv, hr, hm⟩, hbel, hsiz⟩, hkept, hgrow⟩ := hI
            obtain ⟨va, vc, rfl⟩ := row_form4 hr
            have hlen0 := HLN1.out ()
            obtain ⟨nL, hnL⟩ : ∃ nL, pre.length = nL := ⟨_, rfl⟩
            have hnl : nL ≤ 4000000 := by rw [← hnL]; omega
            rw [hnL] at hr hv hm
            have c5 : W.cell? ⟨P, 0, none⟩ = some (.slice va nL vc) := hv.cell
            have k0 : W.cell? ⟨A, 0, none⟩ = some (.string c.key) := cell_of_block hA rfl
            have k1 : W.cell? ⟨A, 1, none⟩ = some (.int .u64 ((c.seq : Nat) : Int)) := cell_of_block hA rfl
            have k2 : W.cell? ⟨A, 2, none⟩ = some (.string c.val) := cell_of_block hA rfl
            have k3 : W.cell? ⟨A, 3, none⟩ = some (.bool c.gone) := cell_of_block hA rfl
            have HRX : Hid ((W.alloc (.cells #[.string c.key, .int .u64 ((c.seq : Nat) : Int), .string c.val, .bool c.gone] 33)).ownsRow w.heap.size 33 4 (.slice va nL vc) nL (flC pre)) := World.ownsRow.alloc hr _
            have HNC : Hid (∀ j u, [Value.string c.key, .int .u64 ((c.seq : Nat) : Int), .string c.val, .bool c.gone][j]? = some u → (W.alloc (.cells #[.string c.key, .int .u64 ((c.seq : Nat) : Int), .string c.val, .bool c.gone] 33)).cell? ((⟨W.heap.size, 0, none⟩ : Addr).add j) = some u) := fun j u hj => by
              rw [addr_addC]
              exact cell_of_block (o := 0 + j) (block_alloc_at _ _) (by rw [Nat.zero_add]; simpa using hj)
            have HST : Hid (∀ w3 v2, w3.ownsRow w.heap.size 33 4 v2 (nL + 1) (flC pre ++ [Value.string c.key, .int .u64 ((c.seq : Nat) : Int), .string c.val, .bool c.gone]) → (W.alloc (.cells #[.string c.key, .int .u64 ((c.seq : Nat) : Int), .string c.val, .bool c.gone] 33)).grownBy w3 (Value.slice va nL vc).ownBlock → (v2.ownBlock = (Value.slice va nL vc).ownBlock ∨ v2.ownBlock = some (W.alloc (.cells #[.string c.key, .int .u64 ((c.seq : Nat) : Int), .string c.val, .bool c.gone] 33)).heap.size) → _) := fun w3 v2 q1 q2 q3 =>
              colM_step (s := w.heap.size) (c := c) (Nat.le_refl _) (by omega) (by omega) HTO1.out (fun q hq => by have := HOL1.out q hq; omega) hnL hzM hsiz hv hr hm hbel ((Below.refl _ W).alloc (Nat.le_refl _) _) q1 q2 q3
            have hsW : w.heap.size ≤ (W.alloc (.cells #[.string c.key, .int .u64 ((c.seq : Nat) : Int), .string c.val, .bool c.gone] 33)).heap.size := by have := hbel.size; simp; omega
            have hb2 : (nL + 1) * 48 ≤ 140737488355328 := by omega
            have hb1 : nL + 1 ≤ maxLen := by unfold maxLen; omega
            have HKE : Hid (∀ q, (fun q => obS g b (P + 2) q ∨ q = P + 1) q → W.heap[q]? = V1.heap[q]?) := hkept
            have HGR : Hid (V1.heap.size ≤ W.heap.size) := hgrow
            clear hv hr hm hbel hA hMA hsiz hlen' hlen0 hnl hkept hgrow hvs1
            gi_wp2_with (gi_at_builtin; refine wpListIn_append_own_at _ rfl _ _ 27 rfl w.heap.size 33 i0 (.agg #[.string ByteArray.empty, .int .u64 0, .string ByteArray.empty, .bool false]) 4 48 Try.underlying27 hi hz0 hz1 hz2 rfl (by decide) _ _ _ rfl HRX.out ⟨W.heap.size, 0, none⟩ 1 1 [.string c.key, .int .u64 ((c.seq : Nat) : Int), .string c.val, .bool c.gone] rfl rfl HNC.out (by simp [Value.oneCell']) hb1 hb2 hsW ?_; intro v2 w3 hown2 hg2 _ hat2; obtain ⟨a2, c2', rfl, z5, f5, HE⟩ := HST.out w3 v2 hown2 hg2 hat2; clear hown2 hg2 hat2)
            have hfi := coI_step HKE.out HGR.out (ob' := obS g b (P + 2)) (fun q hq => Or.inl hq) HE.out V1.heap.size
            exact hfi
          case stop => exact fun _ _ _ _ _ _ _ _ h => h.elim
          case done =>
            rintro D1 M1 xs1 Wd1 hD1 hzM1 hxs1 ⟨⟨⟨v1, hvd1, hrd1, hmd1⟩, hbd1, _⟩, hkd1, hgd1⟩ hK1
            rw [hxs1] at hrd1
            have hvs1 := HVS1.out
            clear hzM1 hmd1 hxs1
            have HMd1 : Hid (MA B Wd1 g b cap s) := HM1.out.eq (hkd1 g (.inl (.inl rfl))) (hkd1 b (.inl (.inr (.inl rfl))))
            have hvq1 : Boxed Wd1 (P + 1) 27 (.slice none 0 0) := (hkd1 (P + 1) (.inr rfl)).trans hv1q
            have hd1V : D1 < Wd1.heap.size := (Array.getElem?_eq_some_iff.1 hK1).1
            obtain ⟨X2, hX2⟩ : ∃ X, Wd1.heap.size = X := ⟨_, rfl⟩
            have HX2 : Hid (Wd1.heap.size = X2) := hX2
            have HBd1 : Hid (Below w.heap.size w Wd1) := hbd1
            have HVd1 : Hid (Boxed Wd1 P 27 v1 ∧ Boxed Wd1 (P + 1) 27 (.slice none 0 0)) := ⟨hvd1, hvq1⟩
            have HRd1 : Hid (Wd1.ownsRow w.heap.size 33 4 v1 (scanL fr md s.E).length (flC (scanL fr md s.E))) := hrd1
            have HKd1 : Hid (Wd1.heap[D1]? = some (.deferred (some []))) := hK1
            have HDs1 : Hid (P + 5 ≤ D1 ∧ D1 < X2 ∧ P + 5 ≤ X2 ∧ w.heap.size ≤ P ∧ g < P ∧ b < P) := ⟨by omega, by omega, by omega, hPw, hgp⟩
            clear hkd1 hvd1 hrd1 hbd1 hK1 hvq1 hd1V hX2 hgd1 hv1 hv1q hV1x hV1y hV1z hvs1 hml1 hD1 hPw hgp
            go_wp2_with fail
            refine (scan_any (some ⟨g, 0, none⟩) md tw _).mono ?_
            rintro e V2 ⟨rfl, hV2⟩
            obtain ⟨hV2b, hV2x, hV2y, hV2z, hV2s⟩ := three_new Wd1 (some ⟨g, 0, none⟩) md tw V2 hV2
            have hX2 := HX2.out
            rw [hX2] at hV2x hV2y hV2z hV2s
            rw [hX2]
            obtain ⟨hda, hdb, hdc, hPw, hgp⟩ := HDs1.out
            have HVS2 : Hid (V2.heap.size = X2 + 3) := hV2s
            have HM2 : Hid (MA B V2 g b cap s) := HMd1.out.below hV2b
            have hv2 : Boxed V2 P 27 v1 := (hV2b.block _ (by omega)).trans HVd1.out.1
            have hv2q : Boxed V2 (P + 1) 27 (.slice none 0 0) := (hV2b.block _ (by omega)).trans HVd1.out.2
            have hm2 : V2.heap[D1]? = some (.deferred (some [])) := (hV2b.block _ (by omega)).trans HKd1.out
            have hr2 : V2.ownsRow w.heap.size 33 4 v1 (scanL fr md s.E).length (flC (scanL fr md s.E)) := owns_same HRd1.out (fun q hq => hV2b.block q (HRd1.out.lt q hq).2)
            have hbv2 : Below w.heap.size w V2 := HBd1.out.trans (hV2b.mono HBd1.out.size)
            have hc2 : ∀ q, v1.ownBlock = some q → (q < V2.heap.size + 2) ∧ ¬ (obS g b X2 q ∨ q = P + 1 ∨ q = D1) := fun q hq => by
              have h1 := (HRd1.out.lt q hq).2
              have h2 := row_table hr2 HM2.out q hq
              have h3 := row_not hr2 hv2q (fun c f e => by simp at e) q hq
              have h4 := row_not hr2 hm2 (fun c f e => by simp at e) q hq
              refine ⟨by have := hV2b.size; omega, ?_⟩
              unfold obS
              omega
            have HC2 : Hid _ := hc2
            have HR2 : Hid _ := hr2
            have HBV2 : Hid _ := hbv2
            have HQ2 : Hid (Boxed V2 (P + 1) 27 (.slice none 0 0) ∧ V2.heap[D1]? = some (.deferred (some []))) := ⟨hv2q, hm2⟩
            have HLN2 : Hid (∀ _ : Unit, s.E.length ≤ 2000000 ∧ (scanL fr md s.E).length ≤ 2000000) := fun _ => ⟨HLE.out, Nat.le_trans (scan_len HM2.out.rep _ _) HLE.out⟩
            clear hV2s hV2 hV2b hc2 hr2 hbv2 hv2q hm2 HRd1 HVd1 HKd1 HMd1 HBd1 HLN1
            go_wp2_with fail
            have hvs2 := HVS2.out
            have HOL2 : Hid (∀ q, (fun q => obS g b X2 q ∨ q = P + 1 ∨ q = D1) q → q < V2.heap.size) := fun q hq => by
              simp only at hq
              rcases hq with hq | rfl | rfl
              · exact obS_lt HM2.out (by omega) q hq
              · omega
              · omega
            have HTO2 : Hid (¬ (fun q => obS g b X2 q ∨ q = P + 1 ∨ q = D1) P) := by rw [Hid]; unfold obS; simp only; omega
            have hml2 := HM2.out.lt
            refine (wpIn_wide (n := 8)).1 ?_
            refine wpIn_rangeFunc_MB rfl (by omega) (gf := 40) (lb := #[.pointer (some ⟨X2, 0, none⟩), .pointer (some ⟨X2 + 1, 0, none⟩), .pointer (some ⟨X2 + 1 + 1, 0, none⟩)]) rfl trivial (enters_of Try.func40 (by kernel_rfl) rfl)
              (scan_seq (8 - 1) B g b cap s X2 md tw V2 HM2.out hV2x.cell hV2y.cell hV2z.cell (by omega)) (fun q hq => HOL2.out q (.inl hq)) (Below.refl _ _) (fun _ => rfl)
              (fun M pre W => CoI w.heap.size w P (V2.heap.size + 2) M (fun q => obS g b X2 q ∨ q = P + 1 ∨ q = D1) (scanL fr md s.E ++ pre) V2 W) (fun _ _ _ _ => False)
              (fun M => coI_own (s := w.heap.size) (W0 := V2) (L := fun l => (scanL fr md s.E ++ l)) (Nat.le_refl _) (by omega) HOL2.out) (fun _ _ _ _ _ _ h _ _ => h)
              (fun W0 hb0 hM0 => ⟨⟨⟨v1, (hb0.block (P) (by have := HVS2.out; omega)).trans hv2, by rw [List.append_nil]; exact owns_same HR2.out (fun q hq => hb0.block q (World.ownsRow.lt HR2.out q hq).2), fun q hq => ⟨.inl (HC2.out q hq).1, (HC2.out q hq).2⟩⟩, HBV2.out.trans (hb0.mono HBV2.out.size), Nat.le_refl _⟩, fun q hq => hb0.block q (HOL2.out q hq), hb0.size⟩)
              (fun c : Cl => .cells #[.string c.key, .int .u64 ((c.seq : Nat) : Int), .string c.val, .bool c.gone] 33)
              (fun c A => { tmps := #[Value.slice ca k cc, Value.agg #[Value.string fr, Value.string md, Value.string tw], undef, Value.pointer (some ⟨w.heap.size, 0, none⟩), u4, Value.string fr, Value.string md, Value.string tw, Value.pointer (some ⟨g, 0, none⟩), undef, u10, Value.slice ra nl rc, Value.int IntKind.i64 ((i : Nat) : Int), Value.pointer (some ⟨P, 0, none⟩), Value.pointer (some ⟨P + 1, 0, none⟩), undef, .pointer (some ⟨A, 0, none⟩), undef, Value.pointer (some ⟨w.heap.size, 0, none⟩), Value.string fr, Value.pointer (some ⟨w.heap.size, 1, none⟩), Value.string md, Value.pointer (some ⟨w.heap.size, 2, none⟩), Value.string tw, Value.pointer (some ⟨g, 0, none⟩), Value.bool true, Value.bool false, Value.bool false, Value.pointer (some ⟨g, 0, none⟩), Value.bool false, Value.bool false, Value.slice ca k cc, Value.int IntKind.i64 ((k : Nat) : Int), Value.int IntKind.i64 ((k : Nat) : Int), Value.bool false, u35, u36, u37, u38, u39, u40, Value.pointer (some ⟨g, 0, none⟩), Value.slice ra nl rc, Value.int IntKind.i64 ((i : Nat) : Int), Value.slice ra nl rc, Value.int IntKind.i64 ((nl : Nat) : Int), Value.bool false, u47, u48, u49, u50, u51, u52, u53, u54, u55, u56, u57, u58, u59, Value.string fr, Value.string md, Value.bool false, Value.bool false, Value.string md, Value.bool false, Value.bool false, Value.bool false, Value.string tw, Value.bool true, Value.bool true, Value.string md, Value.string tw, Value.bool false, Value.bool false, Value.bool false, Value.pointer (some ⟨g, 0, none⟩), Value.string fr, Value.string md, Value.func (Fn.func 40) #[] #[Value.pointer (some ⟨P + 1 + 1, 0, none⟩), Value.pointer (some ⟨P + 1 + 1 + 1, 0, none⟩), Value.pointer (some ⟨P + 1 + 1 + 1 + 1, 0, none⟩)], undef, undef, undef, undef, undef, Value.pointer (some ⟨g, 0, none⟩), Value.string md, Value.string tw, Value.func (Fn.func 40) #[] #[Value.pointer (some ⟨X2, 0, none⟩), Value.pointer (some ⟨X2 + 1, 0, none⟩), Value.pointer (some ⟨X2 + 1 + 1, 0, none⟩)], clV c, undef, undef, undef, undef, undef, undef, undef, undef, undef, undef, undef, undef, undef, undef, undef, undef], defers := [] }) ?assign ?body ?done ?stop
            case assign =>
              intro lp c W K hK
              simp only [clV]
              gi_wp2
              exact hK
            case body =>
              rintro lp M pre c A W hzM hMA hA hI hlen'
              obtain ⟨⟨⟨v, hv, hr, hm⟩, hbel, hsiz⟩, hkept, hgrow⟩ := hI
              obtain ⟨va, vc, rfl⟩ := row_form4 hr
              have hlen0 := HLN2.out ()
              obtain ⟨nL, hnL⟩ : ∃ nL, (scanL fr md s.E ++ pre).length = nL := ⟨_, rfl⟩
              have hnl : nL ≤ 4000000 := by rw [← hnL]; rw [List.length_append]; omega
              rw [hnL] at hr hv hm
              have c5 : W.cell? ⟨P, 0, none⟩ = some (.slice va nL vc) := hv.cell
              have k0 : W.cell? ⟨A, 0, none⟩ = some (.string c.key) := cell_of_block hA rfl
              have k1 : W.cell? ⟨A, 1, none⟩ = some (.int .u64 ((c.seq : Nat) : Int)) := cell_of_block hA rfl
              have k2 : W.cell? ⟨A, 2, none⟩ = some (.string c.val) := cell_of_block hA rfl
              have k3 : W.cell? ⟨A, 3, none⟩ = some (.bool c.gone) := cell_of_block hA rfl
              have HRX : Hid ((W.alloc (.cells #[.string c.key, .int .u64 ((c.seq : Nat) : Int), .string c.val, .bool c.gone] 33)).ownsRow w.heap.size 33 4 (.slice va nL vc) nL (flC (scanL fr md s.E ++ pre))) := World.ownsRow.alloc hr _
              have HNC : Hid (∀ j u, [Value.string c.key, .int .u64 ((c.seq : Nat) : Int), .string c.val, .bool c.gone][j]? = some u → (W.alloc (.cells #[.string c.key, .int .u64 ((c.seq : Nat) : Int), .string c.val, .bool c.gone] 33)).cell? ((⟨W.heap.size, 0, none⟩ : Addr).add j) = some u) := fun j u hj => by
                rw [addr_addC]
                exact cell_of_block (o := 0 + j) (block_alloc_at _ _) (by rw [Nat.zero_add]; simpa using hj)
              have HST : Hid (∀ w3 v2, w3.ownsRow w.heap.size 33 4 v2 (nL + 1) (flC (scanL fr md s.E ++ pre) ++ [Value.string c.key, .int .u64 ((c.seq : Nat) : Int), .string c.val, .bool c.gone]) → (W.alloc (.cells #[.string c.key, .int .u64 ((c.seq : Nat) : Int), .string c.val, .bool c.gone] 33)).grownBy w3 (Value.slice va nL vc).ownBlock → (v2.ownBlock = (Value.slice va nL vc).ownBlock ∨ v2.ownBlock = some (W.alloc (.cells #[.string c.key, .int .u64 ((c.seq : Nat) : Int), .string c.val, .bool c.gone] 33)).heap.size) → _) := fun w3 v2 q1 q2 q3 =>
                colM_step (s := w.heap.size) (c := c) (Nat.le_refl _) (by omega) (by omega) HTO2.out (fun q hq => by have := HOL2.out q hq; omega) hnL hzM hsiz hv hr hm hbel ((Below.refl _ W).alloc (Nat.le_refl _) _) q1 q2 q3
              have hsW : w.heap.size ≤ (W.alloc (.cells #[.string c.key, .int .u64 ((c.seq : Nat) : Int), .string c.val, .bool c.gone] 33)).heap.size := by have := hbel.size; simp; omega
              have hb2 : (nL + 1) * 48 ≤ 140737488355328 := by omega
              have hb1 : nL + 1 ≤ maxLen := by unfold maxLen; omega
              have HKE : Hid (∀ q, (fun q => obS g b X2 q ∨ q = P + 1 ∨ q = D1) q → W.heap[q]? = V2.heap[q]?) := hkept
              have HGR : Hid (V2.heap.size ≤ W.heap.size) := hgrow
              clear hv hr hm hbel hA hMA hsiz hlen' hlen0 hnl hkept hgrow hvs2
              gi_wp2_with (gi_at_builtin; refine wpListIn_append_own_at _ rfl _ _ 27 rfl w.heap.size 33 i0 (.agg #[.string ByteArray.empty, .int .u64 0, .string ByteArray.empty, .bool false]) 4 48 Try.underlying27 hi hz0 hz1 hz2 rfl (by decide) _ _ _ rfl HRX.out ⟨W.heap.size, 0, none⟩ 1 1 [.string c.key, .int .u64 ((c.seq : Nat) : Int), .string c.val, .bool c.gone] rfl rfl HNC.out (by simp [Value.oneCell']) hb1 hb2 hsW ?_; intro v2 w3 hown2 hg2 _ hat2; obtain ⟨a2, c2', rfl, z5, f5, HE⟩ := HST.out w3 v2 hown2 hg2 hat2; clear hown2 hg2 hat2)
              have hfi := coI_step HKE.out HGR.out (ob' := obS g b X2) (fun q hq => Or.inl hq) HE.out V2.heap.size
              rw [List.append_assoc] at hfi
              exact hfi
            case stop => exact fun _ _ _ _ _ _ _ _ h => h.elim
            case done =>
              rintro D2 M2 xs2 Wd2 hD2 hzM2 hxs2 ⟨⟨⟨v2, hvd2, hrd2, hmd2⟩, hbd2, _⟩, hkd2, hgd2⟩ hK2
              rw [hxs2] at hrd2
              have hvs2 := HVS2.out
              clear hzM2 hmd2 hxs2
              have HMd2 : Hid (MA B Wd2 g b cap s) := HM2.out.eq (hkd2 g (.inl (.inl rfl))) (hkd2 b (.inl (.inr (.inl rfl))))
              have hvq2 : Boxed Wd2 (P + 1) 27 (.slice none 0 0) := (hkd2 (P + 1) (.inr (.inl rfl))).trans HQ2.out.1
              have hmk1 : Wd2.heap[D1]? = some (.deferred (some [])) := (hkd2 D1 (.inr (.inr rfl))).trans HQ2.out.2
              have hd2V : D2 < Wd2.heap.size := (Array.getElem?_eq_some_iff.1 hK2).1
              obtain ⟨X3, hX3⟩ : ∃ X, Wd2.heap.size = X := ⟨_, rfl⟩
              have HX3 : Hid (Wd2.heap.size = X3) := hX3
              have HBd2 : Hid (Below w.heap.size w Wd2) := hbd2
              have HVd2 : Hid (Boxed Wd2 P 27 v2 ∧ Boxed Wd2 (P + 1) 27 (.slice none 0 0)) := ⟨hvd2, hvq2⟩
              have HRd2 : Hid (Wd2.ownsRow w.heap.size 33 4 v2 (scanL fr md s.E ++ scanL md tw s.E).length (flC (scanL fr md s.E ++ scanL md tw s.E))) := hrd2
              have HKd2 : Hid (Wd2.heap[D2]? = some (.deferred (some [])) ∧ Wd2.heap[D1]? = some (.deferred (some []))) := ⟨hK2, hmk1⟩
              have HDs2 : Hid (P + 5 ≤ D1 ∧ D1 < D2 ∧ D2 < X3 ∧ P + 5 ≤ X3 ∧ w.heap.size ≤ P ∧ g < P ∧ b < P) := ⟨by omega, by omega, by omega, by omega, hPw, hgp⟩
              clear hkd2 hvd2 hrd2 hbd2 hK2 hvq2 hmk1 hd2V hX3 hgd2 hv2 hV2x hV2y hV2z hvs2 hml2 hD2 hPw hgp hX2 hda hdb hdc HC2 HR2 HBV2 HQ2
              go_wp2_with fail
              refine (scan_any (some ⟨g, 0, none⟩) fr tw _).mono ?_
              rintro e V3 ⟨rfl, hV3⟩
              obtain ⟨hV3b, hV3x, hV3y, hV3z, hV3s⟩ := three_new Wd2 (some ⟨g, 0, none⟩) fr tw V3 hV3
              have hX3 := HX3.out
              rw [hX3] at hV3x hV3y hV3z hV3s
              rw [hX3]
              obtain ⟨hda, hdb, hdc, hdd, hPw, hgp⟩ := HDs2.out
              have HVS3 : Hid (V3.heap.size = X3 + 3) := hV3s
              have HM3 : Hid (MA B V3 g b cap s) := HMd2.out.below hV3b
              have hv3p : Boxed V3 P 27 v2 := (hV3b.block _ (by omega)).trans HVd2.out.1
              have hv3 : Boxed V3 (P + 1) 27 (.slice none 0 0) := (hV3b.block _ (by omega)).trans HVd2.out.2
              have hm3 : V3.heap[D2]? = some (.deferred (some [])) ∧ V3.heap[D1]? = some (.deferred (some [])) := ⟨(hV3b.block _ (by omega)).trans HKd2.out.1, (hV3b.block _ (by omega)).trans HKd2.out.2⟩
              have hr3 : V3.ownsRow w.heap.size 33 4 v2 (scanL fr md s.E ++ scanL md tw s.E).length (flC (scanL fr md s.E ++ scanL md tw s.E)) := owns_same HRd2.out (fun q hq => hV3b.block q (HRd2.out.lt q hq).2)
              have hbv3 : Below w.heap.size w V3 := HBd2.out.trans (hV3b.mono HBd2.out.size)
              have HRL3 : Hid (∀ q, v2.ownBlock = some q → q < V3.heap.size ∧ q ≠ P + 1) := fun q hq => ⟨(hr3.lt q hq).2, row_not hr3 hv3 (fun c f e => by simp at e) q hq⟩
              have HR3 : Hid _ := hr3
              have HBV3 : Hid _ := hbv3
              have HQ3 : Hid (Boxed V3 P 27 v2 ∧ V3.heap[D2]? = some (.deferred (some [])) ∧ V3.heap[D1]? = some (.deferred (some []))) := ⟨hv3p, hm3⟩
              have HLN3 : Hid (∀ _ : Unit, s.E.length ≤ 2000000 ∧ ([] : List Cl).length ≤ 2000000) := fun _ => ⟨HLE.out, by decide⟩
              clear hV3s hV3 hV3b hr3 hbv3 hv3p hm3 HRd2 HVd2 HKd2 HMd2 HBd2 HLN2
              go_wp2_with fail
              have hvs3 := HVS3.out
              have HOL3 : Hid (∀ q, (fun q => obS g b X3 q ∨ q = P ∨ q = D1 ∨ q = D2 ∨ v2.ownBlock = some q) q → q < V3.heap.size) := fun q hq => by
                simp only at hq
                rcases hq with hq | rfl | rfl | rfl | hq
                · exact obS_lt HM3.out (by omega) q hq
                · omega
                · omega
                · omega
                · exact (HRL3.out q hq).1
              have HTO3 : Hid (¬ (fun q => obS g b X3 q ∨ q = P ∨ q = D1 ∨ q = D2 ∨ v2.ownBlock = some q) (P + 1)) := by rw [Hid]; unfold obS; simp only; have h0 := fun h => (HRL3.out (P + 1) h).2 rfl; intro hq; rcases hq with hq | hq | hq | hq | hq <;> first | omega | exact h0 hq
              have hml3 := HM3.out.lt
              refine (wpIn_wide (n := 8)).1 ?_
              refine wpIn_rangeFunc_MB rfl (by omega) (gf := 40) (lb := #[.pointer (some ⟨X3, 0, none⟩), .pointer (some ⟨X3 + 1, 0, none⟩), .pointer (some ⟨X3 + 1 + 1, 0, none⟩)]) rfl trivial (enters_of Try.func40 (by kernel_rfl) rfl)
                (scan_seq (8 - 1) B g b cap s X3 fr tw V3 HM3.out hV3x.cell hV3y.cell hV3z.cell (by omega)) (fun q hq => HOL3.out q (.inl hq)) (Below.refl _ _) (fun _ => rfl)
                (fun M pre W => CoI w.heap.size w (P + 1) (V3.heap.size + 2) M (fun q => obS g b X3 q ∨ q = P ∨ q = D1 ∨ q = D2 ∨ v2.ownBlock = some q) pre V3 W) (fun _ _ _ _ => False)
                (fun M => coI_own (s := w.heap.size) (W0 := V3) (L := fun l => l) (Nat.le_refl _) (by omega) HOL3.out) (fun _ _ _ _ _ _ h _ _ => h)
                (fun W0 hb0 hM0 => ⟨⟨⟨.slice none 0 0, (hb0.block ((P + 1)) (by have := HVS3.out; omega)).trans hv3, World.ownsRow_nil _ _ _ _, fun g h => by cases h⟩, HBV3.out.trans (hb0.mono HBV3.out.size), Nat.le_refl _⟩, fun q hq => hb0.block q (HOL3.out q hq), hb0.size⟩)
                (fun c : Cl => .cells #[.string c.key, .int .u64 ((c.seq : Nat) : Int), .string c.val, .bool c.gone] 33)
                (fun c A => { tmps := #[Value.slice ca k cc, Value.agg #[Value.string fr, Value.string md, Value.string tw], undef, Value.pointer (some ⟨w.heap.size, 0, none⟩), u4, Value.string fr, Value.string md, Value.string tw, Value.pointer (some ⟨g, 0, none⟩), undef, u10, Value.slice ra nl rc, Value.int IntKind.i64 ((i : Nat) : Int), Value.pointer (some ⟨P, 0, none⟩), Value.pointer (some ⟨P + 1, 0, none⟩), undef, undef, .pointer (some ⟨A, 0, none⟩), Value.pointer (some ⟨w.heap.size, 0, none⟩), Value.string fr, Value.pointer (some ⟨w.heap.size, 1, none⟩), Value.string md, Value.pointer (some ⟨w.heap.size, 2, none⟩), Value.string tw, Value.pointer (some ⟨g, 0, none⟩), Value.bool true, Value.bool false, Value.bool false, Value.pointer (some ⟨g, 0, none⟩), Value.bool false, Value.bool false, Value.slice ca k cc, Value.int IntKind.i64 ((k : Nat) : Int), Value.int IntKind.i64 ((k : Nat) : Int), Value.bool false, u35, u36, u37, u38, u39, u40, Value.pointer (some ⟨g, 0, none⟩), Value.slice ra nl rc, Value.int IntKind.i64 ((i : Nat) : Int), Value.slice ra nl rc, Value.int IntKind.i64 ((nl : Nat) : Int), Value.bool false, u47, u48, u49, u50, u51, u52, u53, u54, u55, u56, u57, u58, u59, Value.string fr, Value.string md, Value.bool false, Value.bool false, Value.string md, Value.bool false, Value.bool false, Value.bool false, Value.string tw, Value.bool true, Value.bool true, Value.string md, Value.string tw, Value.bool false, Value.bool false, Value.bool false, Value.pointer (some ⟨g, 0, none⟩), Value.string fr, Value.string md, Value.func (Fn.func 40) #[] #[Value.pointer (some ⟨P + 1 + 1, 0, none⟩), Value.pointer (some ⟨P + 1 + 1 + 1, 0, none⟩), Value.pointer (some ⟨P + 1 + 1 + 1 + 1, 0, none⟩)], undef, undef, undef, undef, undef, Value.pointer (some ⟨g, 0, none⟩), Value.string md, Value.string tw, Value.func (Fn.func 40) #[] #[Value.pointer (some ⟨X2, 0, none⟩), Value.pointer (some ⟨X2 + 1, 0, none⟩), Value.pointer (some ⟨X2 + 1 + 1, 0, none⟩)], undef, undef, undef, undef, undef, Value.pointer (some ⟨g, 0, none⟩), Value.string fr, Value.string tw, Value.func (Fn.func 40) #[] #[Value.pointer (some ⟨X3, 0, none⟩), Value.pointer (some ⟨X3 + 1, 0, none⟩), Value.pointer (some ⟨X3 + 1 + 1, 0, none⟩)], clV c, undef, undef, undef, undef, undef, undef, undef], defers := [] }) ?assign ?body ?done ?stop
              case assign =>
                intro lp c W K hK
                simp only [clV]
                gi_wp2
                exact hK
              case body =>
                rintro lp M pre c A W hzM hMA hA hI hlen'
                obtain ⟨⟨⟨v, hv, hr, hm⟩, hbel, hsiz⟩, hkept, hgrow⟩ := hI
                obtain ⟨va, vc, rfl⟩ := row_form4 hr
                have hlen0 := HLN3.out ()
                obtain ⟨nL, hnL⟩ : ∃ nL, pre.length = nL := ⟨_, rfl⟩
                have hnl : nL ≤ 4000000 := by rw [← hnL]; omega
                rw [hnL] at hr hv hm
                have c5 : W.cell? ⟨(P + 1), 0, none⟩ = some (.slice va nL vc) := hv.cell
                have k0 : W.cell? ⟨A, 0, none⟩ = some (.string c.key) := cell_of_block hA rfl
                have k1 : W.cell? ⟨A, 1, none⟩ = some (.int .u64 ((c.seq : Nat) : Int)) := cell_of_block hA rfl
                have k2 : W.cell? ⟨A, 2, none⟩ = some (.string c.val) := cell_of_block hA rfl
                have k3 : W.cell? ⟨A, 3, none⟩ = some (.bool c.gone) := cell_of_block hA rfl
                have HRX : Hid ((W.alloc (.cells #[.string c.key, .int .u64 ((c.seq : Nat) : Int), .string c.val, .bool c.gone] 33)).ownsRow w.heap.size 33 4 (.slice va nL vc) nL (flC pre)) := World.ownsRow.alloc hr _
                have HNC : Hid (∀ j u, [Value.string c.key, .int .u64 ((c.seq : Nat) : Int), .string c.val, .bool c.gone][j]? = some u → (W.alloc (.cells #[.string c.key, .int .u64 ((c.seq : Nat) : Int), .string c.val, .bool c.gone] 33)).cell? ((⟨W.heap.size, 0, none⟩ : Addr).add j) = some u) := fun j u hj => by
                  rw [addr_addC]
                  exact cell_of_block (o := 0 + j) (block_alloc_at _ _) (by rw [Nat.zero_add]; simpa using hj)
                have HST : Hid (∀ w3 v2, w3.ownsRow w.heap.size 33 4 v2 (nL + 1) (flC pre ++ [Value.string c.key, .int .u64 ((c.seq : Nat) : Int), .string c.val, .bool c.gone]) → (W.alloc (.cells #[.string c.key, .int .u64 ((c.seq : Nat) : Int), .string c.val, .bool c.gone] 33)).grownBy w3 (Value.slice va nL vc).ownBlock → (v2.ownBlock = (Value.slice va nL vc).ownBlock ∨ v2.ownBlock = some (W.alloc (.cells #[.string c.key, .int .u64 ((c.seq : Nat) : Int), .string c.val, .bool c.gone] 33)).heap.size) → _) := fun w3 v2 q1 q2 q3 =>
                  colM_step (s := w.heap.size) (c := c) (Nat.le_refl _) (by omega) (by omega) HTO3.out (fun q hq => by have := HOL3.out q hq; omega) hnL hzM hsiz hv hr hm hbel ((Below.refl _ W).alloc (Nat.le_refl _) _) q1 q2 q3
                have hsW : w.heap.size ≤ (W.alloc (.cells #[.string c.key, .int .u64 ((c.seq : Nat) : Int), .string c.val, .bool c.gone] 33)).heap.size := by have := hbel.size; simp; omega
                have hb2 : (nL + 1) * 48 ≤ 140737488355328 := by omega
                have hb1 : nL + 1 ≤ maxLen := by unfold maxLen; omega
                have HKE : Hid (∀ q, (fun q => obS g b X3 q ∨ q = P ∨ q = D1 ∨ q = D2 ∨ v2.ownBlock = some q) q → W.heap[q]? = V3.heap[q]?) := hkept
                have HGR : Hid (V3.heap.size ≤ W.heap.size) := hgrow
                clear hv hr hm hbel hA hMA hsiz hlen' hlen0 hnl hkept hgrow hvs3
                gi_wp2_with (gi_at_builtin; refine wpListIn_append_own_at _ rfl _ _ 27 rfl w.heap.size 33 i0 (.agg #[.string ByteArray.empty, .int .u64 0, .string ByteArray.empty, .bool false]) 4 48 Try.underlying27 hi hz0 hz1 hz2 rfl (by decide) _ _ _ rfl HRX.out ⟨W.heap.size, 0, none⟩ 1 1 [.string c.key, .int .u64 ((c.seq : Nat) : Int), .string c.val, .bool c.gone] rfl rfl HNC.out (by simp [Value.oneCell']) hb1 hb2 hsW ?_; intro v2 w3 hown2 hg2 _ hat2; obtain ⟨a2, c2', rfl, z5, f5, HE⟩ := HST.out w3 v2 hown2 hg2 hat2; clear hown2 hg2 hat2)
                have hfi := coI_step HKE.out HGR.out (ob' := obS g b X3) (fun q hq => Or.inl hq) HE.out V3.heap.size
                exact hfi
              case stop => exact fun _ _ _ _ _ _ _ _ h => h.elim
              case done =>
                rintro D3 M3 xs3 Wd3 hD3 hzM3 hxs3 ⟨⟨⟨v3, hvd3, hrd3, hmd3⟩, hbd3, _⟩, hkd3, hgd3⟩ hK3
                rw [hxs3] at hrd3
                have hvs3 := HVS3.out
                clear hzM3 hmd3 hxs3
                have HSJ2 := HSJ.out
                have hvp3 : Boxed Wd3 P 27 v2 := (hkd3 P (.inr (.inl rfl))).trans HQ3.out.1
                have hmk1 : Wd3.heap[D1]? = some (.deferred (some [])) := (hkd3 D1 (.inr (.inr (.inl rfl)))).trans HQ3.out.2.2
                have hmk2 : Wd3.heap[D2]? = some (.deferred (some [])) := (hkd3 D2 (.inr (.inr (.inr (.inl rfl))))).trans HQ3.out.2.1
                have hrp : Wd3.ownsRow w.heap.size 33 4 v2 (scanL fr tw s.E).length (flC (scanL fr tw s.E)) := by
                  rw [← HSJ2]
                  exact owns_same HR3.out (fun q hq => hkd3 q (.inr (.inr (.inr (.inr hq)))))
                have hrq : Wd3.ownsRow w.heap.size 33 4 v3 (scanL fr tw s.E).length (flC (scanL fr tw s.E)) := hrd3
                have hll : (scanL fr tw s.E).length < 1000000000000000 := by have := scan_len HM3.out.rep fr tw; have := HLE.out; omega
                obtain ⟨LL, hLL⟩ : ∃ LL, scanL fr tw s.E = LL := ⟨_, rfl⟩
                rw [hLL] at hrp hrq hll
                obtain ⟨pa, pc, rfl, _, hpa⟩ := ca_row hrp
                obtain ⟨qa, qc, rfl, _, hqa⟩ := ca_row hrq
                have cP : Wd3.cell? ⟨P, 0, none⟩ = some (.slice pa LL.length pc) := hvp3.cell
                have cQ : Wd3.cell? ⟨P + 1, 0, none⟩ = some (.slice qa LL.length qc) := hvd3.cell
                have HSM : Hid (∀ _ : Unit, _) := fun _ => same_eq pa qa LL.length pc qc LL Wd3 hpa hqa rfl hll
                have hd3V : D3 < Wd3.heap.size := (Array.getElem?_eq_some_iff.1 hK3).1
                have HBd3 : Hid (Below w.heap.size w Wd3) := hbd3
                have HKd3 : Hid (Wd3.heap[D3]? = some (.deferred (some [])) ∧ Wd3.heap[D2]? = some (.deferred (some [])) ∧ Wd3.heap[D1]? = some (.deferred (some []))) := ⟨hK3, hmk2, hmk1⟩
                have HDs3 : Hid (D1 ≠ D2 ∧ D1 ≠ D3 ∧ D2 ≠ D3 ∧ w.heap.size ≤ D1 ∧ w.heap.size ≤ D2 ∧ w.heap.size ≤ D3) := ⟨by omega, by omega, by omega, by omega, by omega, by omega⟩
                clear hkd3 hvd3 hrd3 hbd3 hK3 hvp3 hmk1 hmk2 hrp hrq hll hLL hpa hqa hd3V hgd3 hv3 hV3x hV3y hV3z hvs3 hml3 hD3 hPw hgp hX3 hda hdb hdc hdd HSJ2
                go_wp2_with fail
                refine (HSM.out ()).mono ?_
                rintro e w9 ⟨rfl, nq9, rfl⟩
                clear cP cQ
                go_wp2_with fail
                refine leaves_marks [D3, D2, D1] _ (by have := HDs3.out; simp; omega) (fun D' hD' => ?_) (fun w' e0 e1 e2 => ?_)
                · simp only [List.mem_cons, List.not_mem_nil, or_false] at hD'
                  rcases hD' with rfl | rfl | rfl
                  · exact HKd3.out.1
                  · exact HKd3.out.2.1
                  · exact HKd3.out.2.2
                · refine ⟨_, results_tmp rfl _ _ _, rfl, HBd3.out.trans ⟨e0.1, e0.2.1, e0.2.2, by rw [e1]; exact Nat.le_refl _, fun q hq => e2 q (fun hD' => ?_)⟩⟩
                  have := HDs3.out
                  simp only [List.mem_cons, List.not_mem_nil, or_false] at hD'
                  omega
end Go.Proofs.Ytdgmjmohfpjlnaa
