/-
  MergeUnseen's walk over a list in order.
-/
import Derived.Test.YtohamjoiohfoiaaMUns
namespace Go.Proofs.Ytohamjoiohfoiaa
open Go.RowKit
set_option maxRecDepth 100000 in
set_option maxHeartbeats 8000000 in
theorem muns_sorted (a : Option Addr) (m cp o sq : Nat) (bt : Bool) (l : List Cl) (w : World) (hca : CA w.heap.size w a l) (hl : l.length = m) (hm : m ≤ cp) (hmx : m * 48 ≤ 140737488355328) (hs : sortedC l = true) :
    Calls Try.prog 8 #[.slice a m cp, .agg #[.int .u64 (o : Nat), .int .u64 (sq : Nat)], .bool bt] w fun r w' => r = .returned (.bool true) ∧ Below w.heap.size w w' := by
  obtain ⟨d, hd⟩ : ∃ d, drpA l o bt = d := ⟨_, rfl⟩
  obtain ⟨nd, hnd⟩ : ∃ nd, d.length = nd := ⟨_, rfl⟩
  have hndm : nd ≤ m := by have := drpA_len l o bt; rw [hd, hnd, hl] at this; exact this
  have hds : sortedC d = true := by rw [← hd]; exact drpA_sorted hs o bt
  have hdd : drpA d o bt = d := by rw [← hd]; exact drpA_again hs o bt
  have HSB : Hid (List.Sublist d l) := by rw [← hd]; exact drpA_sub hs o bt
  obtain ⟨s, hsq⟩ : ∃ s, s = if sq < o then o else sq := ⟨_, rfl⟩
  have hos : o ≤ s := by rw [hsq]; split <;> omega
  have hvs : visA d s = visA l s := by rw [← hd]; exact drpA_seen hs o s bt hos
  obtain ⟨nv, hnv⟩ : ∃ nv, (visA l s).length = nv := ⟨_, rfl⟩
  have hnvm : nv ≤ m := by have := visA_len l s; rw [hnv, hl] at this; exact this
  have HCA : Hid (∀ V, Below w.heap.size w V → CA V.heap.size V a l) := fun V hV => (hca.below (fun b hb => hV.block b hb)).up hV.size
  have HL : Hid (l.length = m) := hl
  have HND : Hid (d.length = nd) := hnd
  have HAW : Hid (∀ V, Below w.heap.size w V → Calls Try.prog 9 #[] V fun r w' => r = .returned (.bool true) ∧ Below w.heap.size w w') := fun V hV => Calls.mono (awake_any V) (by rintro r w' ⟨rfl, b⟩; exact ⟨rfl, hV.trans (b.mono hV.size)⟩)
  have H13 : Hid (∀ V, Below w.heap.size w V → Calls Try.prog 13 #[.slice a m cp] V fun r w' => r = .returned (.bool true) ∧ Below w.heap.size w w') := fun V hV => Calls.mono (rsorted_any V.heap.size m cp a l V (HCA.out V hV) hl (Nat.le_refl _) (by omega)) (by rintro r w' ⟨rfl, b⟩; rw [hs]; exact ⟨rfl, hV.trans (b.mono hV.size)⟩)
  have H21 : Hid (∀ V, Below w.heap.size w V → Calls Try.prog 21 #[.slice a m cp, .int .u64 (o : Nat), .bool bt] V fun r w' => ∃ xa xc, r = .returned (.slice xa nd xc) ∧ nd ≤ xc ∧ CA w'.heap.size w' xa d ∧ Below w.heap.size w w') := fun V hV => Calls.mono (drop_ca a m cp o bt l V (HCA.out V hV) hl hm hmx) (by rintro r w' ⟨xa, xc, rfl, h, hc, b⟩; rw [hd, hnd] at *; exact ⟨xa, xc, rfl, h, hc, hV.trans (b.mono hV.size)⟩)
  have H12 : Hid (∀ V x c, CA V.heap.size V x d → Calls Try.prog 12 #[.slice x nd c] V fun r w' => r = .returned (.bool true) ∧ Below V.heap.size V w') := fun V x c hx => by have := sorted_any V.heap.size nd c x d V hx hnd (Nat.le_refl _) (by omega); rw [hds] at this; exact this
  have K21 : Hid (∀ V x c, CA V.heap.size V x d → nd ≤ c → Calls Try.prog 21 #[.slice x nd c, .int .u64 (o : Nat), .bool bt] V fun r w' => ∃ xa xc, r = .returned (.slice xa nd xc) ∧ CA w'.heap.size w' xa d ∧ Below V.heap.size V w') := fun V x c hx hc => Calls.mono (drop_ca x nd c o bt d V hx hnd hc (by omega)) (by rintro r w' ⟨xa, xc, rfl, h, hc, b⟩; rw [hdd, hnd] at *; exact ⟨xa, xc, rfl, hc, b⟩)
  have K19 : Hid (∀ V x c, CA V.heap.size V x d → nd ≤ c → Calls Try.prog 19 #[.slice x nd c, .int .u64 (s : Nat)] V fun r w' => ∃ xa xc, r = .returned (.slice xa nv xc) ∧ CA w'.heap.size w' xa (visA l s) ∧ Below V.heap.size V w') := fun V x c hx hc => Calls.mono (visible_ca x nd c s d V hx hnd hc (by omega)) (by rintro r w' ⟨xa, xc, rfl, hc, b⟩; rw [hvs, hnv] at *; exact ⟨xa, xc, rfl, hc, b⟩)
  have H19 : Hid (∀ V, Below w.heap.size w V → Calls Try.prog 19 #[.slice a m cp, .int .u64 (s : Nat)] V fun r w' => ∃ xa xc, r = .returned (.slice xa nv xc) ∧ CA w'.heap.size w' xa (visA l s) ∧ Below V.heap.size V w') := fun V hV => Calls.mono (visible_ca a m cp s l V (HCA.out V hV) hl hm hmx) (by rintro r w' ⟨xa, xc, rfl, hc, b⟩; rw [hnv] at *; exact ⟨xa, xc, rfl, hc, b⟩)
  have S1 : Hid (∀ V x y cx cy, CA V.heap.size V x d → CA V.heap.size V y d → Calls Try.prog 16 #[.slice x nd cx, .slice y nd cy] V fun r w' => r = .returned (.bool true) ∧ Below V.heap.size V w') := fun V x y cx cy hx hy => same_ca V x y cx cy nd d hx hy hnd (by omega)
  have S2 : Hid (∀ V x y cx cy, CA V.heap.size V x (visA l s) → CA V.heap.size V y (visA l s) → Calls Try.prog 16 #[.slice x nv cx, .slice y nv cy] V fun r w' => r = .returned (.bool true) ∧ Below V.heap.size V w') := fun V x y cx cy hx hy => same_ca V x y cx cy nv _ hx hy hnv (by omega)
  have HB0 : Hid (Below w.heap.size w (w.alloc (.cells #[.int .u64 (o : Nat), .int .u64 (sq : Nat)] 45))) := (Below.refl _ w).alloc (Nat.le_refl _) _
  have HUP : Hid (∀ (L : List Cl) (A B : World) x, CA A.heap.size A x L → Below A.heap.size A B → CA B.heap.size B x L) := fun L A B x h k => (h.below (fun b hb => k.block b hb)).up k.size
  have hmb : m < 1000000000000000 := by omega
  have hngt : decide (m < nd) = false := decide_eq_false (by omega)
  have hngt2 : decide ((m : Int) < (nd : Int)) = false := decide_eq_false (by omega)
  have hcase : (decide (sq < o) = true ∧ s = o) ∨ (decide (sq < o) = false ∧ s = sq) := by
    by_cases h : sq < o
    · exact Or.inl ⟨decide_eq_true h, by rw [hsq, if_pos h]⟩
    · exact Or.inr ⟨decide_eq_false h, by rw [hsq, if_neg h]⟩
  clear hca hl hs hmx hd hnd hds hdd hvs hnv hsq hm hos
  rcases hcase with ⟨hlt, hse⟩ | ⟨hlt, hse⟩
  all_goals
    replace hse := hse.symm
    subst hse
  all_goals
    go_enter Try.func8, Try.ntmps8
    go_wp2_with fail
    go_quiet (fail)
    have HB1 : Hid (Below w.heap.size w ((w.alloc (.cells #[.int .u64 (o : Nat), .int .u64 (sq : Nat)] 45)).drewN nq)) := HB0.out.trans ((belD _ nq).mono HB0.out.size)
    go_wp2_with (first
      | (go_at_call 9; refine Calls.mono (HAW.out _ HB1.out) ?_; rintro e w1 ⟨rfl, b1⟩; have HB2 : Hid _ := b1; clear b1 HB1)
      | (go_at_call 13; refine Calls.mono (H13.out _ HB2.out) ?_; rintro e w1 ⟨rfl, b1⟩; have HB3 : Hid _ := b1; clear b1 HB2)
      | (go_at_call 21; refine Calls.mono (K21.out w5 xa xc HX5.out hxc) ?_; rintro e w6 ⟨ya, yc, rfl, hy, b1⟩; have HY6 : Hid (CA w6.heap.size w6 ya d) := hy; have HX6 : Hid (CA w6.heap.size w6 xa d) := HUP.out d w5 w6 xa HX5.out b1; have HB6 : Hid (Below w.heap.size w w6) := HB5.out.trans (b1.mono HB5.out.size); clear b1 HX5 HB5 hy)
      | (go_at_call 21; refine Calls.mono (H21.out _ HB3.out) ?_; rintro e w4 ⟨xa, xc, rfl, hxc, hx, b1⟩; have HX : Hid (CA w4.heap.size w4 xa d) := hx; have HB4 : Hid (Below w.heap.size w w4) := b1; clear b1 hx HB3)
      | (go_at_call 12; refine Calls.mono (H12.out w4 xa xc HX.out) ?_; rintro e w5 ⟨rfl, b1⟩; have HX5 : Hid (CA w5.heap.size w5 xa d) := HUP.out d w4 w5 xa HX.out b1; have HB5 : Hid (Below w.heap.size w w5) := HB4.out.trans (b1.mono HB4.out.size); clear b1 HX HB4)
      | (go_at_call 16; refine Calls.mono (S1.out w6 ya xa yc xc HY6.out HX6.out) ?_; rintro e w7 ⟨rfl, b1⟩; have HX7 : Hid (∀ V, Below w7.heap.size w7 V → CA V.heap.size V xa d) := (fun V hV => HUP.out d w7 V xa (HUP.out d w6 w7 xa HX6.out b1) hV); have HB7 : Hid (Below w.heap.size w w7) := HB6.out.trans (b1.mono HB6.out.size); clear b1 HX6 HY6 HB6))
    go_loopw [10, 54] (fun iv kv wr => ∃ k ni : Nat, k ≤ m ∧ ni ≤ nd ∧ kv = .int .i64 (k : Nat) ∧ iv = .int .i64 (ni : Nat) ∧ Hid (List.Sublist (d.drop ni) (l.drop k)) ∧ Hid (Below w7.heap.size w7 wr)) (fun _ kv _ => m - (intOf kv).toNat)
    case atStart => exact ⟨0, 0, by omega, by omega, rfl, rfl, HSB.out, Below.refl _ _⟩
    case round =>
      obtain ⟨k, ni, hk, hni, rfl, rfl, HS, HB⟩ := hrel
      have HBW : Hid (Below w.heap.size w wr) := HB7.out.trans (HB.out.mono HB7.out.size)
      by_cases hkm : k < m
      · obtain ⟨c, hc⟩ : ∃ c, l[k]? = some c := ⟨l[k]'(by rw [HL.out]; exact hkm), List.getElem?_eq_getElem _⟩
        have HST : Hid _ := sub_step HS.out hc
        have hcw := HCA.out wr HBW.out
        obtain ⟨cb, co, rfl, _, c0, c1, c2, c3⟩ := hcw k c hc
        by_cases hnl : ni < nd
        · obtain ⟨x, hx⟩ : ∃ x, d[ni]? = some x := ⟨d[ni]'(by rw [HND.out]; exact hnl), List.getElem?_eq_getElem _⟩
          have hxw := HX7.out wr HB.out
          obtain ⟨xb, xo, rfl, _, x0, x1, x2, x3⟩ := hxw ni x hx
          have HXI : Hid (d[ni]? = some x) := hx
          have HDI : Hid (decide (ni < nd) = true) := decide_eq_true hnl
          have hcas := cl_cases x c
          have HNE : Hid (_ → x ≠ c) := cl_ne (x := x) (c := c)
          obtain ⟨W1, hW1⟩ : ∃ W1, W1 = wr.alloc (.cells #[.string c.key, .int .u64 (c.seq : Nat), .string c.val, .bool c.gone] 24) := ⟨_, rfl⟩
          have HW1 : Hid (Below wr.heap.size wr W1) := by rw [hW1]; exact (Below.refl _ wr).alloc (Nat.le_refl _) _
          have z0 : W1.cell? ⟨xb, xo + ni * 4, none⟩ = some (.string x.key) := cellUp HW1.out x0
          have z1 : W1.cell? ⟨xb, xo + ni * 4 + 1, none⟩ = some (.int .u64 (x.seq : Nat)) := cellUp HW1.out x1
          have z2 : W1.cell? ⟨xb, xo + ni * 4 + 2, none⟩ = some (.string x.val) := cellUp HW1.out x2
          have z3 : W1.cell? ⟨xb, xo + ni * 4 + 3, none⟩ = some (.bool x.gone) := cellUp HW1.out x3
          have hblk : W1.heap[wr.heap.size]? = some (.cells #[.string c.key, .int .u64 (c.seq : Nat), .string c.val, .bool c.gone] 24 (0, 0)) := by rw [hW1]; exact World.alloc_heap_new _ _
          have t0 : W1.cell? ⟨wr.heap.size, 0, none⟩ = some (.string c.key) := cells_of_block hblk 0
          have t1 : W1.cell? ⟨wr.heap.size, 1, none⟩ = some (.int .u64 (c.seq : Nat)) := cells_of_block hblk 1
          have t2 : W1.cell? ⟨wr.heap.size, 2, none⟩ = some (.string c.val) := cells_of_block hblk 2
          have t3 : W1.cell? ⟨wr.heap.size, 3, none⟩ = some (.bool c.gone) := cells_of_block hblk 3
          have HHW : Hid (W1 = wr.alloc (.cells #[.string c.key, .int .u64 (c.seq : Nat), .string c.val, .bool c.gone] 24)) := hW1
          have HBQ : Hid (∀ q, Below w7.heap.size w7 (W1.drewN q)) := fun q => (HB.out.trans (HW1.out.mono HB.out.size)).trans ((belD _ q).mono (HB.out.trans (HW1.out.mono HB.out.size)).size)
          clear hcw hxw hx hc hW1 hblk
          obtain ⟨ck, cs, cv, cg⟩ := c
          obtain ⟨xk, xs, xv, xg⟩ := x
          simp only at c0 c1 c2 c3 x0 x1 x2 x3 t0 t1 t2 t3 z0 z1 z2 z3 hcas HHW
          go_wp2_with fail
          rw [← HHW.out]
          clear HHW x0 x1 x2 x3 c0 c1 c2 c3
          rcases hcas with e1 | ⟨e1, e2⟩ | ⟨e1, e2, e3⟩ | ⟨e1, e2, e3, e4⟩ | hxc
          case' inr.inr.inr.inr => cases hxc
          case' inl => have HN : Hid _ := HNE.out (Or.inl e1)
          case' inr.inl => have HN : Hid _ := HNE.out (Or.inr (Or.inl ⟨e1, e2⟩))
          case' inr.inr.inl => have HN : Hid _ := HNE.out (Or.inr (Or.inr (Or.inl ⟨e1, e2, e3⟩)))
          case' inr.inr.inr.inl => have HN : Hid _ := HNE.out (Or.inr (Or.inr (Or.inr ⟨e1, e2, e3, e4⟩)))
          case' inr.inr.inr.inr => have HN : Hid True := trivial
          all_goals
            go_quiet (fail)
            go_wp2_with fail
            go_roundw
            case rel =>
              first
              | exact ⟨k + 1, ni, by omega, by omega, by go_num, rfl, HST.out.2 (fun y hy => by rw [HXI.out] at hy; cases hy; exact HN.out), HBQ.out _⟩
              | exact ⟨k + 1, ni + 1, by omega, by omega, by go_num, by go_num, HST.out.1 _ HXI.out rfl, HBQ.out _⟩
            case measure => simp [intOf]; omega
        · have hni2 : ni = nd := by omega
          have HBQ : Hid (∀ q, Below w7.heap.size w7 ((wr.alloc (.cells #[.string c.key, .int .u64 (c.seq : Nat), .string c.val, .bool c.gone] 24)).drewN q)) := fun q => (HB.out.trans (((Below.refl _ wr).alloc (Nat.le_refl _) _).mono HB.out.size)).trans ((belD _ q).mono (HB.out.trans (((Below.refl _ wr).alloc (Nat.le_refl _) _).mono HB.out.size)).size)
          have HDN : Hid (∀ x, d[ni]? = some x → x ≠ c) := fun x hx => by
            have := (List.getElem?_eq_some_iff.1 hx).1
            have := HND.out
            omega
          subst hni2
          clear hcw hc
          obtain ⟨ck, cs, cv, cg⟩ := c
          simp only at c0 c1 c2 c3
          have hdf : decide (ni < ni) = false := by simp
          go_wp2_with fail
          go_quiet (fail)
          go_wp2_with fail
          go_roundw
          case rel => exact ⟨k + 1, ni, by omega, by omega, by go_num, rfl, HST.out.2 HDN.out, HBQ.out _⟩
          case measure => simp [intOf]; omega
      · obtain rfl : k = m := by omega
        have HNI : Hid (ni = nd) := by
          have := sub_end (d := d) (l := l) (i := ni) (by have := HS.out; rw [← HL.out] at this; exact this) (by rw [HND.out]; exact hni)
          rw [HND.out] at this
          exact this
        obtain rfl : ni = nd := HNI.out
        have HXR := HX7.out wr HB.out
        have HXR' : Hid (CA wr.heap.size wr xa d) := HXR
        clear HXR HX7 HB7 HB HS HSB HNI
        go_wp2_with (first
          | (go_at_call 19; refine Calls.mono (H19.out w8 HBW8.out) ?_; rintro e w9 ⟨va, vc, rfl, hv, b1⟩; have HV9 : Hid (CA w9.heap.size w9 va _) := hv; have HU9 : Hid (CA w9.heap.size w9 ua _) := HUP.out _ w8 w9 ua HU8.out b1; have HB9 : Hid (Below w.heap.size w w9) := HBW8.out.trans (b1.mono HBW8.out.size); clear b1 hv HU8)
          | (go_at_call 19; refine Calls.mono (K19.out wr xa xc HXR'.out hxc) ?_; rintro e w8 ⟨ua, uc, rfl, hu, b1⟩; have HU8 : Hid (CA w8.heap.size w8 ua _) := hu; have HBW8 : Hid (Below w.heap.size w w8) := HBW.out.trans (b1.mono HBW.out.size); clear b1 hu)
          | (go_at_call 16; refine Calls.mono (S2.out w9 ua va uc vc HU9.out HV9.out) ?_; rintro e w10 ⟨rfl, b1⟩; have HB10 : Hid (Below w.heap.size w w10) := HB9.out.trans (b1.mono HB9.out.size); clear b1))
        go_ret
        exact ⟨rfl, HB10.out⟩
theorem muns_any (a : Option Addr) (m cp o sq : Nat) (bt : Bool) (l : List Cl) (w : World) (hca : CA w.heap.size w a l) (hl : l.length = m) (hm : m ≤ cp) (hmx : m * 48 ≤ 140737488355328) :
    Calls Try.prog 8 #[.slice a m cp, .agg #[.int .u64 (o : Nat), .int .u64 (sq : Nat)], .bool bt] w fun r w' => r = .returned (.bool true) ∧ Below w.heap.size w w' := by
  cases hs : sortedC l with
  | true => exact muns_sorted a m cp o sq bt l w hca hl hm hmx hs
  | false => exact muns_unsorted a m cp o sq bt l w hca hl hmx hs
end Go.Proofs.Ytohamjoiohfoiaa
