/-
  The contract of reply.
-/
import Derived.Test.YtdkbgbhcnbmlfaaDoorRep
import Derived.Deep.Cut
namespace Go.Proofs.YtdkbgbhcnbmlfaaDoor
open Go.RowKit
theorem results_cell1 {fn : Func} {p : Tmp} {ty : TypeId} (h : fn.results = #[.cell p ty]) (tmps : Array Value) (P : Program) (w : World) :
    (results fn tmps).run P w = ((asAddr (tmps.getD p undef)).run P w).andThen fun a w₁ => (loadVar ty a).run P w₁ := by
  simp only [results, h]
  simp [Sem.run_bind, Result.andThen]
theorem knd_len (f : Nat) (l : List UInt8) (e : Int) : (kndR f l e).2.1.length ≤ l.length := chs_len (kTx f) l e
theorem line_len (n : Nat) (l : List UInt8) (e : Int) : (lineR n l e).1.length ≤ l.length := Nat.le_trans (chs_len [crlf] (l.drop n) _) (by rw [List.length_drop]; omega)
theorem cook_len (l : List UInt8) (e : Int) : (cookR l e).2.1.length ≤ l.length := line_len _ l e
theorem sizG_len (typed : Bool) (l : List UInt8) (e : Int) : ∀ (q : List UInt8) (i n : Nat), (sizG typed l e q i n).2.1.length ≤ l.length
  | [], i, n => line_len i l e
  | c :: cs, i, n => by
    rw [sizG]
    split
    · split
      · exact Nat.le_refl _
      · exact sizG_len typed l e cs _ _
    · exact line_len i l e
theorem siz_len (typed : Bool) (l : List UInt8) (e : Int) : (sizR typed l e).2.1.length ≤ l.length := sizG_len typed l e l 0 0
theorem kind_l (b f : Nat) (l : List UInt8) (e : Int) (w : World) (h : RIs w b (mkB l) e) (hf : f ≤ 4) :
    Calls Tryd.prog 34 #[.pointer (some ⟨b, 0, none⟩), .int .i64 (f : Nat)] w fun r w' => r = .returned (.int .i64 ((kndR f l e).1 : Nat)) ∧ RIs w' b (mkB (kndR f l e).2.1) (kndR f l e).2.2 ∧ Keeps (fun k => k = b) w w' := by
  have := kind_any b f (mkB l) e w h hf
  rw [mkB_list] at this
  exact this
theorem size_l (b : Nat) (typed : Bool) (l : List UInt8) (e : Int) (w : World) (h : RIs w b (mkB l) e) (hs : l.length ≤ 140737488355328) :
    Calls Tryd.prog 35 #[.pointer (some ⟨b, 0, none⟩), .bool typed] w fun r w' => r = .returned (.int .i64 ((sizR typed l e).1 : Nat)) ∧ RIs w' b (mkB (sizR typed l e).2.1) (sizR typed l e).2.2 ∧ Keeps (fun k => k = b) w w' := by
  have := size_any b typed (mkB l) e w h (by rw [mkB_size]; exact hs)
  rw [mkB_list] at this
  exact this
theorem cookie_l (b : Nat) (l : List UInt8) (e : Int) (w : World) (h : RIs w b (mkB l) e) (hs : l.length ≤ 140737488355328) :
    Calls Tryd.prog 36 #[.pointer (some ⟨b, 0, none⟩)] w fun r w' => r = .returned (.string (mkB (cookR l e).1)) ∧ RIs w' b (mkB (cookR l e).2.1) (cookR l e).2.2 ∧ Keeps (fun k => k = b) w w' := by
  have := cookie_any b (mkB l) e w h (by rw [mkB_size]; exact hs)
  rw [mkB_list] at this
  exact this
theorem bytes_l (b n : Nat) (l : List UInt8) (e : Int) (w : World) (h : RIs w b (mkB l) e) :
    Calls Tryd.prog 37 #[.pointer (some ⟨b, 0, none⟩), .int .i64 (n : Nat)] w fun r w' => r = .returned (.string (mkB (bytesR n l e).1)) ∧ RIs w' b (mkB (bytesR n l e).2.1) (bytesR n l e).2.2 ∧ Keeps (fun k => k = b) w w' := by
  have := bytes_any b n (mkB l) e w h
  rw [mkB_list] at this
  exact this
theorem RIs.set_other {w : World} {b g i : Nat} {rest : ByteArray} {e : Int} (h : RIs w b rest e) (hg : b ≠ g) (v : Value) : RIs (w.setCell ⟨g, i, none⟩ v) b rest e := (Below.heap_setCell _ _ _ _ hg).trans h
theorem RpB.set_other {w : World} {b g i : Nat} {r : Rp} (h : RpB w b r) (hg : b ≠ g) (v : Value) : RpB (w.setCell ⟨g, i, none⟩ v) b r := (Below.heap_setCell _ _ _ _ hg).trans h
theorem set4_heap (W : World) (g : Nat) (r : Rp) (k : Nat) (h : k ≠ g) : (set4 W g r).heap[k]? = W.heap[k]? := by
  unfold set4
  rw [Below.heap_setCell _ _ _ _ h, Below.heap_setCell _ _ _ _ h, Below.heap_setCell _ _ _ _ h, Below.heap_setCell _ _ _ _ h]
set_option maxRecDepth 20000 in
set_option maxHeartbeats 16000000 in
theorem reply_any (b : Nat) (S : ByteArray) (w : World) (h : RIs w b S 0) (hs : S.size ≤ 140737488355328) (ht : TabP w) :
    Calls Tryd.prog 29 #[.pointer (some ⟨b, 0, none⟩)] w fun x w' => x = .returned (rpV (repR S.data.toList).1) ∧ RIs w' b (mkB (repR S.data.toList).2.1) (repR S.data.toList).2.2 ∧ Keeps (fun k => k = b) w w' := by
  have hbl := h.lt
  have hlen := size_list S
  obtain ⟨W0, hW0⟩ : ∃ W0, w.alloc (.cells #[.int .i64 0, .string ⟨#[]⟩, .string ⟨#[]⟩, .bool false] 23) = W0 := ⟨_, rfl⟩
  have HZ0 : Hid (W0.heap.size = w.heap.size + 1) := by rw [Hid, ← hW0]; simp
  have HB0 : Hid (Below w.heap.size w W0) := by rw [Hid, ← hW0]; exact (Below.refl _ _).alloc (Nat.le_refl _) _
  have HX0 : Hid (RpB W0 w.heap.size (rpl0 0)) := by rw [Hid, ← hW0]; exact block_alloc_at _ _
  have HI0 : Hid (RIs W0 b S 0) := h.below HB0.out
  have H1 : Hid (∀ _ : Unit, _) := fun _ => status_any b S 0 W0 HI0.out (tab_below ht HB0.out)
  have HR : Hid (repR S.data.toList = repK (if (staR S.data.toList 0).1 = 204 then 2 else 0) 0 false (rpl0 (staR S.data.toList 0).1) (staR S.data.toList 0).2.1 (staR S.data.toList 0).2.2) := rfl
  have HLN : Hid ((staR S.data.toList 0).2.1.length ≤ 140737488355328) := Nat.le_trans (chs_len stL S.data.toList 0) (by omega)
  obtain ⟨R, hR⟩ : ∃ R, repR S.data.toList = R := ⟨_, rfl⟩
  rw [hR] at HR ⊢
  obtain ⟨A, hA⟩ : ∃ A, staR S.data.toList 0 = A := ⟨_, rfl⟩
  rw [hA] at HR H1 HLN
  obtain ⟨z, l0, e0⟩ := A
  simp only at HR H1 HLN
  clear hR hA h ht hlen hs
  go_enter Tryd.func29, Tryd.ntmps29
  go_wp2_with fail
  go_step3
  go_wp2_with fail
  try rw [hW0]
  refine (H1.out ()).mono ?_
  rintro x w1 ⟨rfl, i1, k1⟩
  have HI1 : Hid (RIs w1 b (mkB l0) e0) := i1
  have HK1 : Hid (Keeps (fun k => k = b) W0 w1) := k1
  have HX1 : Hid (RpB w1 w.heap.size (rpl0 0)) := HX0.out.kept k1 (by omega)
  have HZ1 : Hid (W0.heap.size ≤ w1.heap.size) := k1.size
  clear i1 k1 hW0
  obtain ⟨V1, hV1⟩ : ∃ V1, w1.alloc (.cells #[.int .i64 0, .string ⟨#[]⟩, .string ⟨#[]⟩, .bool false] 23) = V1 := ⟨_, rfl⟩
  have HBV : Hid (Below w1.heap.size w1 V1) := by rw [Hid, ← hV1]; exact (Below.refl _ _).alloc (Nat.le_refl _) _
  have HXV : Hid (RpB V1 w1.heap.size (rpl0 0)) := by rw [Hid, ← hV1]; exact block_alloc_at _ _
  obtain ⟨k0, k1, k2, k3⟩ := HXV.out.cells
  have f0 := HXV.out.free 0
  have f1 := HXV.out.free 1
  have f2 := HXV.out.free 2
  have f3 := HXV.out.free 3
  obtain ⟨W2, hW2⟩ : ∃ W2, set4 V1 w1.heap.size (rpl0 z) = W2 := ⟨_, rfl⟩
  have HX2 : Hid (RpB W2 w1.heap.size (rpl0 z)) := by rw [Hid, ← hW2]; exact HXV.out.set4 _
  have HK2 : Hid (Keeps (fun k => k = b) w W2) := by
    rw [Hid, ← hW2]
    exact set4_keeps ((Keeps.of_below HB0.out).trans (HK1.out.trans (Keeps.of_below HBV.out))) (by have := HZ1.out; have := HZ0.out; omega) _
  have HG2 : Hid (RpB W2 w.heap.size (rpl0 0)) := by
    rw [Hid, ← hW2]
    exact (set4_heap _ _ _ _ (by have := HX1.out.lt; omega)).trans (HX1.out.below HBV.out)
  have HI2 : Hid (RIs W2 b (mkB l0) e0) := by
    rw [Hid, ← hW2]
    exact (set4_heap _ _ _ _ (by have := HI1.out.lt; omega)).trans (HI1.out.below HBV.out)
  have HW2 : Hid (set4 V1 w1.heap.size (rpl0 z) = W2) := hW2
  unfold set4 at HW2
  simp only [rpl0] at HW2
  rw [show mkB [] = ⟨#[]⟩ from rfl] at HW2
  clear hW2
  go_upto_region 2 with fail
  rw [HW2.out]
  clear k0 k1 k2 k3 f0 f1 f2 f3 hV1 HW2
  have c0 := HX2.out.cells.1
  have HST : Hid (repK (if z = 204 then 2 else 0) 0 false (rpl0 z) l0 e0 = R) := HR.out.symm
  simp only [rpl0] at c0
  have HGS : Hid (w.heap.size < w1.heap.size) := by rw [Hid]; have := HZ1.out; have := HZ0.out; omega
  obtain ⟨g, hg⟩ : ∃ g, w1.heap.size = g := ⟨_, rfl⟩
  rw [hg] at HX2 HGS c0
  try rw [hg]
  clear hg HBV HXV HX1 HZ1 HI1 HK1 HI0 HX0 HB0 H1 HR HZ0 V1
  by_cases hz : z = 204
  case' pos =>
    subst hz
    have hzz : ((204 : Int) == 204) = true := rfl
    rw [if_pos rfl] at HST
  case' neg =>
    have hzz : (z == 204) = false := beq_eq_false_iff_ne.2 hz
    rw [if_neg hz] at HST
  all_goals go_wp2_with fail
  all_goals go_step3
  all_goals go_wp2_with fail
  all_goals
    go_loopw [4, 5, 6] (fun i s y wr => ∃ (k sz : Nat) (ty : Bool) (r : Rp) (l : List UInt8) (e : Int), k ≤ 4 ∧ i = .int .i64 (k : Nat) ∧ s = .int .i64 (sz : Nat) ∧ y = .bool ty ∧ Hid (repK k sz ty r l e = R) ∧ Hid (RIs wr b (mkB l) e) ∧ Hid (RpB wr g r) ∧ Hid (RpB wr w.heap.size (rpl0 0)) ∧ Hid (l.length ≤ 140737488355328) ∧ Hid (Keeps (fun k => k = b) w wr)) (fun i _ _ _ => 5 - (intOf i).toNat)
    case atStart => first | exact ⟨0, 0, false, _, l0, e0, by decide, rfl, rfl, rfl, HST.out, HI2.out, HX2.out, HG2.out, HLN.out, HK2.out⟩ | exact ⟨2, 0, false, _, l0, e0, by decide, rfl, rfl, rfl, HST.out, HI2.out, HX2.out, HG2.out, HLN.out, HK2.out⟩
    case round =>
      obtain ⟨k, sz, ty, r, l, e, hk, rfl, rfl, rfl, HE, HI, HX, HG, HL, HK⟩ := hrel
      have hc1 := HI.out.c1
      by_cases he : e = 0
      · subst he
        have HN := nxt_of hk HE.out
        have HKD : Hid (∀ _ : Unit, _) := fun _ => kind_l b k l 0 wr HI.out hk
        have HKL : Hid ((kndR k l 0).2.1.length ≤ 140737488355328) := Nat.le_trans (knd_len k l 0) HL.out
        obtain ⟨C, hC⟩ : ∃ C, kndR k l 0 = C := ⟨_, rfl⟩
        rw [hC] at HN HKD HKL
        obtain ⟨m, l1, e1⟩ := C
        simp only at HN HKD HKL
        obtain ⟨HN, hkm⟩ := HN
        have HGB : Hid (¬ g = b) := by rw [Hid]; have := HGS.out; omega
        have HWB : Hid (¬ w.heap.size = b) := by rw [Hid]; omega
        clear hC
        have HSZ : Hid (∀ W : World, RIs W b (mkB l1) e1 → _) := fun W q => size_l b ty l1 e1 W q HKL.out
        have HCK : Hid (∀ W : World, RIs W b (mkB l1) e1 → _) := fun W q => cookie_l b l1 e1 W q HKL.out
        have HBY : Hid (∀ W : World, RIs W b (mkB l1) e1 → _) := fun W q => bytes_l b sz l1 e1 W q
        have HSL : Hid ((sizR ty l1 e1).2.1.length ≤ 140737488355328) := Nat.le_trans (siz_len ty l1 e1) HKL.out
        have HCL : Hid ((cookR l1 e1).2.1.length ≤ 140737488355328) := Nat.le_trans (cook_len l1 e1) HKL.out
        rcases HN with ⟨hm, hq⟩ | ⟨hm, hq⟩ | ⟨hm, hq⟩ | ⟨hm, hq⟩ | ⟨hm, hq⟩
        · subst hm
          have HQ : Hid (repK 1 sz true r l1 e1 = R) := hq
          clear hq
          go_wp2_with (go_at_call 34; refine (HKD.out ()).mono ?_; rintro x w5 ⟨rfl, r1, r2⟩)
          go_roundw
          case rel => exact ⟨1, sz, true, r, l1, e1, by omega, by first | rfl | go_num, rfl, rfl, HQ.out, r1, HX.out.kept r2 HGB.out, HG.out.kept r2 HWB.out, HKL.out, HK.out.trans r2⟩
          case measure => simp [intOf]; omega
        · subst hm
          have HQ : Hid (repK 2 (sizR ty l1 e1).1 ty r (sizR ty l1 e1).2.1 (sizR ty l1 e1).2.2 = R) := hq
          obtain ⟨D, hD⟩ : ∃ D, sizR ty l1 e1 = D := ⟨_, rfl⟩
          rw [hD] at HQ HSZ HSL
          obtain ⟨n2, l2, e2⟩ := D
          simp only at HQ HSZ HSL
          clear hq hD
          go_wp2_with (first
            | (go_at_call 34; refine (HKD.out ()).mono ?_; rintro x w5 ⟨rfl, r1, r2⟩; have R1 : Hid _ := r1; have R2 : Hid (Keeps (fun k => k = b) wr w5) := r2; clear r1 r2)
            | (go_at_call 35; refine (HSZ.out _ R1.out).mono ?_; rintro x w6 ⟨rfl, r3, r4⟩))
          go_roundw
          case rel => exact ⟨2, n2, ty, r, l2, e2, by omega, by first | rfl | go_num, rfl, rfl, HQ.out, r3, (HX.out.kept R2.out HGB.out).kept r4 HGB.out, (HG.out.kept R2.out HWB.out).kept r4 HWB.out, HSL.out, HK.out.trans (R2.out.trans r4)⟩
          case measure => simp [intOf]; omega
        · subst hm
          have HQ : Hid (repK 3 sz ty { r with cookie := (cookR l1 e1).1 } (cookR l1 e1).2.1 (cookR l1 e1).2.2 = R) := hq
          obtain ⟨D, hD⟩ : ∃ D, cookR l1 e1 = D := ⟨_, rfl⟩
          rw [hD] at HQ HCK HCL
          obtain ⟨n2, l2, e2⟩ := D
          simp only at HQ HCK HCL
          clear hq hD
          go_wp2_with (first
            | (go_at_call 34; refine (HKD.out ()).mono ?_; rintro x w5 ⟨rfl, r1, r2⟩; have R1 : Hid _ := r1; have R2 : Hid (Keeps (fun k => k = b) wr w5) := r2; clear r1 r2)
            | (go_at_call 36; refine (HCK.out _ R1.out).mono ?_; rintro x w6 ⟨rfl, r3, r4⟩; have HX6 : Hid (RpB w6 g r) := (HX.out.kept R2.out HGB.out).kept r4 HGB.out; have HG6 : Hid (RpB w6 w.heap.size (rpl0 0)) := (HG.out.kept R2.out HWB.out).kept r4 HWB.out; have HI6 : Hid (RIs w6 b (mkB l2) e2) := r3; have HK6 : Hid (Keeps (fun k => k = b) w w6) := HK.out.trans (R2.out.trans r4); have y2 := HX6.out.cells.2.2.1; have z2 := HX6.out.free 2; clear r3 r4))
          go_roundw
          case rel => exact ⟨3, sz, ty, { r with cookie := n2 }, l2, e2, by omega, by first | rfl | go_num, rfl, rfl, HQ.out, HI6.out.set_other (fun q => HGB.out q.symm) _, HX6.out.cookie _, HG6.out.set_other (by have := HGS.out; omega) _, HCL.out, HK6.out.setCell (Or.inr (by have := HGS.out; show w.heap.size ≤ g; omega)) _⟩
          case measure => simp [intOf]; omega
        · subst hm
          have HQ : Hid (repK 4 sz ty { r with close := true } l1 e1 = R) := hq
          clear hq
          go_wp2_with (go_at_call 34; refine (HKD.out ()).mono ?_; rintro x w5 ⟨rfl, r1, r2⟩; have HX6 : Hid (RpB w5 g r) := HX.out.kept r2 HGB.out; have HG6 : Hid (RpB w5 w.heap.size (rpl0 0)) := HG.out.kept r2 HWB.out; have HI6 : Hid (RIs w5 b (mkB l1) e1) := r1; have HK6 : Hid (Keeps (fun k => k = b) w w5) := HK.out.trans r2; have y3 := HX6.out.cells.2.2.2; have z3 := HX6.out.free 3; clear r1 r2)
          go_roundw
          case rel => exact ⟨4, sz, ty, { r with close := true }, l1, e1, by omega, by first | rfl | go_num, rfl, rfl, HQ.out, HI6.out.set_other (fun q => HGB.out q.symm) _, HX6.out.close, HG6.out.set_other (by have := HGS.out; omega) _, HKL.out, HK6.out.setCell (Or.inr (by have := HGS.out; show w.heap.size ≤ g; omega)) _⟩
          case measure => simp [intOf]; omega
        · subst hm
          have HQ : Hid (bodK sz r (l1, e1) = R) := hq
          have HQ2 : Hid (bodK sz r (l1, e1) = ({ r with body := (bytesR sz l1 e1).1 }, (bytesR sz l1 e1).2)) := rfl
          obtain ⟨D, hD⟩ : ∃ D, bytesR sz l1 e1 = D := ⟨_, rfl⟩
          rw [hD] at HQ2 HBY
          obtain ⟨n2, l2, e2⟩ := D
          simp only at HQ2 HBY
          have HRR : Hid (R = ({ r with body := n2 }, l2, e2)) := HQ.out.symm.trans HQ2.out
          clear hq hD
          go_upto_region 18 with (first
            | (go_at_call 34; refine (HKD.out ()).mono ?_; rintro x w5 ⟨rfl, r1, r2⟩; have R1 : Hid _ := r1; have R2 : Hid (Keeps (fun k => k = b) wr w5) := r2; clear r1 r2))
          go_upto_region 19 with (go_at_call 37; refine (HBY.out _ R1.out).mono ?_; rintro x w6 ⟨rfl, r3, r4⟩; have HX6 : Hid (RpB w6 g r) := (HX.out.kept R2.out HGB.out).kept r4 HGB.out; have HG6 : Hid (RpB w6 w.heap.size (rpl0 0)) := (HG.out.kept R2.out HWB.out).kept r4 HWB.out; have HI6 : Hid (RIs w6 b (mkB l2) e2) := r3; have HK6 : Hid (Keeps (fun k => k = b) w w6) := HK.out.trans (R2.out.trans r4); have y1 := HX6.out.cells.2.1; have z1 := HX6.out.free 1; clear r3 r4)
          obtain ⟨V, hV⟩ : ∃ V, w6.setCell ⟨g, 1, none⟩ (.string (mkB n2)) = V := ⟨_, rfl⟩
          have HXV : Hid (RpB V g { r with body := n2 }) := by rw [Hid, ← hV]; exact HX6.out.body _
          have HGV : Hid (RpB V w.heap.size (rpl0 0)) := by rw [Hid, ← hV]; exact HG6.out.set_other (by have := HGS.out; omega) _
          have HIV : Hid (RIs V b (mkB l2) e2) := by rw [Hid, ← hV]; exact HI6.out.set_other (fun q => HGB.out q.symm) _
          have HKV : Hid (Keeps (fun k => k = b) w V) := by rw [Hid, ← hV]; exact HK6.out.setCell (Or.inr (by have := HGS.out; show w.heap.size ≤ g; omega)) _
          try rw [hV]
          clear hV y1 z1
          have HCE := HXV.out.cells
          obtain ⟨a0, a1, a2, a3⟩ := HCE
          obtain ⟨k0, k1, k2, k3⟩ := HGV.out.cells
          have f0 := HGV.out.free 0
          have f1 := HGV.out.free 1
          have f2 := HGV.out.free 2
          have f3 := HGV.out.free 3
          obtain ⟨W9, hW9⟩ : ∃ W9, set4 V w.heap.size { r with body := n2 } = W9 := ⟨_, rfl⟩
          have HX9 : RpB W9 w.heap.size { r with body := n2 } := by rw [← hW9]; exact HGV.out.set4 _
          have HI9 : Hid (RIs W9 b (mkB l2) e2) := by rw [Hid, ← hW9]; exact (set4_heap _ _ _ _ (by omega)).trans HIV.out
          have HK9 : Hid (Keeps (fun k => k = b) w W9) := by rw [Hid, ← hW9]; exact set4_keeps HKV.out (Nat.le_refl _) _
          obtain ⟨x0, x1, x2, x3⟩ := HX9.cells
          have HW9 : Hid (set4 V w.heap.size { r with body := n2 } = W9) := hW9
          unfold set4 at HW9
          clear HX9 hW9
          go_wp2_with fail
          rw [HW9.out]
          try rw [Exit.noGoto_ret]
          refine bodyPost_ret (v := rpV { r with body := n2 }) ?_ rfl ⟨by rw [HRR.out], by rw [HRR.out]; exact HI9.out, HK9.out⟩
          rw [results_cell1 rfl]
          unfold rpV
          go_simp
      · have HRR : Hid (R = (r, l, e)) := by rw [Hid, ← HE.out]; exact repK_stop k sz ty r l he
        have q0 : (e == 0) = false := beq_eq_false_iff_ne.2 he
        have HCE := HX.out.cells
        obtain ⟨a0, a1, a2, a3⟩ := HCE
        obtain ⟨k0, k1, k2, k3⟩ := HG.out.cells
        have f0 := HG.out.free 0
        have f1 := HG.out.free 1
        have f2 := HG.out.free 2
        have f3 := HG.out.free 3
        obtain ⟨W9, hW9⟩ : ∃ W9, set4 wr w.heap.size r = W9 := ⟨_, rfl⟩
        have HX9 : RpB W9 w.heap.size r := by rw [← hW9]; exact HG.out.set4 _
        have HI9 : Hid (RIs W9 b (mkB l) e) := by rw [Hid, ← hW9]; exact (set4_heap _ _ _ _ (by omega)).trans HI.out
        have HK9 : Hid (Keeps (fun k => k = b) w W9) := by rw [Hid, ← hW9]; exact set4_keeps HK.out (Nat.le_refl _) _
        obtain ⟨x0, x1, x2, x3⟩ := HX9.cells
        have HW9 : Hid (set4 wr w.heap.size r = W9) := hW9
        unfold set4 at HW9
        clear HX9 hW9
        go_wp2_with fail
        rw [HW9.out]
        try rw [Exit.noGoto_ret]
        refine bodyPost_ret (v := rpV r) ?_ rfl ⟨by rw [HRR.out], by rw [HRR.out]; exact HI9.out, HK9.out⟩
        rw [results_cell1 rfl]
        unfold rpV
        go_simp
end Go.Proofs.YtdkbgbhcnbmlfaaDoor
