/-
  The contract of Target.
-/
import Derived.Test.YtbpfggpljfpfcaaDoorPrg
namespace Go.Proofs.YtbpfggpljfpfcaaDoor
open Go.RowKit
theorem bOf_toList {a b : List UInt8} (h : (bOf a).toList = (bOf b).toList) : a = b := by
  rw [ByteArray.toList_eq, ByteArray.toList_eq] at h
  exact h
def tgV : Option (List UInt8 × List UInt8) → Value
  | some (m, t) => .tuple #[.string (bOf m), .string (bOf t), .bool true]
  | none => .tuple #[.string ⟨#[]⟩, .string ⟨#[]⟩, .bool false]
def TgP (w : World) (R : Option (List UInt8 × List UInt8)) (e : Ending) (w' : World) : Prop := e = .returned (tgV R) ∧ Below w.heap.size w w'
theorem tab_at {T : List (Rule × Nat)} (h : T.map Prod.fst = rulesT) {k : Nat} {x : Rule × Nat} (hx : T[k]? = some x) : x.1 = rul k ∧ k < 10 ∧ x.1 ∈ rulesT := by
  have h1 : (T.map Prod.fst)[k]? = some x.1 := by rw [List.getElem?_map, hx]; rfl
  rw [h] at h1
  have hlt : k < 10 := (List.getElem?_eq_some_iff.1 h1).1
  refine ⟨?_, hlt, List.mem_of_getElem? h1⟩
  unfold rul
  rw [List.getD_eq_getElem?_getD, h1]
  rfl
set_option maxRecDepth 20000 in
set_option maxHeartbeats 32000000 in
theorem target_any (y : Rt) (h0 : -9223372036854775808 ≤ y.frm) (h1 : y.frm ≤ 9223372036854775807) (ht : y.token.length ≤ 10000000) (hu : y.user.length ≤ 10000000) (mx : Int) (w : World) (hm : w.cell? ⟨0, 0, none⟩ = some (.int .i64 mx)) (hT : TabP w) :
    Calls Tryd.prog 18 #[.agg #[.int .i64 y.kind, .string (bOf y.token), .string (bOf y.user), .int .i64 y.frm, .bool y.me]] w (TgP w (tgtR y)) := by
  have HMX : Hid (∀ W, Below w.heap.size w W → W.cell? ⟨0, 0, none⟩ = some (.int .i64 mx)) := fun W b => mx_below hm b
  have HTB : Hid (∀ W, Below w.heap.size w W → TabP W) := fun W b => tab_below hT b
  have HHI : Hid (∀ i, i < 10 → y.kind = (rul i).kind → (findR (rul i).meth (printR (rul i) y) = (y, 200) ↔ hitB i y = true)) := fun i hi hk => hit_iff i hi y hk h0 h1
  have HHT : Hid (∀ i, i < 10 → y.kind = (rul i).kind → hitB i y = true → tgtR y = some ((rul i).meth, printR (rul i) y)) := fun i hi hk hb => tgt_hit i hi y hk h0 h1 hb
  have HNO : Hid ((∀ i, i < 10 → y.kind = (rul i).kind → hitB i y = false) → tgtR y = none) := fun h => tgt_none y h
  have HPL : Hid (∀ r ∈ rulesT, (printR r y).length ≤ 100000000) := fun r hr => print_len hr h0 h1 ht hu
  have HPG : Hid (∀ (x : Rule × Nat) (hx : x.1 ∈ rulesT) (fv : Value) (f1 f2 : Nat) (hfv : pfV (partF x.1.part) = fv) (hf2 : (rmOf x).fw = f2) (W : World) (hp : PathAt W x) (hT : TabP W), _) := fun x hx fv f1 f2 hfv hf2 W hp hT => print_gen x hx fv f1 f2 hfv hf2 y h0 h1 ht hu W hp hT
  obtain ⟨R, hR⟩ : ∃ R, tgtR y = R := ⟨_, rfl⟩
  rw [hR] at HHT HNO ⊢
  clear hR hm hT h0 h1 ht hu
  obtain ⟨W0, hW0⟩ : ∃ W0, w.alloc (.cells #[.int .i64 y.kind, .string (bOf y.token), .string (bOf y.user), .int .i64 y.frm, .bool y.me] 23) = W0 := ⟨_, rfl⟩
  have HB0 : Hid (Below w.heap.size w W0) := by rw [Hid, ← hW0]; exact below_new _ _
  have HX0 : Hid (XB W0 w.heap.size y) := by rw [Hid, ← hW0]; exact block_alloc_at _ _
  go_enter Tryd.func18, Tryd.ntmps18
  go_wp2_with fail
  try rw [hW0]
  clear hW0
  refine (rules_any _).mono ?_
  rintro e w3 ⟨g, T, rfl, htab, b3⟩
  have HTA : Hid (TabR w3 g T) := htab
  have HB3 : Hid (Below w.heap.size w w3) := below_on HB0.out b3
  have HX3 : Hid (XB w3 w.heap.size y) := XB.below HX0.out b3
  have HTL : Hid (T.length = 10) := by
    have := congrArg List.length htab.2.1
    rw [List.length_map] at this
    exact this
  have HRW : Hid (RowR w3 (some ⟨g, 0, none⟩) T) := row_tab htab
  clear b3 htab
  go_wp2_with fail
  go_loopw [2, 3, 4, 11] (fun _ _ _ i wr => ∃ k : Nat, k ≤ 10 ∧ i = .int .i64 (k : Nat) ∧ Hid (∀ j, j < k → y.kind = (rul j).kind → hitB j y = false) ∧ Hid (Below w3.heap.size w3 wr)) (fun _ _ _ i _ => 10 - (intOf i).toNat)
  case atStart => exact ⟨0, by omega, rfl, fun j hj => absurd hj (by omega), Below.refl _ _⟩
  case round =>
    obtain ⟨k, hk, rfl, HNK, HB⟩ := hrel
    by_cases hlt : k < 10
    · have hlz : (k : Int) < 10 := by omega
      obtain ⟨x, hx⟩ : ∃ x, T[k]? = some x := ⟨_, List.getElem?_eq_getElem (by rw [HTL.out]; exact hlt)⟩
      have hxm : x ∈ T := List.mem_of_getElem? hx
      obtain ⟨hxr, _, hxT⟩ := tab_at HTA.out.2.1 hx
      obtain ⟨gb, off, hbo, _, c0, c1, c2, c3, c4, c5, c6, c7, c8, c9⟩ := RowR.get (RowR.below HRW.out HB.out) hx
      obtain ⟨rfl, rfl⟩ : g = gb ∧ 0 = off := by cases hbo; exact ⟨rfl, rfl⟩
      simp only [Nat.zero_add] at c0 c1 c2 c3 c4 c5 c6 c7 c8 c9
      obtain ⟨y0, y1, y2, y3, y4⟩ := XB.cells (XB.below HX3.out HB.out)
      have hps := path_short x.1 hxT
      have hfv := pfV_cases (partF x.1.part)
      have HPT : Hid (∀ W, Below w3.heap.size w3 W → PathAt W x) := fun W b => PathAt.below (HTA.out.2.2 x hxm) b
      obtain ⟨fv, hv⟩ : ∃ fv, pfV (partF x.1.part) = fv := ⟨_, rfl⟩
      obtain ⟨f1, hf1⟩ : ∃ f1, (rmOf x).fr = f1 := ⟨_, rfl⟩
      obtain ⟨f2, hf2⟩ : ∃ f2, (rmOf x).fw = f2 := ⟨_, rfl⟩
      have H4 : Hid (∀ W, Below w3.heap.size w3 W → _) := fun W b => HPG.out x hxT fv f1 f2 hv hf2 W (HPT.out W b) (HTB.out W (below_on HB3.out b))
      have H5 : Hid (∀ W, Below w3.heap.size w3 W → _) := fun W b => find_any x.1.meth (bOf (printR x.1 y)) (by rw [bOf_size]; have := HPL.out x.1 hxT; omega) mx W (HMX.out W (below_on HB3.out b))
      rw [show (bOf (printR x.1 y)).data.toList = printR x.1 y from rfl] at H5
      have HHI2 : Hid (y.kind = x.1.kind → (findR x.1.meth (printR x.1 y) = (y, 200) ↔ hitB k y = true)) := by rw [hxr]; exact HHI.out k hlt
      have HHT2 : Hid (y.kind = x.1.kind → hitB k y = true → R = some (x.1.meth, printR x.1 y)) := by rw [hxr]; exact HHT.out k hlt
      have HKK : Hid (x.1.kind = (rul k).kind) := by rw [hxr]; rfl
      obtain ⟨p, hp⟩ : ∃ p, printR x.1 y = p := ⟨_, rfl⟩
      rw [hp] at H4 H5 HHI2 HHT2
      rw [hv] at c7 hfv
      rw [hf1] at c8
      rw [hf2] at c9
      have hsz := HB.out.size
      have HXL : Hid (w.heap.size < w3.heap.size) := HX3.out.lt
      have hgx : w.heap.size < wr.heap.size := Nat.lt_of_lt_of_le HX3.out.lt hsz
      clear hv hf1 hf2 hx hxm hxT hps hbo hp hxr
      by_cases hke : x.1.kind = y.kind
      · have hkz : (x.1.kind != y.kind) = false := by simp [hke]
        have HHE : Hid _ := HHI2.out hke.symm
        have HHR : Hid _ := HHT2.out hke.symm
        have HNK2 : Hid (hitB k y = false → ∀ j, j < k + 1 → y.kind = (rul j).kind → hitB j y = false) := fun hb j hj hjk => by
          rcases Nat.lt_or_ge j k with h | h
          · exact HNK.out j h hjk
          · obtain rfl : j = k := by omega
            exact hb
        clear hke HHI2 HHT2
        obtain ⟨F, hF⟩ : ∃ F, findR x.1.meth p = F := ⟨_, rfl⟩
        rw [hF] at H5 HHE
        clear hF
        obtain ⟨⟨fk, fa, fb, ff, fm⟩, st⟩ := F
        simp only [rtV, rtA] at H5
        obtain ⟨yk, ya, yb, yf, ym⟩ := y
        simp only [Prod.mk.injEq, Rt.mk.injEq] at HHE
        simp only at *
        rcases hfv with rfl | ⟨fn, rfl⟩
        all_goals
          go_wp2_with fail
          refine (H4.out _ (HB.out.alloc hsz _)).mono ?_
          rintro e w4 ⟨rfl, b4⟩
          obtain ⟨d0, _⟩ := ruL_cells (x := x) ((b4.block wr.heap.size (by simp)).trans (block_alloc_at _ _))
          have HB4 : Hid (Below w3.heap.size w3 w4) := (HB.out.alloc hsz _).trans (b4.mono (by simp; omega))
          clear b4 c0 c1 c2 c3 c4 c5 c6 c7 c8 c9 y0 y1 y2 y3 y4 H4
          go_wp2_with fail
          refine (H5.out _ HB4.out).mono ?_
          rintro e w5 ⟨rfl, b5⟩
          have HD5 : Hid (w5.cell? ⟨wr.heap.size, 0, none⟩ = some (.string (bOf x.1.meth))) := (b5.cell (p := ⟨wr.heap.size, 0, none⟩) (by have := World.block_lt_of_cell? _ _ d0; exact this)).trans d0
          have HB5 : Hid (Below w3.heap.size w3 w5) := below_on HB4.out b5
          have hg5 : w.heap.size < w5.heap.size := Nat.lt_of_lt_of_le HXL.out HB5.out.size
          obtain ⟨y0, y1, y2, y3, y4⟩ := XB.cells (XB.below HX3.out HB5.out)
          simp only at y0 y1 y2 y3 y4
          clear b5 d0 H5
          by_cases hst : st = 200
          · subst hst
            by_cases hq : fk = yk ∧ fa = ya ∧ fb = yb ∧ ff = yf ∧ fm = ym
            · obtain ⟨rfl, rfl, rfl, rfl, rfl⟩ := hq
              have HR : Hid _ := HHR.out (HHE.out.1 ⟨⟨rfl, rfl, rfl, rfl, rfl⟩, rfl⟩)
              have d5 := HD5.out
              have hg6 : wr.heap.size < w5.heap.size := World.block_lt_of_cell? _ _ d5
              go_wp2_with fail
              go_ret3
              exact ⟨by rw [HR.out]; rfl, HB3.out.trans ((HB5.out.alloc HB5.out.size _).mono HB3.out.size)⟩
            · have HF : Hid _ := HNK2.out (by
                cases hb : hitB k ⟨yk, ya, yb, yf, ym⟩ with
                | false => rfl
                | true => exact absurd (HHE.out.2 hb).1 hq)
              have HQ : Hid (¬ (fk = yk ∧ fa = ya ∧ fb = yb ∧ ff = yf ∧ fm = ym)) := hq
              clear hq
              go_wp2_with fail
              all_goals first
                | (exfalso; refine HQ.out ⟨?_, ?_, ?_, ?_, ?_⟩ <;> first | rfl | assumption | exact bOf_toList (by assumption))
                | (go_roundw
                   case rel => exact ⟨k + 1, by omega, by go_num, HF.out, HB5.out.alloc HB5.out.size _⟩
                   case measure => simp [intOf]; omega)
          · have hsz5 : (st == 200) = false := by simp [hst]
            have HF : Hid _ := HNK2.out (by
              cases hb : hitB k ⟨yk, ya, yb, yf, ym⟩ with
              | false => rfl
              | true => exact absurd (HHE.out.2 hb).2 hst)
            clear hst
            go_wp2_with fail
            go_roundw
            case rel => exact ⟨k + 1, by omega, by go_num, HF.out, HB5.out.alloc HB5.out.size _⟩
            case measure => simp [intOf]; omega
      · have hkz : (x.1.kind != y.kind) = true := by simp [hke]
        have HNK2 : Hid (∀ j, j < k + 1 → y.kind = (rul j).kind → hitB j y = false) := fun j hj hjk => by
          rcases Nat.lt_or_ge j k with h | h
          · exact HNK.out j h hjk
          · obtain rfl : j = k := by omega
            exact absurd (HKK.out.trans hjk.symm) hke
        clear hke
        rcases hfv with rfl | ⟨fn, rfl⟩
        all_goals
          go_wp2_with fail
          go_roundw
          case rel => exact ⟨k + 1, by omega, by go_num, HNK2.out, HB.out.alloc hsz _⟩
          case measure => simp [intOf]; omega
    · have hlz : ¬ (k : Int) < 10 := by omega
      have HR : Hid (R = none) := HNO.out (fun i hi hik => HNK.out i (by omega) hik)
      go_wp2_with fail
      go_ret3
      exact ⟨by rw [HR.out]; rfl, HB3.out.trans (HB.out.mono HB3.out.size)⟩
end Go.Proofs.YtbpfggpljfpfcaaDoor
