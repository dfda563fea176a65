/-
  The twin's step.
-/
import Derived.Test.YtefmhghdehokcaaTwinP
import Derived.Test.YtefmhghdehokcaaStep
import Derived.Deep.AppendLies
import Derived.Deep.RegionLaw
namespace Go.Proofs.Ytefmhghdehokcaa
open Go.RowKit
theorem TFootUp.wake {w : World} {x : Nat} {T : TS} (n : Int) (T' : TS) (e1 : T'.vT = T.vT) (e2 : T'.ts = T.ts.map (wkT n)) : TFootUp w x T T' := by
  intro b hb
  rcases hb with e | e | ⟨j, u, hj, e⟩
  · exact Or.inl (Or.inl e)
  · exact Or.inl (Or.inr (Or.inl (by rw [← e1]; exact e)))
  · rw [e2, List.getElem?_map] at hj
    cases h : T.ts[j]? with
    | none => rw [h] at hj; simp at hj
    | some u0 =>
      rw [h] at hj
      simp only [Option.map_some, Option.some.injEq] at hj
      subst hj
      exact Or.inl (Or.inr (Or.inr ⟨j, u0, h, e⟩))
set_option maxRecDepth 100000 in
set_option maxHeartbeats 8000000 in
theorem tstep (lo x i j : Nat) (pick : Int) (T : TS) (w : World) (h : TW w lo x T) (hb : Bd T.ps) (ho : TOk T) (hwo : WOk T.ps) (hst : T.count < 10000000000000000) (hpk : 0 ≤ pick) (hj : pick.tmod ((readyL T.ps.waits).length : Int) = (j : Int)) (hij : (readyL T.ps.waits)[j]? = some i) :
    Calls Try.prog 35 #[.pointer (some ⟨x, 0, none⟩), .int .i64 pick] w fun r w' => r = .returned (.tuple #[.int .i64 (i : Nat), .bool true]) ∧ ∃ T', TW w' lo x T' ∧ T'.ps = actP T.ps i ∧ Kb (TFoot x T) w w' ∧ TFootUp w x T T' ∧ TSame T T' := by
  have hlen : T.ts.length ≤ 64 := by have := hb.len; simpa [TS.ps] using this
  obtain ⟨m, hm⟩ : ∃ m, (readyL T.ps.waits).length = m := ⟨_, rfl⟩
  have hjm : j < m := by rw [← hm]; exact (List.getElem?_eq_some_iff.1 hij).1
  have HRD : Hid (Calls Try.prog 39 #[.pointer (some ⟨x, 0, none⟩)] w fun r w' => ∃ v, r = .returned v ∧ w'.ownsRow w.heap.size 3 1 v m ((readyL T.ps.waits).map nI) ∧ Below w.heap.size w w') := by
    have := tready lo x T w h hlen
    rw [hm] at this
    exact this
  have hin : i < T.ts.length := by
    have := List.mem_of_getElem? hij
    simp only [readyL, readyTo, List.mem_filter, List.mem_range] at this
    have h2 : T.ps.waits.length = T.ts.length := by simp [TS.ps]
    omega
  obtain ⟨t, hti⟩ : ∃ t, T.ts[i]? = some t := ⟨T.ts[i]'hin, List.getElem?_eq_getElem _⟩
  obtain ⟨n, hn⟩ : ∃ n, T.ts.length = n := ⟨_, rfl⟩
  rw [hn] at hin hlen
  obtain ⟨aT, cT, hvT⟩ := row_form h.row
  rw [hn] at hvT
  obtain ⟨ak, ck, hvK, hva, hcK, _⟩ := h.tk
  rw [List.length_map] at hvK
  obtain ⟨nk, hnk⟩ : ∃ nk, T.ticks.length = nk := ⟨_, rfl⟩
  obtain ⟨st, hst'⟩ : ∃ st, T.count = st := ⟨_, rfl⟩
  obtain ⟨now, hnow⟩ : ∃ now, T.clock = now := ⟨_, rfl⟩
  obtain ⟨now1, hnow1⟩ : ∃ now1, T.ps.clock = now1 := ⟨_, rfl⟩
  rw [hnk] at hvK
  rw [hst'] at hst
  have hhx := h.hx
  rw [hvT, hvK, hst', hnow] at hhx
  have hxs := h.xs
  have hlo := h.lox
  have HST : Hid ((nk ≤ st ∧ now1 = now) ∨ (st < nk ∧ ∃ b off y, ak = some ⟨b, off, none⟩ ∧ b < lo ∧ w.cell? ⟨b, off + st, none⟩ = some (.int .i64 y) ∧ 0 ≤ y ∧ y < 2147483648 ∧ 0 ≤ now ∧ now < 1000000000000000 ∧ now1 = now + y)) := by
    have e1 : T.ps.clock = clockI T.ticks T.count T.clock := rfl
    rw [hnow1, hst', hnow] at e1
    have hnb : 0 ≤ now ∧ now < 1000000000000000 := by
      have q1 := hb.now0
      have q2 := hb.now1
      have q3 := hb.tlen
      have q4 : T.ps.now = now := hnow
      rw [q4] at q1 q2
      refine ⟨q1, ?_⟩
      have : min T.ps.steps T.ps.ticks.length ≤ 65536 := Nat.le_trans (Nat.min_le_right _ _) q3
      omega
    by_cases hlt : st < nk
    · right
      have hlt' : st < T.ticks.length := by rw [hnk]; exact hlt
      obtain ⟨y, hy⟩ : ∃ y, T.ticks[st]? = some y := ⟨T.ticks[st], List.getElem?_eq_getElem _⟩
      obtain ⟨b, off, f1, f2, f3⟩ := hva st (iV y) (by rw [List.getElem?_map, hy]; rfl)
      have hyr := hb.tcs y (List.mem_of_getElem? hy)
      refine ⟨hlt, b, off, y, f1, f2, f3, hyr.1, hyr.2, hnb.1, hnb.2, ?_⟩
      rw [e1]
      unfold clockI
      simp only [List.getD_eq_getElem?_getD, hy]
      rfl
    · left
      refine ⟨by omega, ?_⟩
      rw [e1]
      unfold clockI
      have : T.ticks[st]? = none := List.getElem?_eq_none (by omega)
      simp [List.getD_eq_getElem?_getD, this]
  have HH : Hid (TW w lo x T) := h
  have HO : Hid (TOk T) := ho
  have HWO : Hid (WOk T.ps) := hwo
  have HBD : Hid (Bd T.ps) := hb
  have HTI : Hid _ := hti
  have HIJ : Hid _ := hij
  have HHX : Hid _ := hhx
  have HVT : Hid _ := hvT
  have HVK : Hid _ := hvK
  have HNW1 : Hid _ := hnow1
  have HSTE : Hid _ := hst'
  have HNOW : Hid _ := hnow
  rw [hm] at hj
  have hpk' : decide (pick < 0) = false := decide_eq_false (by omega)
  have hm0 : ((m : Int) == 0) = false := by simp; omega
  have hj2 : pick % (m : Int) = (j : Int) := by rw [← Int.tmod_eq_emod_of_nonneg hpk]; exact hj
  have hjI : (j : Int) < (m : Int) := by omega
  have hiI : (i : Int) < (n : Int) := by omega
  clear h hb ho hwo hti hij hhx hvT hvK hnow1 hst' hva hcK hnow hnk hm hn
  go_enter Try.func35, Try.ntmps35
  go_wp2_with fail
  refine (HRD.out).mono ?_
  rintro e w1 ⟨v1, rfl, o1, b1⟩
  obtain ⟨a1, c1, rfl⟩ := row_form o1
  obtain ⟨g1, rfl, hg1, hc1⟩ := row_cell o1 (j := j) (x := .int .i64 (i : Nat)) (by rw [List.getElem?_map, HIJ.out]; rfl)
  have hp1 := (b1.block x hxs).trans HHX.out
  have cp1 : w1.cell? ⟨x, 1, none⟩ = some (.slice ak nk ck) := by have := cells_of_block hp1 1; simpa using this
  have cp5 : w1.cell? ⟨x, 5, none⟩ = some (.int .i64 (st : Nat)) := by have := cells_of_block hp1 5; simpa using this
  have HB1 : Hid _ := b1
  have HP1 : Hid _ := hp1
  have HC1 : Hid (w1.cell? ⟨g1, j, none⟩ = some (.int .i64 (i : Nat))) := hc1
  have HG1 : Hid (w.heap.size ≤ g1) := hg1
  clear o1 hp1 HRD b1 hc1 hg1
  go_wp2_with fail
  go_quiet (fail)
  obtain ⟨W5, hW5⟩ : ∃ W5, w1.drewN nq = W5 := ⟨_, rfl⟩
  have hh5 : ∀ b : Nat, W5.heap[b]? = w1.heap[b]? := fun b => by rw [← hW5]; rfl
  have B5 : Below w.heap.size w W5 := by rw [← hW5]; exact HB1.out.trans ((belD _ _).mono HB1.out.size)
  rw [hW5]
  have hp5 := (hh5 x).trans HP1.out
  have HC5 : Hid (W5.cell? ⟨g1, j, none⟩ = some (.int .i64 (i : Nat))) := by
    have := HC1.out
    simp only [Hid, World.cell?] at this ⊢
    rw [hh5 g1]
    exact this
  have c51 : W5.cell? ⟨x, 1, none⟩ = some (.slice ak nk ck) := by have := cells_of_block hp5 1; simpa using this
  have c55 : W5.cell? ⟨x, 5, none⟩ = some (.int .i64 (st : Nat)) := by have := cells_of_block hp5 5; simpa using this
  have c54 : W5.cell? ⟨x, 4, none⟩ = some (.int .u64 now) := by have := cells_of_block hp5 4; simpa using this
  have f54 : W5.frozen? ⟨x, 4, none⟩ = false := by simp [World.frozen?, hp5]
  have HP5 : Hid _ := hp5
  have HB5 : Hid _ := B5
  clear hW5 hh5 hp5 B5 HB1 HP1 HC1 cp1 cp5
  go_upto_if 29 with fail
  go_cut [6] from 10 (fun s6 wx => s6 = .slice (some ⟨g1, 0, none⟩) m c1 ∧ Hid (TW wx lo x { T with clock := now1 } ∧ Kb (fun b => b = x) w wx ∧ wx.cell? ⟨g1, j, none⟩ = some (.int .i64 (i : Nat))))
  case first =>
    rcases HST.out with ⟨h1, rfl⟩ | ⟨h1, b, off, y, rfl, hb, hx, hx0, hx1, hn0, hn1, rfl⟩
    · have hstk : decide ((st : Int) < (nk : Int)) = false := decide_eq_false (by omega)
      go_wp2_with fail
      go_meet
      case rel =>
        refine ⟨rfl, ?_, Kb.of_below HB5.out, HC5.out⟩
        have := HH.out.below HB5.out
        rw [← HNOW.out]
        exact this
    · have hstk : decide ((st : Int) < (nk : Int)) = true := decide_eq_true (by omega)
      have hstI : (st : Int) < (nk : Int) := by omega
      have hx5 : W5.cell? ⟨b, off + st, none⟩ = some (.int .i64 y) := (HB5.out.cell (p := ⟨b, off + st, none⟩) (by show b < w.heap.size; omega)).trans hx
      have e1 : IntKind.u64.wrap y = y := by simp [IntKind.wrap, IntKind.bits, IntKind.signed]; omega
      have e2 : IntKind.u64.wrap (now + y) = now + y := by simp [IntKind.wrap, IntKind.bits, IntKind.signed]; omega
      go_wp2_with fail
      go_big_region
      go_wp2_with fail
      go_meet
      case rel =>
        have k6 : Kb (fun b => b = x) W5 (W5.setCell ⟨x, 4, none⟩ (.int .u64 (now + y))).drew := ((Kb.refl (fun b => b = x) W5).setCell rfl _ _).drew
        have k5 : Kb (fun b => b = x) w W5 := Kb.of_below HB5.out
        have hx6 : (W5.setCell ⟨x, 4, none⟩ (.int .u64 (now + y))).drew.heap[x]? = _ := block_set HP5.out 4 (.int .u64 (now + y))
        refine ⟨rfl, ?_, (k5.setCell rfl _ _).drew, ?_⟩
        · refine (HH.out.below HB5.out).num (now + y) T.count T.used T.drawn ?_ k6
          rw [HVT.out, HVK.out, HSTE.out]
          exact hx6
        · have h6 := HC5.out
          have h7 : (W5.setCell ⟨x, 4, none⟩ (.int .u64 (now + y))).drew.heap[g1]? = W5.heap[g1]? := Below.heap_setCell _ _ _ _ (by show g1 ≠ x; have := HG1.out; omega)
          simp only [World.cell?] at h6 ⊢
          rw [h7]
          exact h6
  case rest =>
  obtain ⟨rfl, HW2⟩ := hcut
  obtain ⟨W2, hW2⟩ : ∃ W2, wc = W2 := ⟨_, rfl⟩
  rw [hW2]
  rw [hW2] at HW2
  obtain ⟨hT2, k2, hc2⟩ := HW2.out
  have hx2 := hT2.hx
  simp only [HVT.out, HVK.out, HSTE.out] at hx2
  have c25 : W2.cell? ⟨x, 5, none⟩ = some (.int .i64 (st : Nat)) := by have := cells_of_block hx2 5; simpa using this
  have f25 : W2.frozen? ⟨x, 5, none⟩ = false := by simp [World.frozen?, hx2]
  obtain ⟨W3, hW3⟩ : ∃ W3, W2.setCell ⟨x, 5, none⟩ (.int .i64 ((st : Int) + 1)) = W3 := ⟨_, rfl⟩
  have hx3 := block_set hx2 5 (.int .i64 ((st : Int) + 1))
  rw [hW3] at hx3
  have k3 : Kb (fun b => b = x) w W3 := by rw [← hW3]; exact k2.setCell rfl _ _
  have hT3 : TW W3 lo x { T with clock := now1, count := T.count + 1 } := by
    refine hT2.num now1 (T.count + 1) T.used T.drawn ?_ (by rw [← hW3]; exact (Kb.refl (fun b => b = x) W2).setCell rfl _ _)
    rw [hx3]
    simp only [HVT.out, HVK.out, HSTE.out]
    rfl
  have hti3 : ({ T with clock := now1, count := T.count + 1 } : TS).ts[i]? = some t := HTI.out
  obtain ⟨gT, cT', eT, d0, dA, dp, dw, dt⟩ := hT3.at hti3
  have eT' : T.vT = .slice (some ⟨gT, 0, none⟩) T.ts.length cT' := eT
  rw [HVT.out] at eT'
  simp only [Value.slice.injEq] at eT'
  obtain ⟨rfl, _, rfl⟩ := eT'
  have htt := hT3.each i t hti3
  obtain ⟨aA, cA, hvA, hAc⟩ := htt.acts
  obtain ⟨la, hla⟩ : ∃ la, t.acts.length = la := ⟨_, rfl⟩
  obtain ⟨ps, hps⟩ : ∃ ps, t.pos = ps := ⟨_, rfl⟩
  obtain ⟨ty, hty⟩ : ∃ ty, t.y = ty := ⟨_, rfl⟩
  have hlaB : la ≤ 10000000000000 := by rw [← hla]; exact HO.out.al t (List.mem_of_getElem? HTI.out)
  have hpl : ps ≤ la := by rw [← hla, ← hps]; exact htt.pos
  rw [hla] at hvA
  rw [hvA, hty] at dA
  rw [hps, hty] at dp
  rw [hty] at d0 dw dt
  have hxg1 : g1 ≠ x := by have := HG1.out; omega
  have c3g : W3.cell? ⟨g1, j, none⟩ = some (.int .i64 (i : Nat)) := by
    have h7 : W3.heap[g1]? = W2.heap[g1]? := by rw [← hW3]; exact Below.heap_setCell _ _ _ _ (by show g1 ≠ x; exact hxg1)
    simp only [World.cell?] at hc2 ⊢
    rw [h7]
    exact hc2
  have c33 : W3.cell? ⟨x, 3, none⟩ = some (.slice (some ⟨gT, 0, none⟩) n cT) := by have := cells_of_block hx3 3; simpa using this
  have HW3 : Hid _ := hW3
  have HT3 : Hid _ := hT3
  have HK3 : Hid _ := k3
  have HAC : Hid _ := hAc
  have HVA : Hid _ := hvA
  have HLA : Hid _ := hla
  have HPS : Hid _ := hps
  have HTY : Hid _ := hty
  clear hT2 k2 hx2 hx3 hT3 k3 htt hAc hvA hla hps hty eT hti3 hW2 HW2 HST HB5 HP5 HC5 c51 c55 c54 f54
  have e1 : IntKind.i64.wrap ((st : Int) + 1) = (st : Int) + 1 := by rw [IntKind.wrap_i64]; omega
  have s3g : (W2.setCell ⟨x, 5, none⟩ (.int .i64 ((st : Int) + 1))).cell? ⟨g1, j, none⟩ = some (.int .i64 (i : Nat)) := by rw [HW3.out]; exact c3g
  have s33 : (W2.setCell ⟨x, 5, none⟩ (.int .i64 ((st : Int) + 1))).cell? ⟨x, 3, none⟩ = some (.slice (some ⟨gT, 0, none⟩) n cT) := by rw [HW3.out]; exact c33
  have s3t : (W2.setCell ⟨x, 5, none⟩ (.int .i64 ((st : Int) + 1))).cell? ⟨gT, i, none⟩ = some (.pointer (some ⟨ty, 0, none⟩)) := by rw [HW3.out]; exact d0
  go_upto_region 9 with fail
  clear s3g s33 s3t hW3
  go_quiet (fail)
  obtain ⟨W4, hW4⟩ : ∃ W4, W3.drewN nq = W4 := ⟨_, rfl⟩
  rw [hW4]
  have b4 : Below W3.heap.size W3 W4 := by rw [← hW4]; exact belD _ _
  have hh4 : ∀ b : Nat, W4.heap[b]? = W3.heap[b]? := fun b => by rw [← hW4]; rfl
  have HT4 : Hid (TW W4 lo x { T with clock := now1, count := T.count + 1 }) := HT3.out.below b4
  have HK4 : Hid (Kb (fun b => b = x) w W4) := HK3.out.trans (Kb.of_below (S := fun _ => False) b4) (fun _ _ e => e.elim)
  have HTX : Hid (TFoot x T x ∧ TFoot x T ty ∧ ∀ g, t.vt.ownBlock = some g → TFoot x T g) := ⟨Or.inl rfl, Or.inr (Or.inr ⟨i, t, HTI.out, Or.inl HTY.out.symm⟩), fun g e => Or.inr (Or.inr ⟨i, t, HTI.out, Or.inr e⟩)⟩
  have hty0 : ty < w.heap.size := by rw [← HTY.out]; exact (Array.getElem?_eq_some_iff.1 (HH.out.each i t HTI.out).hy).1
  have HWT : Hid (t.wait = 0) := by
    have := List.mem_of_getElem? HIJ.out
    simp only [readyL, readyTo, List.mem_filter, List.mem_range] at this
    have h2 := this.2
    rw [show T.ps.waits = T.ts.map (·.wait) from rfl, waits_at HTI.out] at h2
    have h3 : t.wait = 0 := by simpa using h2
    exact h3
  have HAC4 : Hid (∀ (j : Nat) (y : Int × Int), t.acts[j]? = some y → ∃ b off, aA = some ⟨b, off, none⟩ ∧ b < lo ∧ W4.cell? ⟨b, off + 2 * j, none⟩ = some (.int .i64 y.1) ∧ W4.cell? ⟨b, off + 2 * j + 1, none⟩ = some (.int .i64 y.2)) := fun j y hj => by
    obtain ⟨b, off, f1, f2, f3, f4⟩ := HAC.out j y hj
    refine ⟨b, off, f1, f2, ?_, ?_⟩ <;> (simp only [World.cell?] at f3 f4 ⊢; rw [hh4 b]; assumption)
  have dA4 : W4.cell? ⟨ty, 0, none⟩ = some (.slice aA la cA) := by
    simp only [World.cell?] at dA ⊢; rw [hh4 ty]; exact dA
  have dp4 : W4.cell? ⟨ty, 1, none⟩ = some (.int .i64 (ps : Nat)) := by
    simp only [World.cell?] at dp ⊢; rw [hh4 ty]; exact dp
  clear hW4 b4 hh4 HAC HT3 HK3 d0 dA dp dw dt c3g c33 HW3 c25 f25 hc2 HIJ
  go_upto_if 80 with fail
  go_cut [7, 8] from 9 (fun s7 s8 wx => s7 = .int .i64 (i : Nat) ∧ s8 = .pointer (some ⟨ty, 0, none⟩) ∧ Hid (∃ T2 t2, TW wx lo x T2 ∧ T2.ts[i]? = some t2 ∧ t2.y = ty ∧ t2.acts = t.acts ∧ ({ T2 with ts := T2.ts.set i (fin t2) } : TS).ps = actP T.ps i ∧ Kb (TFoot x T) w wx ∧ TFootUp w x T T2 ∧ TSame T T2))
  case first =>
    by_cases hpe : ps < la
    · have hpd : decide ((ps : Int) < (la : Int)) = true := decide_eq_true (by omega)
      obtain ⟨⟨k, nn⟩, hact⟩ : ∃ y, t.acts[ps]? = some y := ⟨t.acts[ps]'(by rw [HLA.out]; exact hpe), List.getElem?_eq_getElem _⟩
      obtain ⟨bA, oA, rfl, hbA, ck, cn⟩ := HAC4.out ps (k, nn) hact
      have HACT : Hid _ := hact
      have hpI : (ps : Int) < (la : Int) := by omega
      have ck' : W4.cell? ⟨bA, oA + ps * 2, none⟩ = some (.int .i64 k) := by rw [Nat.mul_comm ps 2]; exact ck
      have cn' : W4.cell? ⟨bA, oA + ps * 2 + 1, none⟩ = some (.int .i64 nn) := by rw [Nat.mul_comm ps 2]; exact cn
      have hs4 : w.heap.size ≤ W4.heap.size := HK4.out.size
      have AL4 : ∀ (ad : Addr) v, ad.block < w.heap.size → W4.cell? ad = some v → (W4.alloc (.cells #[.int .i64 0, .int .i64 0] 54)).cell? ad = some v := fun ad v h1 h2 => (((Below.refl W4.heap.size W4).alloc (Nat.le_refl _) _).cell (p := ad) (by omega)).trans h2
      have dA4b := AL4 ⟨ty, 0, none⟩ _ hty0 dA4
      have dp4b := AL4 ⟨ty, 1, none⟩ _ hty0 dp4
      have hbA' : bA < w.heap.size := by omega
      have ckb := AL4 ⟨bA, oA + ps * 2, none⟩ _ hbA' ck'
      have cnb := AL4 ⟨bA, oA + ps * 2 + 1, none⟩ _ hbA' cn'
      clear hact AL4 ck cn
      go_upto_region 10 with fail
      go_cut [9] from 10 (fun s9 wx => ∃ M, s9 = .pointer (some ⟨M, 0, none⟩) ∧ Hid (wx.heap[M]? = some (.cells #[.int .i64 k, .int .i64 nn] 54 (0, 0)) ∧ w.heap.size ≤ M ∧ TW wx lo x { T with clock := now1, count := T.count + 1 } ∧ Kb (fun b => b = x) w wx))
      case first =>
        go_region
        go_wp2_with fail
        go_meet
        case rel =>
          have bA : Below W4.heap.size W4 (W4.alloc (.cells #[.int .i64 k, .int .i64 nn] 54)).drew := ((Below.refl W4.heap.size W4).alloc (Nat.le_refl _) _).drew
          exact ⟨_, rfl, World.alloc_heap_new _ _, hs4, HT4.out.below bA, HK4.out.trans (Kb.of_below (S := fun _ => False) bA) (fun _ _ e => e.elim)⟩
      case rest =>
      obtain ⟨M, rfl, HM⟩ := hcut
      obtain ⟨WA, hWA⟩ : ∃ WA, wc = WA := ⟨_, rfl⟩
      rw [hWA]
      rw [hWA] at HM
      obtain ⟨m1, m2, m3, m4⟩ := HM.out
      have htA := m3.each i t HTI.out
      obtain ⟨_, _, _, _, _, qp, qw, qt⟩ := m3.at (j := i) (t := t) HTI.out
      rw [HTY.out] at qp qw qt
      rw [HPS.out] at qp
      have fA1 : WA.frozen? ⟨ty, 1, none⟩ = false := by rw [← HTY.out]; simp [World.frozen?, htA.hy]
      obtain ⟨WB, hWB⟩ : ∃ WB, WA.setCell ⟨ty, 1, none⟩ (.int .i64 ((ps : Int) + 1)) = WB := ⟨_, rfl⟩
      obtain ⟨t4, ht4⟩ : ∃ t4 : TT, { t with pos := t.pos + 1 } = t4 := ⟨_, rfl⟩
      have HPUT := m3.cell_put (i := i) (o := 1) (v := .int .i64 ((ps : Int) + 1)) (t := t) (t' := t4) HTI.out (by rw [← ht4]) (by rw [← ht4]) (by rw [← ht4]) (by rw [← ht4]) (by rw [← ht4]) (by rw [← ht4]; show t.pos + 1 ≤ t.acts.length; rw [HPS.out, HLA.out]; omega) (by rw [← ht4]; simp [HPS.out])
      rw [HTY.out, hWB] at HPUT
      obtain ⟨u1, u2⟩ := HPUT
      obtain ⟨T4, hT4⟩ : ∃ T4 : TS, { T with clock := now1, count := T.count + 1, ts := T.ts.set i t4 } = T4 := ⟨_, rfl⟩
      have u1' : TW WB lo x T4 := by rw [← hT4]; exact u1
      have hsA : w.heap.size ≤ WA.heap.size := m4.size
      have hsB : WA.heap.size ≤ WB.heap.size := u2.size
      have mB : WB.heap[M]? = some (.cells #[.int .i64 k, .int .i64 nn] 54 (0, 0)) := (u2.block M (Array.getElem?_eq_some_iff.1 m1).1 (by omega)).trans m1
      have cM0 : WB.cell? ⟨M, 0, none⟩ = some (.int .i64 k) := by have := cells_of_block mB 0; simpa using this
      have cM1 : WB.cell? ⟨M, 1, none⟩ = some (.int .i64 nn) := by have := cells_of_block mB 1; simpa using this
      have hi4 : T4.ts[i]? = some t4 := by
        rw [← hT4]
        show (T.ts.set i t4)[i]? = some t4
        rw [List.getElem?_set]; simp [(List.getElem?_eq_some_iff.1 HTI.out).1]
      have hy4 : t4.y = ty := by rw [← ht4]; exact HTY.out
      have tt4 := u1'.each i t4 hi4
      have fB : ∀ o, WB.frozen? ⟨ty, o, none⟩ = false := fun o => by rw [← hy4]; simp [World.frozen?, tt4.hy]
      obtain ⟨_, _, _, _, _, _, qw4, qt4⟩ := u1'.at hi4
      rw [hy4] at qw4 qt4
      have hyB : ty < WB.heap.size := by omega
      have KB : Kb (TFoot x T) w WB := (m4.mono (fun b e => by rw [e]; exact HTX.out.1)).trans u2 (fun b _ e => by rw [e]; exact HTX.out.2.1)
      have UB : TFootUp w x T T4 := TFootUp.set HTI.out (t' := t4) (by rw [← ht4]) (Or.inl (by rw [← ht4])) _ (by rw [← hT4]) (by rw [← hT4])
      have HU : Hid (TW WB lo x T4) := u1'
      have HKB : Hid _ := KB
      have HUB : Hid _ := UB
      have HI4 : Hid _ := hi4
      have HT4E : Hid _ := hT4
      have Ht4E : Hid _ := ht4
      have Hy4 : Hid _ := hy4
      have fB2 := fB 2
      have fB3 := fB 3
      have hact' : t.acts[t.pos]? = some (k, nn) := by rw [HPS.out]; exact HACT.out
      have HACP : Hid _ := hact'
      have e5 : IntKind.i64.wrap ((ps : Int) + 1) = (ps : Int) + 1 := by rw [IntKind.wrap_i64]; omega
      have hxB : WB.cell? ⟨x, 4, none⟩ = some (.int .u64 now1) := by
        have h0 := u1'.hx
        rw [← hT4] at h0
        have := cells_of_block h0 4
        simpa using this
      have HTL : Hid (t4.told = t.told ∧ t4.wait = 0 ∧ t4.vt = t.vt ∧ t.told.length + 1 ≤ 10000000000000) := by
        refine ⟨by rw [← ht4], by rw [← ht4]; exact HWT.out, by rw [← ht4], ?_⟩
        have q := HBD.out.acts (t.acts.drop t.pos, t.told) (List.mem_map.2 ⟨t, List.mem_of_getElem? HTI.out, rfl⟩)
        have q2 : (t.acts.drop t.pos).length = la - ps := by rw [List.length_drop, HLA.out, HPS.out]
        simp only [q2] at q
        omega
      clear m1 m2 m3 m4 htA qt qw u1 u1' u2 mB hi4 hT4 ht4 hy4 tt4 fB KB UB hact' HM hWA dA4 dp4 dA4b dp4b ck' cn' ckb cnb HAC4 HT4 HK4 qw4
      by_cases k2 : k = 2
      · subst k2
        by_cases hc : 1 ≤ nn ∧ nn ≤ 1024
        · have g1 : decide (1 ≤ nn) = true := decide_eq_true hc.1
          have g2 : decide (nn ≤ 1024) = true := decide_eq_true hc.2
          have hcb : chanB nn = true := by unfold chanB; rw [g1, g2]; rfl
          obtain ⟨t5, ht5⟩ : ∃ t5 : TT, { t4 with wait := nn } = t5 := ⟨_, rfl⟩
          have HPT : Hid _ := HU.out.cell_put (i := i) (o := 2) (v := .int .i64 nn) (t := t4) (t' := t5) HI4.out (by rw [← ht5]) (by rw [← ht5]) (by rw [← ht5]) (by rw [← ht5]) (by rw [← ht5]) (by rw [← ht5]; exact (HU.out.each i t4 HI4.out).pos) (by rw [← ht5]; rfl)
          have Ht5 : Hid _ := ht5
          clear ht5
          have qw5 : ∃ v, WB.cell? ⟨ty, 2, none⟩ = some v := by
            obtain ⟨_, _, _, _, _, _, q, _⟩ := HU.out.at HI4.out
            rw [Hy4.out] at q
            exact ⟨_, q⟩
          obtain ⟨v5, qw5⟩ := qw5
          go_wp2_with fail
          go_meet
          case rel =>
            obtain ⟨p1, p2⟩ := HPT.out
            rw [Hy4.out] at p1 p2
            have cl := close_set (T2 := { T4 with ts := T4.ts.set i t5 }) (t2 := t5) HTI.out HACP.out (by decide) (by rw [← HT4E.out]; exact List.set_set ..) (by rw [← Ht5.out, ← Ht4E.out]) (by rw [← Ht5.out, ← Ht4E.out]) (by rw [← Ht5.out]; show t4.told = _; rw [HTL.out.1]; simp [toldP]) (by rw [← Ht5.out]; simp [hcb]) (by rw [← HT4E.out]) (by rw [← HT4E.out]) (by rw [← HT4E.out]) (by rw [← HT4E.out]) (by rw [← HT4E.out]; exact HNW1.out.symm) (by rw [← HT4E.out]) (by rw [← HT4E.out]; rfl) (by rw [← HT4E.out])
            exact ⟨rfl, rfl, _, t5, p1, cl.1, by rw [← Ht5.out]; exact Hy4.out, by rw [← Ht5.out, ← Ht4E.out], cl.2.1, HKB.out.trans p2 (fun b _ e => by rw [e]; exact HTX.out.2.1), TFootUp.trans (w' := w) HUB.out (TFootUp.set HI4.out (t' := t5) (by rw [← Ht5.out]) (Or.inl (by rw [← Ht5.out])) _ rfl rfl) (Nat.le_refl _), cl.2.2⟩
        · have hcb : chanB nn = false := by unfold chanB; simp; omega
          have HSAME : Hid (∃ T2 t2, TW WB lo x T2 ∧ T2.ts[i]? = some t2 ∧ t2.y = ty ∧ t2.acts = t.acts ∧ ({ T2 with ts := T2.ts.set i (fin t2) } : TS).ps = actP T.ps i ∧ Kb (TFoot x T) w WB ∧ TFootUp w x T T2 ∧ TSame T T2) := by
            have cl := close_set (T2 := T4) (t2 := t4) HTI.out HACP.out (by decide) (by rw [← HT4E.out]) (by rw [← Ht4E.out]) (by rw [← Ht4E.out]) (by rw [HTL.out.1]; simp [toldP]) (by rw [HTL.out.2.1]; simp [hcb]) (by rw [← HT4E.out]) (by rw [← HT4E.out]) (by rw [← HT4E.out]) (by rw [← HT4E.out]) (by rw [← HT4E.out]; exact HNW1.out.symm) (by rw [← HT4E.out]) (by rw [← HT4E.out]; rfl) (by rw [← HT4E.out])
            exact ⟨T4, t4, HU.out, cl.1, Hy4.out, by rw [← Ht4E.out], cl.2.1, HKB.out, HUB.out, cl.2.2⟩
          by_cases h1 : 1 ≤ nn
          · have g1 : decide (1 ≤ nn) = true := decide_eq_true h1
            have g2 : decide (nn ≤ 1024) = false := decide_eq_false (by omega)
            go_wp2_with fail
            go_meet
            case rel => exact ⟨rfl, rfl, HSAME.out⟩
          · have g1 : decide (1 ≤ nn) = false := decide_eq_false h1
            go_wp2_with fail
            go_meet
            case rel => exact ⟨rfl, rfl, HSAME.out⟩
      by_cases k3 : k = 3
      · subst k3
        have hl4 : T4.ts.length ≤ 64 := by
          rw [← HT4E.out]
          show (T.ts.set i t4).length ≤ 64
          rw [List.length_set]; omega
        have HWK : Hid _ := twake lo x nn T4 WB HU.out hl4
        go_wp2_with fail
        refine Calls.mono HWK.out ?_
        rintro e w5 ⟨rfl, v1, v2⟩
        have HV1 : Hid _ := v1
        have HV2 : Hid _ := v2
        clear v1 v2 HWK
        go_wp2_with fail
        go_meet
        case rel =>
          have cl := close_wake (T2 := { T4 with ts := T4.ts.map (wkT nn) }) (t2 := t4) HWO.out HTI.out HACP.out (by rw [← HT4E.out]) (by rw [← Ht4E.out]) (by rw [← Ht4E.out]) HTL.out.1 HTL.out.2.1 (by rw [← HT4E.out]) (by rw [← HT4E.out]) (by rw [← HT4E.out]) (by rw [← HT4E.out]) (by rw [← HT4E.out]; exact HNW1.out.symm) (by rw [← HT4E.out]) (by rw [← HT4E.out]) (by rw [← HT4E.out])
          exact ⟨rfl, rfl, _, _, HV1.out, cl.1, Hy4.out, by rw [← Ht4E.out]; rfl, cl.2.1, HKB.out.trans HV2.out (fun b hb e => (HUB.out b (by obtain ⟨j, u, hj, e⟩ := e; exact Or.inr (Or.inr ⟨j, u, hj, Or.inl e⟩))).resolve_right (by omega)), TFootUp.trans (w' := w) HUB.out (TFootUp.wake nn _ rfl rfl) (Nat.le_refl _), cl.2.2⟩
      by_cases k4 : k = 4
      · subst k4
        obtain ⟨kl, hkl⟩ : ∃ kl, t4.told.length = kl := ⟨_, rfl⟩
        have tt4 := HU.out.each i t4 HI4.out
        obtain ⟨aV, cV, hvt⟩ := row_form tt4.told
        rw [hkl] at hvt
        have hown := tt4.told
        rw [hkl, hvt] at hown
        rw [hvt] at qt4
        have hklb : kl + 1 ≤ 10000000000000 := by rw [← hkl, HTL.out.1]; exact HTL.out.2.2.2
        have hra : Hid (∀ o, (WB.alloc o).ownsRow lo 45 1 (.slice aV kl cV) kl (t4.told.map nV)) := fun o => World.ownsRow.alloc hown o
        have hloB : lo ≤ WB.heap.size := by omega
        have hy0 : WB.heap[ty]? = some (.cells #[t4.vA, .int .i64 (t4.pos : Nat), .int .i64 t4.wait, .slice aV kl cV] 78 (0, 0)) := by have := tt4.hy; rw [Hy4.out, hvt] at this; exact this
        have HX : Hid (∀ (w2 : World) (o : Obj), (WB.alloc o).grownBy w2 (Value.slice aV kl cV).ownBlock → w2.cell? ⟨ty, 3, none⟩ = some (.slice aV kl cV) ∧ w2.frozen? ⟨ty, 3, none⟩ = false) := fun w2 o hg => by
          have hh := (hg.block ty (by simp; omega) (fun e => HU.out.ty HI4.out ty (by rw [hvt]; exact e.symm) Hy4.out.symm)).trans ((Below.heap_alloc _ _ _ hyB).trans hy0)
          exact ⟨by have := cells_of_block hh 3; simpa using this, by simp [World.frozen?, hh]⟩
        have HFIN : Hid (∀ (g cap : Nat) (w2 : World) (o : Obj), w2.ownsRow lo 45 1 (.slice (some ⟨g, 0, none⟩) (kl + 1) cap) (kl + 1) (t4.told.map nV ++ [.int .u64 now1]) → (WB.alloc o).grownBy w2 (Value.slice aV kl cV).ownBlock → ((Value.slice aV kl cV).ownBlock = some g ∨ g = WB.heap.size + 1) → ∃ T2 t2, TW (w2.setCell ⟨ty, 3, none⟩ (.slice (some ⟨g, 0, none⟩) (kl + 1) cap)) lo x T2 ∧ T2.ts[i]? = some t2 ∧ t2.y = ty ∧ t2.acts = t.acts ∧ ({ T2 with ts := T2.ts.set i (fin t2) } : TS).ps = actP T.ps i ∧ Kb (TFoot x T) w (w2.setCell ⟨ty, 3, none⟩ (.slice (some ⟨g, 0, none⟩) (kl + 1) cap)) ∧ TFootUp w x T T2 ∧ TSame T T2) := fun g cap w2 o r1 r2 r3 => by
          have p := HU.out.told_put (c := now1) (cap := cap) (g := g) HI4.out (by rw [hkl]; exact r1) (by rw [hvt]; exact r2) (by rw [hvt]; exact r3.imp id (fun e => by omega))
          rw [hkl] at p
          obtain ⟨t5, ht5⟩ : ∃ t5 : TT, { t4 with vt := .slice (some ⟨g, 0, none⟩) (kl + 1) cap, told := t4.told ++ [now1] } = t5 := ⟨_, rfl⟩
          rw [ht5, Hy4.out] at p
          have cl := close_set (T2 := { T4 with ts := T4.ts.set i t5 }) (t2 := t5) HTI.out HACP.out (by decide) (by rw [← HT4E.out]; exact List.set_set ..) (by rw [← ht5, ← Ht4E.out]) (by rw [← ht5, ← Ht4E.out]) (by rw [← ht5]; show t4.told ++ [now1] = _; rw [HTL.out.1, ← HNW1.out]; simp [toldP]) (by rw [← ht5]; exact HTL.out.2.1) (by rw [← HT4E.out]) (by rw [← HT4E.out]) (by rw [← HT4E.out]) (by rw [← HT4E.out]) (by rw [← HT4E.out]; exact HNW1.out.symm) (by rw [← HT4E.out]) (by rw [← HT4E.out]; rfl) (by rw [← HT4E.out])
          refine ⟨_, t5, p.1, cl.1, by rw [← ht5]; exact Hy4.out, by rw [← ht5, ← Ht4E.out], cl.2.1, HKB.out.trans p.2 (fun b _ e => ?_), TFootUp.trans HUB.out (TFootUp.set (w := WB) HI4.out (t' := t5) (by rw [← ht5]) (by rw [← ht5, hvt]; exact r3.imp (fun e => by rw [e]; rfl) (fun e => ⟨g, rfl, by omega⟩)) _ rfl rfl) (by omega), cl.2.2⟩
          rcases e with e | e
          · rw [e]; exact HTX.out.2.1
          · rw [HTL.out.2.2.1] at e; exact HTX.out.2.2 b e
        obtain ⟨i0, hi, hz0, hz1, hz2⟩ := info_parts info45
        have HVT4 : Hid _ := hvt
        have HKL : Hid _ := hkl
        have hra2 : (WB.alloc (.cells #[.int .u64 now1] 45)).cell? ⟨ty, 3, none⟩ = some (.slice aV kl cV) := (((Below.refl WB.heap.size WB).alloc (Nat.le_refl _) _).cell (p := ⟨ty, 3, none⟩) hyB).trans qt4
        clear tt4 hvt hkl hown hy0
        go_upto_region 19 with fail
        go_region_law (refine step_append_lies _ rfl (.tmp 127) (.tmp 132) 23 rfl lo 45 i0 (.int .u64 0) 1 8 Try.underlying23 hi hz0 hz1 hz2 rfl (by decide) _ _ _ rfl (by exact hra.out _) ⟨WB.heap.size, 0, none⟩ 1 1 [.int .u64 now1] rfl rfl (by exact cell_one_new _ _ _) (by simp [Value.oneCell']) (by decide) (by unfold maxLen; omega) (by omega) (by simp; omega) (WB.heap.size + 1) (by simp) ?_; intro g cap w2 hown2 hg2 hat2 hlt2; obtain ⟨x1, x2⟩ := HX.out w2 _ (grownBy_undrew hg2))
        all_goals
          go_wp2_with fail
          go_meet
          exact ⟨rfl, rfl, HFIN.out g cap w2 _ hown2 (grownBy_undrew hg2) hat2⟩
      by_cases k5 : k = 5
      · subst k5
        obtain ⟨kl, hkl⟩ : ∃ kl, t4.told.length = kl := ⟨_, rfl⟩
        have tt4 := HU.out.each i t4 HI4.out
        obtain ⟨aV, cV, hvt⟩ := row_form tt4.told
        rw [hkl] at hvt
        rw [hvt] at qt4
        have hklb : kl + 1 ≤ 10000000000000 := by rw [← hkl, HTL.out.1]; exact HTL.out.2.2.2
        obtain ⟨T5, hT5⟩ : ∃ T5 : TS, { T4 with drawn := T4.drawn + 1 } = T5 := ⟨_, rfl⟩
        obtain ⟨xx, hxx⟩ : ∃ xx, drawI T.ps.draws T.ps.fu = xx := ⟨_, rfl⟩
        have HDR : Hid (Calls Try.prog 48 #[.pointer (some ⟨x, 0, none⟩)] WB.drew fun r w' => r = .returned (.int .u64 xx) ∧ TW w' lo x T5 ∧ Kb (fun b => b = x) WB.drew w') := by
          have hdr : T4.drawn < 100000000000000000 := by
            have q1 := HBD.out.fu
            have q2 : T.drawn - T.draws.length ≤ T.count := q1
            have q3 := HO.out.dl
            have q4 := HSTE.out
            rw [← HT4E.out]
            show T.drawn < _
            omega
          have hdl : T4.draws.length ≤ 65536 := by rw [← HT4E.out]; exact HO.out.dl
          have := tdraw lo x T4 WB.drew (HU.out.below ((Below.refl _ _).drew)) hdr hdl
          rw [hT5, show drawI T4.ps.draws T4.ps.fu = xx from by rw [← HT4E.out]; exact hxx] at this
          exact this
        have hi5 : T5.ts[i]? = some t4 := by rw [← hT5]; exact HI4.out
        have H5 : Hid (∀ w5 : World, TW w5 lo x T5 → w5.heap[ty]? = some (.cells #[t4.vA, .int .i64 (t4.pos : Nat), .int .i64 t4.wait, .slice aV kl cV] 78 (0, 0)) ∧ w5.cell? ⟨ty, 3, none⟩ = some (.slice aV kl cV) ∧ ty < w5.heap.size ∧ (∀ o, (w5.alloc o).ownsRow lo 45 1 (.slice aV kl cV) kl (t4.told.map nV)) ∧ lo ≤ w5.heap.size) := fun w5 h5 => by
          have tt5 := h5.each i t4 hi5
          have hy5 := tt5.hy
          rw [Hy4.out, hvt] at hy5
          have ho5 := tt5.told
          rw [hkl, hvt] at ho5
          refine ⟨hy5, by have := cells_of_block hy5 3; simpa using this, (Array.getElem?_eq_some_iff.1 hy5).1, fun o => World.ownsRow.alloc ho5 o, ?_⟩
          have := h5.lox
          have := h5.xs
          omega
        have HX : Hid (∀ (w5 w2 : World) (o : Obj), TW w5 lo x T5 → (w5.alloc o).grownBy w2 (Value.slice aV kl cV).ownBlock → w2.cell? ⟨ty, 3, none⟩ = some (.slice aV kl cV) ∧ w2.frozen? ⟨ty, 3, none⟩ = false) := fun w5 w2 o h5 hg => by
          obtain ⟨hy5, _, hs5, _⟩ := H5.out w5 h5
          have hh := (hg.block ty (by simp; omega) (fun e => h5.ty hi5 ty (by rw [hvt]; exact e.symm) Hy4.out.symm)).trans ((Below.heap_alloc _ _ _ hs5).trans hy5)
          exact ⟨by have := cells_of_block hh 3; simpa using this, by simp [World.frozen?, hh]⟩
        have HFIN : Hid (∀ (g cap : Nat) (w5 w2 : World) (o : Obj), TW w5 lo x T5 → Kb (fun b => b = x) WB.drew w5 → w2.ownsRow lo 45 1 (.slice (some ⟨g, 0, none⟩) (kl + 1) cap) (kl + 1) (t4.told.map nV ++ [.int .u64 xx]) → (w5.alloc o).grownBy w2 (Value.slice aV kl cV).ownBlock → ((Value.slice aV kl cV).ownBlock = some g ∨ g = w5.heap.size + 1) → ∃ T2 t2, TW (w2.setCell ⟨ty, 3, none⟩ (.slice (some ⟨g, 0, none⟩) (kl + 1) cap)) lo x T2 ∧ T2.ts[i]? = some t2 ∧ t2.y = ty ∧ t2.acts = t.acts ∧ ({ T2 with ts := T2.ts.set i (fin t2) } : TS).ps = actP T.ps i ∧ Kb (TFoot x T) w (w2.setCell ⟨ty, 3, none⟩ (.slice (some ⟨g, 0, none⟩) (kl + 1) cap)) ∧ TFootUp w x T T2 ∧ TSame T T2) := fun g cap w5 w2 o h5 k5 r1 r2 r3 => by
          have p := h5.told_put (c := xx) (cap := cap) (g := g) hi5 (by rw [hkl]; exact r1) (by rw [hvt]; exact r2) (by rw [hvt]; exact r3.imp id (fun e => by omega))
          rw [hkl] at p
          obtain ⟨t5, ht5⟩ : ∃ t5 : TT, { t4 with vt := .slice (some ⟨g, 0, none⟩) (kl + 1) cap, told := t4.told ++ [xx] } = t5 := ⟨_, rfl⟩
          rw [ht5, Hy4.out] at p
          have hs5 : WB.heap.size ≤ w5.heap.size := k5.size
          have kw5 : Kb (TFoot x T) w w5 := HKB.out.drew.trans k5 (fun b _ e => by rw [e]; exact HTX.out.1)
          have cl := close_set (T2 := { T5 with ts := T5.ts.set i t5 }) (t2 := t5) HTI.out HACP.out (by decide) (by rw [← hT5, ← HT4E.out]; exact List.set_set ..) (by rw [← ht5, ← Ht4E.out]) (by rw [← ht5, ← Ht4E.out]) (by rw [← ht5]; show t4.told ++ [xx] = _; rw [HTL.out.1, ← hxx]; simp [toldP]) (by rw [← ht5]; exact HTL.out.2.1) (by rw [← hT5, ← HT4E.out]) (by rw [← hT5, ← HT4E.out]) (by rw [← hT5, ← HT4E.out]) (by rw [← hT5, ← HT4E.out]) (by rw [← hT5, ← HT4E.out]; exact HNW1.out.symm) (by rw [← hT5, ← HT4E.out]) (by rw [← hT5, ← HT4E.out]; rfl) (by rw [← hT5, ← HT4E.out])
          have U5 : TFootUp w x T T5 := by rw [← hT5]; exact HUB.out
          refine ⟨_, t5, p.1, cl.1, by rw [← ht5]; exact Hy4.out, by rw [← ht5, ← Ht4E.out], cl.2.1, kw5.trans p.2 (fun b _ e => ?_), TFootUp.trans U5 (TFootUp.set (w := w5) hi5 (t' := t5) (by rw [← ht5]) (by rw [← ht5, hvt]; exact r3.imp (fun e => by rw [e]; rfl) (fun e => ⟨g, rfl, by omega⟩)) _ rfl rfl) (by omega), cl.2.2⟩
          rcases e with e | e
          · rw [e]; exact HTX.out.2.1
          · rw [HTL.out.2.2.1] at e; exact HTX.out.2.2 b e
        obtain ⟨i0, hi, hz0, hz1, hz2⟩ := info_parts info45
        clear tt4 hvt hkl hT5 hxx hi5
        go_upto_region 21 with fail
        go_region_law (first
          | (have hno := HDR; go_simp; go_wp2_with (go_at_call 48; refine Calls.mono HDR.out ?_; rintro e w5 ⟨rfl, h5, k5⟩); obtain ⟨_, cq5, hs5, ha5, hl5⟩ := H5.out w5 h5; have cq6 := ((((Below.refl w5.heap.size w5).alloc (Nat.le_refl _) (.cells #[.int .u64 xx] 45)).cell (p := ⟨ty, 3, none⟩) hs5).trans cq5); have HK5 : Hid _ := k5; have HH5 : Hid _ := h5; clear HDR k5 h5)
          | (refine step_append_lies _ rfl (.tmp 142) (.tmp 145) 23 rfl lo 45 i0 (.int .u64 0) 1 8 Try.underlying23 hi hz0 hz1 hz2 rfl (by decide) _ _ _ rfl (by exact ha5 _) ⟨w5.heap.size, 0, none⟩ 1 1 [.int .u64 xx] rfl rfl (by exact cell_one_new _ _ _) (by simp [Value.oneCell']) (by decide) (by unfold maxLen; omega) (by omega) (by simp; omega) (w5.heap.size + 1) (by simp) ?_; intro g cap w2 hown2 hg2 hat2 hlt2; obtain ⟨x1, x2⟩ := HX.out w5 w2 _ HH5.out hg2))
        all_goals
          go_wp2_with fail
          go_meet
          exact ⟨rfl, rfl, HFIN.out g cap w5 w2 _ HH5.out HK5.out hown2 hg2 hat2⟩
      · have e2 : (k == 2) = false := by simpa using k2
        have e3 : (k == 3) = false := by simpa using k3
        have e4 : (k == 4) = false := by simpa using k4
        have e6 : (k == 5) = false := by simpa using k5
        go_wp2_with fail
        go_meet
        case rel =>
          have cl := close_set (T2 := T4) (t2 := t4) HTI.out HACP.out k3 (by rw [← HT4E.out]) (by rw [← Ht4E.out]) (by rw [← Ht4E.out]) (by rw [HTL.out.1]; simp [toldP, k4, k5]) (by rw [HTL.out.2.1]; simp [k2]) (by rw [← HT4E.out]) (by rw [← HT4E.out]) (by rw [← HT4E.out]) (by rw [← HT4E.out]) (by rw [← HT4E.out]; exact HNW1.out.symm) (by rw [← HT4E.out]) (by rw [← HT4E.out, if_neg k5]) (by rw [← HT4E.out])
          exact ⟨rfl, rfl, T4, t4, HU.out, cl.1, Hy4.out, by rw [← Ht4E.out], cl.2.1, HKB.out, HUB.out, cl.2.2⟩
    · have hpd : decide ((ps : Int) < (la : Int)) = false := decide_eq_false (by omega)
      go_wp2_with fail
      go_meet
      case rel =>
        refine ⟨rfl, rfl, _, t, HT4.out, HTI.out, HTY.out, rfl, act_nil HTI.out (by rw [HPS.out, HLA.out]; omega) (by rw [HNW1.out]), HK4.out.mono (fun b e => by rw [e]; exact HTX.out.1), TFootUp.refl _ _ _, ⟨rfl, rfl, rfl, rfl, rfl⟩⟩
  case rest =>
  obtain ⟨rfl, rfl, HW6⟩ := hcut
  obtain ⟨W6, hW6⟩ : ∃ W6, wc = W6 := ⟨_, rfl⟩
  rw [hW6]
  rw [hW6] at HW6
  obtain ⟨T2, t2, h1, h2, h3, h4, h5, h6, h7, h8⟩ := HW6.out
  obtain ⟨ps2, hps2⟩ : ∃ ps2, t2.pos = ps2 := ⟨_, rfl⟩
  have htt2 := h1.each i t2 h2
  obtain ⟨aB, cB, hvB, _⟩ := htt2.acts
  have hp2l : ps2 ≤ la := by rw [← hps2, ← HLA.out, ← h4]; exact htt2.pos
  rw [h4, HLA.out] at hvB
  obtain ⟨_, _, _, _, q0, q1, _, _⟩ := h1.at h2
  rw [hvB, h3] at q0
  rw [hps2, h3] at q1
  have f62 : W6.frozen? ⟨ty, 2, none⟩ = false := by rw [← h3]; simp [World.frozen?, htt2.hy]
  have HHH : Hid _ := HW6.out
  have HQ : Hid (TW W6 lo x T2 ∧ T2.ts[i]? = some t2 ∧ t2.y = ty ∧ t2.acts = t.acts ∧ ({ T2 with ts := T2.ts.set i (fin t2) } : TS).ps = actP T.ps i ∧ Kb (TFoot x T) w W6 ∧ TFootUp w x T T2 ∧ TSame T T2) := ⟨h1, h2, h3, h4, h5, h6, h7, h8⟩
  have HP2 : Hid _ := hps2
  clear h1 h2 h3 h4 h5 h6 h7 h8 htt2 hvB HHH HW6 hW6 hps2 dA4 dp4 HAC4 HT4 HK4
  go_wp2_with fail
  go_quiet (fail)
  obtain ⟨W7, hW7⟩ : ∃ W7, W6.drewN nq = W7 := ⟨_, rfl⟩
  rw [hW7]
  have b7 : Below W6.heap.size W6 W7 := by rw [← hW7]; exact belD _ _
  have f72 : W7.frozen? ⟨ty, 2, none⟩ = false := by rw [← hW7]; exact f62
  have HQ7 : Hid (TW W7 lo x T2 ∧ Kb (TFoot x T) w W7) := ⟨HQ.out.1.below b7, HQ.out.2.2.2.2.2.1.trans (Kb.of_below (S := fun _ => False) b7) (fun _ _ e => e.elim)⟩
  have c72 : ∃ v, W7.cell? ⟨ty, 2, none⟩ = some v := by
    obtain ⟨_, _, _, _, _, _, q2, _⟩ := HQ7.out.1.at HQ.out.2.1
    rw [HQ.out.2.2.1] at q2
    exact ⟨_, q2⟩
  obtain ⟨v72, c72⟩ := c72
  clear hW7 b7 q0 q1 f62
  by_cases hpe : ps2 = la
  · have hg1 : decide ((la : Int) ≤ (ps2 : Int)) = true := decide_eq_true (by omega)
    have hg2 : decide ((ps2 : Int) ≥ (la : Int)) = true := decide_eq_true (by omega)
    go_wp2_with fail
    go_ret2
    obtain ⟨_, i2, i3, i4, i5, _, i7, i8⟩ := HQ.out
    obtain ⟨j1, j2⟩ := HQ7.out
    obtain ⟨l1, l2⟩ := j1.cell_put (o := 2) (v := .int .i64 (-1)) (t' := fin t2) i2 rfl rfl rfl rfl rfl (j1.each i t2 i2).pos (by simp [fin, HP2.out, i4, HLA.out, hpe])
    rw [i3] at l1 l2
    refine ⟨rfl, _, l1, i5, j2.trans l2 (fun b _ e => by rw [e]; exact HTX.out.2.1), i7.trans (w' := w) (TFootUp.set i2 (t' := fin t2) rfl (Or.inl rfl) _ rfl rfl) (Nat.le_refl _), i8.trans (TSame.set i2 rfl rfl rfl rfl rfl rfl)⟩
  · have hg1 : decide ((la : Int) ≤ (ps2 : Int)) = false := decide_eq_false (by omega)
    have hg2 : decide ((ps2 : Int) ≥ (la : Int)) = false := decide_eq_false (by omega)
    go_wp2_with fail
    go_ret2
    obtain ⟨_, i2, i3, i4, i5, _, i7, i8⟩ := HQ.out
    obtain ⟨j1, j2⟩ := HQ7.out
    have ef : fin t2 = t2 := by unfold fin; rw [if_neg (by rw [HP2.out, i4, HLA.out]; exact hpe)]
    rw [ef, set_same i2] at i5
    exact ⟨rfl, T2, j1, i5, j2, i7, i8⟩
end Go.Proofs.Ytefmhghdehokcaa
