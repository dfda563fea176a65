/-
  The walk of SchedDone: whatever the timing and tasks, the call returns true, and turns nothing that was there.
-/
import Derived.Test.YtefmhghdehokcaaRuns
import Derived.Test.YtefmhghdehokcaaBothG
namespace Go.Proofs.Ytefmhghdehokcaa
open Go.RowKit
/-- Acts that are handed in: a slice, and where they lie. -/
def TaskArg (w : World) (v : Value) (la : List (Int × Int)) : Prop := ∃ a c, v = .slice a la.length c ∧ ∀ j y, la[j]? = some y → ∃ b off, a = some ⟨b, off, none⟩ ∧ b < w.heap.size ∧ w.cell? ⟨b, off + 2 * j, none⟩ = some (.int .i64 y.1) ∧ w.cell? ⟨b, off + 2 * j + 1, none⟩ = some (.int .i64 y.2)
theorem TaskArg.below {w w' : World} {v : Value} {la : List (Int × Int)} (h : TaskArg w v la) (k : Below w.heap.size w w') : TaskArg w' v la := by
  obtain ⟨a, c, h1, h2⟩ := h
  refine ⟨a, c, h1, fun j y hj => ?_⟩
  obtain ⟨b, off, e1, e2, e3, e4⟩ := h2 j y hj
  exact ⟨b, off, e1, Nat.lt_of_lt_of_le e2 k.size, (k.cell (p := ⟨b, off + 2 * j, none⟩) e2).trans e3, (k.cell (p := ⟨b, off + 2 * j + 1, none⟩) e2).trans e4⟩
/-- The acts among the first k that do not wait. -/
def keepL (la : List (Int × Int)) (k : Nat) : List (Int × Int) := (la.take k).filter (fun a => a.1 != 2)
theorem keepL_succ {la : List (Int × Int)} {k : Nat} {y : Int × Int} (h : la[k]? = some y) : keepL la (k + 1) = if y.1 != 2 then keepL la k ++ [y] else keepL la k := by
  have hk := (List.getElem?_eq_some_iff.1 h).1
  have he : la.take (k + 1) = la.take k ++ [y] := by
    rw [List.take_add_one, h]; rfl
  unfold keepL
  rw [he, List.filter_append]
  by_cases hy : (y.1 != 2) = true
  · rw [if_pos hy]; simp [hy]
  · rw [if_neg hy]; simp [hy]
theorem keepL_len (la : List (Int × Int)) (k : Nat) : (keepL la k).length ≤ k := by
  have h1 := List.length_filter_le (fun a : Int × Int => a.1 != 2) (la.take k)
  have h2 := List.length_take_le k la
  unfold keepL
  omega
theorem keepL_nw (la : List (Int × Int)) (k : Nat) : ∀ a ∈ keepL la k, a.1 ≠ 2 := fun a ha => by
  unfold keepL at ha
  have := (List.mem_filter.1 ha).2
  simpa using this
theorem flA_snoc (l : List (Int × Int)) (y : Int × Int) : flA (l ++ [y]) = flA l ++ [.int .i64 y.1, .int .i64 y.2] := by simp [flA]
/-- Both loops while tasks come that do not wait. -/
def DAcc (w : World) (b p x i all : Nat) : Prop := ∃ S, Both w b p x S ∧ S.tks.length = i ∧ DInv S.ps ∧ remL S.ps.tasks S.ps.waits = all ∧ S.steps = 0
theorem DAcc.below {w w' : World} {b p x i all : Nat} (h : DAcc w b p x i all) (k : Below w.heap.size w w') : DAcc w' b p x i all := by
  obtain ⟨S, h1, h2⟩ := h
  exact ⟨S, h1.below k, h2⟩
theorem remL_snoc {ts : List (List (Int × Int) × List Int)} {xs : List Int} (t : List (Int × Int) × List Int) (h : ts.length = xs.length) : remL (ts ++ [t]) (xs ++ [0]) = remL ts xs + max 1 t.1.length := by
  induction ts generalizing xs with
  | nil =>
    have : xs = [] := List.eq_nil_of_length_eq_zero (by simpa using h.symm)
    subst this
    simp [remL]
  | cons a ts ih =>
    cases xs with
    | nil => simp at h
    | cons y xs =>
      have := ih (xs := xs) (by simpa using h)
      simp only [List.cons_append, remL]
      omega
theorem dacc_add (b p x i all : Nat) (v : Value) (la : List (Int × Int)) (w : World) (h : DAcc w b p x i all) (hi : i < 64) (hla : la.length ≤ 200) (hnw : ∀ a ∈ la, a.1 ≠ 2) (hs : Src w v la) :
    Calls Try.prog 10 #[.pointer (some ⟨b, 0, none⟩), v] w fun r w' => r = .returned (.bool true) ∧ DAcc w' b p x (i + 1) (all + max 1 la.length) ∧ Below p w w' := by
  obtain ⟨S, h1, h2, h3, h4, h5⟩ := h
  refine (both_addG b p x v la S w h1 (by omega) (by omega) hs).mono ?_
  rintro r w' ⟨rfl, t, S', e1, e2, e3, e4, e5, e6, e7, e8, e9, e10, e11, e12, _⟩
  have et : S'.ps.tasks = S.ps.tasks ++ [(la, [])] := by
    show S'.tks.map _ = S.tks.map _ ++ [(la, [])]
    rw [e3, List.map_append, List.map_singleton, e1, e2]
  have ew : S'.ps.waits = S.ps.waits ++ [0] := e4
  have hlen : S.ps.tasks.length = S.ps.waits.length := h3.bd.wlen.symm
  refine ⟨rfl, ⟨S', e11, by rw [e3]; simp; omega, ?_, by rw [et, ew, remL_snoc _ hlen, h4], by rw [e7, h5]⟩, e12⟩
  refine { bd := { len := ?_, wlen := ?_, acts := ?_, fu := ?_, draws := ?_, tcs := ?_, now0 := ?_, now1 := ?_, pks := ?_ }, wts := ?_, nw := ?_ }
  · rw [et, List.length_append]
    have : S.ps.tasks.length = S.tks.length := by simp [LS.ps]
    simp; omega
  · rw [et, ew, List.length_append, List.length_append, hlen]; rfl
  · rw [et]
    intro y hy
    have hs : S'.ps.steps = S.ps.steps := e7
    rcases List.mem_append.1 hy with e | e
    · have := h3.bd.acts y e
      rw [hs]; exact this
    · rw [List.mem_singleton] at e
      subst e
      exact ⟨by show la.length < _; omega, Nat.zero_le _⟩
  · show S'.fu ≤ S'.steps
    rw [e10, e7]; exact h3.bd.fu
  · show S'.draws.length ≤ _
    rw [e9]; exact h3.bd.draws
  · show ∀ x ∈ S'.ticks, _
    rw [e5]; exact h3.bd.tcs
  · show 0 ≤ S'.now
    rw [e6]; exact h3.bd.now0
  · show S'.now ≤ (S'.steps : Int) * _
    rw [e6, e7]; exact h3.bd.now1
  · show ∀ x ∈ S'.picks, _
    rw [e8]; exact h3.bd.pks
  · rw [ew]
    intro y hy
    rcases List.mem_append.1 hy with e | e
    · exact h3.wts y e
    · rw [List.mem_singleton] at e; exact Or.inl e
  · rw [et]
    intro tk htk
    rcases List.mem_append.1 htk with e | e
    · exact h3.nw tk e
    · rw [List.mem_singleton] at e
      subst e
      exact hnw
theorem cell_two_new (w : World) (u v : Value) (t : TypeId) : ∀ j x, [u, v][j]? = some x → (w.alloc (.cells #[u, v] t)).cell? ((⟨w.heap.size, 0, none⟩ : Addr).add j) = some x := by
  intro j x hj
  have c := cells_of_block (World.alloc_heap_new w (.cells #[u, v] t))
  have hl := (List.getElem?_eq_some_iff.1 hj).1
  rw [addr_add, Nat.zero_add, c]
  match j, hl, hj with
  | 0, _, hj => exact hj
  | 1, _, hj => exact hj
  | j + 2, hl, _ => simp at hl; omega
theorem src_own {w : World} {B n : Nat} {v : Value} {la : List (Int × Int)} (h : w.ownsRow B 54 2 v n (flA la)) : Src w v la := by
  have hl : la.length = n := by have := h.1; rw [flA_len] at this; omega
  rcases h.2 with ⟨rfl, h0⟩ | ⟨g, cap, cur, rfl, _⟩
  · exact Or.inl ⟨rfl, List.eq_nil_of_length_eq_zero (by omega)⟩
  · exact Or.inr ⟨⟨g, 0, none⟩, cap, by rw [hl], fun j u hj => World.ownsRow.cells h (g := g) rfl j u hj⟩
theorem row_form2 {W : World} {B n : Nat} {e : TypeId} {v : Value} {xs : List Value} (h : W.ownsRow B e 2 v n xs) : ∃ a c, v = .slice a n c := by
  rcases h.2 with ⟨rfl, h0⟩ | ⟨g, cap', cur, rfl, _⟩
  · exact ⟨none, 0, by rw [h0]⟩
  · exact ⟨_, _, rfl⟩
theorem pk_of {picks ticks : List Int} {nd : Nat} (h : chkT picks ticks nd = 0) : (∀ x ∈ picks, 0 ≤ x) ∧ (∀ x ∈ ticks, 0 ≤ x ∧ x < 2147483648) ∧ nd ≤ 65536 := by
  unfold chkT at h
  by_cases h1 : 65536 < picks.length ∨ 65536 < ticks.length ∨ 65536 < nd
  · rw [if_pos h1] at h; cases h
  · rw [if_neg h1] at h
    by_cases h2 : pickBad picks = true
    · rw [if_pos h2] at h; cases h
    · rw [if_neg h2] at h
      by_cases h3 : tickBad ticks = true
      · rw [if_pos h3] at h; cases h
      · have h4 := eq_false_of_ne_true h3
        have h5 := eq_false_of_ne_true h2
        rw [tickBad, List.any_eq_false] at h4
        rw [pickBad, List.any_eq_false] at h5
        refine ⟨fun x hx => ?_, fun x hx => ?_, by omega⟩
        · have := h5 x hx
          simp at this
          exact this
        · have := h4 x hx
          simp at this
          omega
theorem dacc_run (b p x i all : Nat) (w : World) (h : DAcc w b p x i all) (hall : all ≤ 12800) :
    Calls Try.prog 26 #[.pointer (some ⟨p, 0, none⟩), .int .i64 1048576] w fun r w' => r = .returned (.int .i64 (all : Nat)) ∧ (∃ S, LA w' p S ∧ S.tks.length ≤ 100 ∧ (∀ y ∈ S.waits, y = -1) ∧ S.steps = all) ∧ Lv p w w' := by
  obtain ⟨S, h1, h2, h3, h4, h5⟩ := h
  have := la_run p 1048576 S w h1.la h3.bd (by decide) (fun n hn hr => by
    have := (h3.it n hr).2.1
    omega)
  refine this.mono ?_
  rintro r w' ⟨n, rfl, hn, ⟨⟨S', e1, e2⟩, hr⟩, hend, hv⟩
  obtain ⟨d1, d2, d3⟩ := h3.it n hr
  have hready : readyL (itP S.ps n).waits = [] := by
    rcases hend with e | e
    · exfalso; omega
    · exact e
  obtain ⟨z1, z2⟩ := rem_zero d1 hready
  rw [z2] at d2
  have hna : n = all := by omega
  subst hna
  rw [← e2] at z1 d3 d1
  refine ⟨rfl, ⟨S', e1, ?_, z1, ?_⟩, hv⟩
  · have := d1.bd.len
    simp [LS.ps] at this
    omega
  · have e3 : S'.ps.steps = S'.steps := rfl
    have e4 : S.ps.steps = S.steps := rfl
    omega
set_option maxRecDepth 100000 in
set_option maxHeartbeats 8000000 in
theorem done_walk (ap ak ad a : Option Addr) (np nk nd n cp ck cd c : Nat) (picks ticks draws : List Int) (tv : List (Value × List (Int × Int))) (w : World) (hp : Arg w ap np cp (picks.map iV)) (hk : Arg w ak nk ck (ticks.map iV)) (hd : Arg w ad nd cd (draws.map nV))
    (hT : VA w.heap.size w a (tv.map (·.1))) (hn : tv.length = n) (hA : ∀ x ∈ tv, TaskArg w x.1 x.2) :
    Calls Try.prog 8 #[.agg #[.slice ap np cp, .slice ak nk ck, .slice ad nd cd], .slice a n c] w fun r w' => r = .returned (.bool true) ∧ Below w.heap.size w w' := by
  have A0 : Below w.heap.size w (w.alloc (.cells #[.slice ap np cp, .slice ak nk ck, .slice ad nd cd] 25)) := (Below.refl _ w).alloc (Nat.le_refl _) _
  by_cases hchk : chkT picks ticks nd = 0
  · have HS : Hid _ := start_both ap ak ad np nk nd cp ck cd picks ticks draws _ (hp.below A0) (hk.below A0) (hd.below A0) hchk
    obtain ⟨g1, g2, g3⟩ := pk_of hchk
    have HG : Hid ((∀ x ∈ picks, 0 ≤ x) ∧ (∀ x ∈ ticks, 0 ≤ x ∧ x < 2147483648) ∧ draws.length ≤ 65536) := ⟨g1, g2, by have := hd.1; rw [List.length_map] at this; omega⟩
    have HT : Hid _ := hT
    have HN : Hid _ := hn
    have HA : Hid _ := hA
    have HA0 : Hid _ := A0
    obtain ⟨i0, hi, hz0, hz1, hz2⟩ := info_parts info54
    clear hp hk hd hT hn hA hchk g1 g2 g3 A0
    go_enter Try.func8, Try.ntmps8
    go_wp2_with fail
    refine Calls.mono HS.out ?_
    rintro e w1 ⟨b, p, x, S1, rfl, a1, a2, a3, a4, a5, a6, a7, a8, L1, hp1, B1⟩
    have HD1 : Hid (DAcc w1 b p x 0 0) := by
      refine ⟨S1, L1, by rw [a1]; rfl, ?_, ?_, a5⟩
      · have et : S1.ps.tasks = [] := by show S1.tks.map _ = _; rw [a1]; rfl
        have ew : S1.ps.waits = [] := a2
        obtain ⟨q1, q2, q3⟩ := HG.out
        exact { bd := { len := by rw [et]; decide, wlen := by rw [et, ew]; rfl, acts := fun x hx => by rw [et] at hx; simp at hx, fu := by show S1.fu ≤ S1.steps; rw [a8]; omega, draws := by show S1.draws.length ≤ _; rw [a7]; exact q3, tcs := by show ∀ x ∈ S1.ticks, _; rw [a3]; exact q2, now0 := by show 0 ≤ S1.now; rw [a4]; decide, now1 := by show S1.now ≤ (S1.steps : Int) * _; rw [a4, a5]; decide, pks := by show ∀ x ∈ S1.picks, _; rw [a6]; exact q1 }, wts := fun y hy => by rw [ew] at hy; simp at hy, nw := fun y hy => by rw [et] at hy; simp at hy }
      · show remL (S1.tks.map _) S1.waits = 0
        rw [a1, a2]; rfl
    have HB1 : Hid (Below w.heap.size w w1) := HA0.out.trans (B1.mono HA0.out.size)
    have hp1' : w.heap.size ≤ p := by have := HA0.out.size; omega
    clear a1 a2 a3 a4 a5 a6 a7 a8 L1 B1 HS hp1
    go_wp2_with fail
    go_loopw [7, 8] (fun s7 s8 wr => ∃ i all : Nat, i ≤ 64 ∧ all ≤ 200 * i ∧ s8 = .int .i64 (i : Nat) ∧ s7 = .int .i64 (all : Nat) ∧ Hid (DAcc wr b p x i all) ∧ Hid (Below w.heap.size w wr)) (fun _ s8 _ => 64 - (intOf s8).toNat)
    case atStart => exact ⟨0, 0, by omega, by omega, rfl, rfl, HD1.out, HB1.out⟩
    case round =>
      clear HD1 HB1
      obtain ⟨i, all, hi64, hall, rfl, rfl, HDi, HBi⟩ := hrel
      obtain ⟨w8, hw8⟩ : ∃ w8, w8 = wr := ⟨_, rfl⟩
      subst hw8
      by_cases hin : i < n
      · by_cases hi2 : i < 64
        · obtain ⟨⟨vi, la⟩, hti⟩ : ∃ t, tv[i]? = some t := ⟨tv[i]'(by rw [HN.out]; exact hin), List.getElem?_eq_getElem _⟩
          obtain ⟨gt, ot, rfl, hgt, ci⟩ := HT.out i vi (by rw [List.getElem?_map, hti]; rfl)
          obtain ⟨ai, cpi, hvi, hcells⟩ := HA.out _ (List.mem_of_getElem? hti)
          have hvi' : vi = .slice ai la.length cpi := hvi
          subst hvi'
          obtain ⟨li, hli⟩ : ∃ li, la.length = li := ⟨_, rfl⟩
          have HLI : Hid _ := hli
          have HC : Hid _ := hcells
          rw [hli] at ci
          have HCI : Hid (w.cell? ⟨gt, ot + i, none⟩ = some (.slice ai li cpi)) := ci
          clear hvi hcells hti hli ci
          obtain ⟨Hs, hHs⟩ : ∃ Hs, w8.heap.size = Hs := ⟨_, rfl⟩
          have HHS : Hid _ := hHs
          clear hHs
          go_wp2_with fail
          go_loopw [9, 10] (fun s9 s10 wq => ∃ k : Nat, k ≤ 200 ∧ k ≤ li ∧ s10 = .int .i64 (k : Nat) ∧ Hid (wq.ownsRow Hs 54 2 s9 (keepL la k).length (flA (keepL la k))) ∧ Hid (Below Hs w8 wq)) (fun _ s10 _ => 200 - (intOf s10).toNat)
          case atStart => exact ⟨0, by omega, by omega, rfl, World.ownsRow_nil _ _ _ _, Below.refl _ _⟩
          case round =>
            obtain ⟨k, hk200, hkli, rfl, HR, HB⟩ := hrel
            by_cases hkl : k < li
            · by_cases hk2 : k < 200
              · obtain ⟨⟨ky, xy⟩, hy⟩ : ∃ y, la[k]? = some y := ⟨la[k]'(by rw [HLI.out]; exact hkl), List.getElem?_eq_getElem _⟩
                obtain ⟨gy, oy, rfl, hgy, y0, y1⟩ := HC.out k (ky, xy) hy
                have HB2 : Hid (Below w8.heap.size w8 wr) := by rw [Hid, HHS.out]; exact HB.out
                have HBW : Hid (Below w.heap.size w wr) := HBi.out.trans (HB2.out.mono HBi.out.size)
                have ci2 : wr.cell? ⟨gt, ot + i, none⟩ = some (.slice (some ⟨gy, oy, none⟩) li cpi) := (HBW.out.cell (p := ⟨gt, ot + i, none⟩) hgt).trans HCI.out
                have z0 : wr.cell? ⟨gy, oy + k * 2, none⟩ = some (.int .i64 ky) := by rw [Nat.mul_comm]; exact (HBW.out.cell (p := ⟨gy, oy + 2 * k, none⟩) hgy).trans y0
                have z1 : wr.cell? ⟨gy, oy + k * 2 + 1, none⟩ = some (.int .i64 xy) := by rw [Nat.mul_comm]; exact (HBW.out.cell (p := ⟨gy, oy + 2 * k + 1, none⟩) hgy).trans y1
                have HKS : Hid _ := keepL_succ hy
                have hkl2 := keepL_len la k
                clear hy y0 y1
                by_cases hky : ky = 2
                · have hk1 : (ky != 2) = false := by simp [hky]
                  have hk3 : (ky == 2) = true := by simp [hky]
                  have HR2 : Hid (wr.ownsRow Hs 54 2 u9 (keepL la (k + 1)).length (flA (keepL la (k + 1)))) := by
                    rw [Hid, HKS.out, if_neg (by simp [hky])]
                    exact HR.out
                  clear hky hkl2
                  go_wp2_with fail
                  go_roundw
                  case rel => exact ⟨k + 1, by omega, by omega, by go_num, HR2.out, HB.out⟩
                  case measure => simp [intOf]; omega
                · have hk1 : (ky != 2) = true := by simp [hky]
                  have hk3 : (ky == 2) = false := by simp [hky]
                  obtain ⟨m, hm⟩ : ∃ m, (keepL la k).length = m := ⟨_, rfl⟩
                  rw [hm] at HR hkl2
                  have HM : Hid _ := hm
                  have HRR : Hid (wr.ownsRow Hs 54 2 u9 m (flA (keepL la k))) := HR.out
                  obtain ⟨a9, c9, h9⟩ := row_form2 HRR.out
                  subst h9
                  have hra : Hid (∀ o, (wr.alloc o).ownsRow Hs 54 2 (.slice a9 m c9) m (flA (keepL la k))) := fun o => World.ownsRow.alloc HRR.out o
                  have hsz : Hs ≤ wr.heap.size := by have := HB2.out.size; have := HHS.out; omega
                  have HSZ : Hid _ := hsz
                  clear hky hm HR
                  go_wp2_with (at_builtin; refine wpList_append_own _ rfl (.tmp 55) (.tmp 63) 32 rfl Hs 54 i0 (.agg #[.int .i64 0, .int .i64 0]) 2 16 Try.underlying32 hi hz0 hz1 hz2 rfl (by decide) _ _ _ rfl (hra.out _) ⟨wr.heap.size, 0, none⟩ 1 1 [.int .i64 ky, .int .i64 xy] rfl rfl (cell_two_new _ _ _ _) (by simp [Value.oneCell']) (by unfold maxLen; omega) (by omega) (by simp; omega) ?_)
                  intro v2 w2 hown2 hg2 _
                  have HR2 : Hid (w2.ownsRow Hs 54 2 v2 (keepL la (k + 1)).length (flA (keepL la (k + 1)))) := by
                    rw [Hid, HKS.out, if_pos (by simpa using hk1), List.length_append, HM.out, flA_snoc]
                    exact hown2
                  have HB3 : Hid (Below Hs w8 w2) := (HB.out.alloc HSZ.out _).grown hg2 (by simp; omega) (fun i hi => (World.ownsRow.lt HRR.out i hi).1)
                  clear hown2 hg2
                  go_wp2_with fail
                  go_roundw
                  case rel => exact ⟨k + 1, by omega, by omega, by go_num, HR2.out, HB3.out⟩
                  case measure => simp [intOf]; omega
              · obtain rfl : k = 200 := by omega
                have HB2 : Hid (Below w8.heap.size w8 wr) := by rw [Hid, HHS.out]; exact HB.out
                obtain ⟨lk, hlk⟩ : ∃ lk, keepL la 200 = lk := ⟨_, rfl⟩
                have hnw := keepL_nw la 200
                have hll := keepL_len la 200
                rw [hlk] at HR hnw hll
                obtain ⟨m, hm⟩ : ∃ m, lk.length = m := ⟨_, rfl⟩
                rw [hm] at HR hll
                have HRR : Hid (wr.ownsRow Hs 54 2 u9 m (flA lk)) := HR.out
                obtain ⟨a9, c9, h9⟩ := row_form2 HRR.out
                subst h9
                have HAD : Hid (Calls Try.prog 10 #[.pointer (some ⟨b, 0, none⟩), .slice a9 m c9] wr fun r w' => r = .returned (.bool true) ∧ DAcc w' b p x (i + 1) (all + max 1 m) ∧ Below p wr w') := by
                  have := dacc_add b p x i all (.slice a9 m c9) lk wr (DAcc.below HDi.out HB2.out) hi2 (by omega) hnw (src_own HRR.out)
                  rw [hm] at this
                  exact this
                have HBW : Hid (Below w.heap.size w wr) := HBi.out.trans (HB2.out.mono HBi.out.size)
                have hmb : m ≤ 200 := by omega
                have ci2 : wr.cell? ⟨gt, ot + i, none⟩ = some (.slice ai li cpi) := (HBW.out.cell (p := ⟨gt, ot + i, none⟩) hgt).trans HCI.out
                clear hlk hnw hll hm HR HRR HB HB2 HHS HDi HBi
                go_wp2_with fail
                refine Calls.mono HAD.out ?_
                rintro e w9 ⟨rfl, hD9, b9⟩
                have HD9 : Hid (DAcc w9 b p x (i + 1) (all + max 1 m)) := hD9
                have HB9 : Hid (Below w.heap.size w w9) := HBW.out.trans (b9.mono hp1')
                clear hD9 b9 HAD HBW ci2
                by_cases hm0 : m = 0
                · subst hm0
                  go_wp2_with fail
                  go_roundw
                  case rel => exact ⟨i + 1, all + 1, by omega, by omega, by go_num, by go_num, HD9.out, HB9.out⟩
                  case measure => simp [intOf]; omega
                · have hm1 : max 1 m = m := by omega
                  have hmz : ((m : Int) == 0) = false := by simp; omega
                  go_wp2_with fail
                  go_roundw
                  case rel => exact ⟨i + 1, all + m, by omega, by omega, by go_num, by go_num, by rw [← hm1]; exact HD9.out, HB9.out⟩
                  case measure => simp [intOf]; omega
            · obtain rfl : k = li := by omega
              have HB2 : Hid (Below w8.heap.size w8 wr) := by rw [Hid, HHS.out]; exact HB.out
              obtain ⟨lk, hlk⟩ : ∃ lk, keepL la k = lk := ⟨_, rfl⟩
              have hnw := keepL_nw la k
              have hll := keepL_len la k
              rw [hlk] at HR hnw hll
              obtain ⟨m, hm⟩ : ∃ m, lk.length = m := ⟨_, rfl⟩
              rw [hm] at HR hll
              have HRR : Hid (wr.ownsRow Hs 54 2 u9 m (flA lk)) := HR.out
              obtain ⟨a9, c9, h9⟩ := row_form2 HRR.out
              subst h9
              have HAD : Hid (Calls Try.prog 10 #[.pointer (some ⟨b, 0, none⟩), .slice a9 m c9] wr fun r w' => r = .returned (.bool true) ∧ DAcc w' b p x (i + 1) (all + max 1 m) ∧ Below p wr w') := by
                have := dacc_add b p x i all (.slice a9 m c9) lk wr (DAcc.below HDi.out HB2.out) hi2 (by omega) hnw (src_own HRR.out)
                rw [hm] at this
                exact this
              have HBW : Hid (Below w.heap.size w wr) := HBi.out.trans (HB2.out.mono HBi.out.size)
              have hmb : m ≤ 200 := by omega
              have ci2 : wr.cell? ⟨gt, ot + i, none⟩ = some (.slice ai k cpi) := (HBW.out.cell (p := ⟨gt, ot + i, none⟩) hgt).trans HCI.out
              clear hlk hnw hll hm HR HRR HB HB2 HHS HDi HBi
              go_wp2_with fail
              refine Calls.mono HAD.out ?_
              rintro e w9 ⟨rfl, hD9, b9⟩
              have HD9 : Hid (DAcc w9 b p x (i + 1) (all + max 1 m)) := hD9
              have HB9 : Hid (Below w.heap.size w w9) := HBW.out.trans (b9.mono hp1')
              clear hD9 b9 HAD HBW ci2
              by_cases hm0 : m = 0
              · subst hm0
                go_wp2_with fail
                go_roundw
                case rel => exact ⟨i + 1, all + 1, by omega, by omega, by go_num, by go_num, HD9.out, HB9.out⟩
                case measure => simp [intOf]; omega
              · have hm1 : max 1 m = m := by omega
                have hmz : ((m : Int) == 0) = false := by simp; omega
                go_wp2_with fail
                go_roundw
                case rel => exact ⟨i + 1, all + m, by omega, by omega, by go_num, by go_num, by rw [← hm1]; exact HD9.out, HB9.out⟩
                case measure => simp [intOf]; omega
        · obtain rfl : i = 64 := by omega
          have HRN : Hid _ := dacc_run b p x 64 all w8 HDi.out (by omega)
          have HAT : Hid (At43 w8 b p) := by
            obtain ⟨S, h1, _⟩ := HDi.out
            exact h1.at43
          have c8 := At43.cell HAT.out
          go_wp2_with fail
          refine Calls.mono HRN.out ?_
          rintro e w9 ⟨rfl, ⟨S9, L9, l9, d9, s9⟩, v9⟩
          have HB9 : Hid (Below w.heap.size w w9) := HBi.out.trans (v9.bel.mono hp1')
          have HA9 : Hid (At43 w9 b p) := At43.lv HAT.out v9
          have c9 := At43.cell HA9.out
          have HDN : Hid _ := la_done p S9 w9 L9 l9 d9
          have HRY : Hid (∀ W, Below w9.heap.size w9 W → Calls Try.prog 19 #[.pointer (some ⟨p, 0, none⟩)] W fun r w' => ∃ a c, r = .returned (.slice a 0 c) ∧ Below W.heap.size W w') := fun W k => by
            refine (la_ready p S9 W (L9.below k) l9).mono ?_
            rintro r w' ⟨a, c, rfl, _, h2⟩
            have hz : readyL S9.waits = [] := by
              rw [List.eq_nil_iff_forall_not_mem]
              intro j hj
              simp only [readyL, readyTo, List.mem_filter, List.mem_range] at hj
              have hx := d9 _ (List.getElem_mem hj.1)
              have := hj.2
              rw [List.getD_eq_getElem?_getD, List.getElem?_eq_getElem hj.1] at this
              simp [hx] at this
            exact ⟨a, c, by rw [hz]; rfl, h2⟩
          have HSP : Hid (∀ W, Below w9.heap.size w9 W → Calls Try.prog 17 #[.pointer (some ⟨p, 0, none⟩)] W fun r w' => r = .returned (.int .i64 (all : Nat)) ∧ w' = W) := fun W k => by
            have := steps_any p _ _ _ _ _ _ _ _ W (L9.below k).hp
            rw [s9] at this
            exact this
          clear L9 l9 d9 s9 v9 HRN HAT HDi HBi c8
          go_wp2_with fail
          refine Calls.mono HDN.out ?_
          rintro e w10 ⟨rfl, b10⟩
          have c10 := At43.cell (At43.below HA9.out b10)
          have HB10 : Hid (Below w9.heap.size w9 w10) := b10
          clear b10
          go_wp2_with fail
          refine Calls.mono (HRY.out w10 HB10.out) ?_
          rintro e w11 ⟨a11, c11, rfl, b11⟩
          have HB11 : Hid (Below w9.heap.size w9 w11) := HB10.out.trans (b11.mono HB10.out.size)
          have c11' := At43.cell (At43.below HA9.out HB11.out)
          clear b11
          go_wp2_with fail
          refine Calls.mono (HSP.out w11 HB11.out) ?_
          rintro e w12 ⟨rfl, hw12⟩
          subst hw12
          go_wp2_with fail
          go_ret
          exact ⟨rfl, HB9.out.trans (HB11.out.mono HB9.out.size)⟩
      · have HRN : Hid _ := dacc_run b p x i all w8 HDi.out (by omega)
        have HAT : Hid (At43 w8 b p) := by
          obtain ⟨S, h1, _⟩ := HDi.out
          exact h1.at43
        have c8 := At43.cell HAT.out
        go_wp2_with fail
        refine Calls.mono HRN.out ?_
        rintro e w9 ⟨rfl, ⟨S9, L9, l9, d9, s9⟩, v9⟩
        have HB9 : Hid (Below w.heap.size w w9) := HBi.out.trans (v9.bel.mono hp1')
        have HA9 : Hid (At43 w9 b p) := At43.lv HAT.out v9
        have c9 := At43.cell HA9.out
        have HDN : Hid _ := la_done p S9 w9 L9 l9 d9
        have HRY : Hid (∀ W, Below w9.heap.size w9 W → Calls Try.prog 19 #[.pointer (some ⟨p, 0, none⟩)] W fun r w' => ∃ a c, r = .returned (.slice a 0 c) ∧ Below W.heap.size W w') := fun W k => by
          refine (la_ready p S9 W (L9.below k) l9).mono ?_
          rintro r w' ⟨a, c, rfl, _, h2⟩
          have hz : readyL S9.waits = [] := by
            rw [List.eq_nil_iff_forall_not_mem]
            intro j hj
            simp only [readyL, readyTo, List.mem_filter, List.mem_range] at hj
            have hx := d9 _ (List.getElem_mem hj.1)
            have := hj.2
            rw [List.getD_eq_getElem?_getD, List.getElem?_eq_getElem hj.1] at this
            simp [hx] at this
          exact ⟨a, c, by rw [hz]; rfl, h2⟩
        have HSP : Hid (∀ W, Below w9.heap.size w9 W → Calls Try.prog 17 #[.pointer (some ⟨p, 0, none⟩)] W fun r w' => r = .returned (.int .i64 (all : Nat)) ∧ w' = W) := fun W k => by
          have := steps_any p _ _ _ _ _ _ _ _ W (L9.below k).hp
          rw [s9] at this
          exact this
        clear L9 l9 d9 s9 v9 HRN HAT HDi HBi c8
        go_wp2_with fail
        refine Calls.mono HDN.out ?_
        rintro e w10 ⟨rfl, b10⟩
        have c10 := At43.cell (At43.below HA9.out b10)
        have HB10 : Hid (Below w9.heap.size w9 w10) := b10
        clear b10
        go_wp2_with fail
        refine Calls.mono (HRY.out w10 HB10.out) ?_
        rintro e w11 ⟨a11, c11, rfl, b11⟩
        have HB11 : Hid (Below w9.heap.size w9 w11) := HB10.out.trans (b11.mono HB10.out.size)
        have c11' := At43.cell (At43.below HA9.out HB11.out)
        clear b11
        go_wp2_with fail
        refine Calls.mono (HSP.out w11 HB11.out) ?_
        rintro e w12 ⟨rfl, hw12⟩
        subst hw12
        go_wp2_with fail
        go_ret
        exact ⟨rfl, HB9.out.trans (HB11.out.mono HB9.out.size)⟩
  · have e0 : chkT picks ticks nd ≠ 0 := hchk
    have HS : Hid _ := start_bad ap ak ad np nk nd cp ck cd picks ticks _ _ (hp.below A0) (hk.below A0) rfl e0
    have HA0 : Hid _ := A0
    clear hp hk hd hT hn hA hchk A0 e0
    go_enter Try.func8, Try.ntmps8
    go_wp2_with fail
    refine Calls.mono HS.out ?_
    rintro e w1 ⟨rfl, B1⟩
    go_wp2_with fail
    go_ret
    exact ⟨rfl, HA0.out.trans (B1.mono HA0.out.size)⟩
end Go.Proofs.Ytefmhghdehokcaa
