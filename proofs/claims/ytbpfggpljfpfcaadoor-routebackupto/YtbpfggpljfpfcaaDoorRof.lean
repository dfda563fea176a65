/-
  The contract of rulesOf.
-/
import Derived.Test.YtbpfggpljfpfcaaDoorIxf
namespace Go.Proofs.YtbpfggpljfpfcaaDoor
open Go.RowKit
theorem infoZ : (Tryd.prog.info? 50).map (fun i => (i.zero, i.size, i.bytes)) = some (some (.agg #[.string ByteArray.empty, .slice none 0 0, .int .i64 0, .string ByteArray.empty, .string ByteArray.empty, .int .i64 0, .bool false, .nilFunc, .nilFunc, .nilFunc]), 10, 120) := by kernel_rfl
theorem path_short : ∀ r ∈ rulesT, r.path.length ≤ 3 := by decide
theorem filt_step {T : List (Rule × Nat)} {k : Nat} {x : Rule × Nat} (f : Rule → Bool) (hT : T.map Prod.fst = rulesT) (hx : T[k]? = some x) : (rulesT.take (k + 1)).filter f = (rulesT.take k).filter f ++ (if f x.1 = true then [x.1] else []) := by
  have h : rulesT[k]? = some x.1 := by rw [← hT, List.getElem?_map, hx]; rfl
  rw [List.take_add_one, h, List.filter_append]
  by_cases hf : f x.1 = true <;> simp [hf]
theorem flR_snoc (l : List (Rule × Nat)) (x : Rule × Nat) : flR (l ++ [x]) = flR l ++ ruL (rmOf x) := by simp [flR]
theorem ruL_one (x : Rule × Nat) : ∀ u ∈ ruL (rmOf x), u.oneCell' = true := by
  have := flR_one [x]
  rwa [show flR [x] = ruL (rmOf x) from by simp [flR]] at this
/-- What rulesOf tells: the rules themselves. -/
def RofP (w : World) (rs : List Rule) (e : Ending) (w' : World) : Prop := ∃ a c l, e = .returned (.slice a rs.length c) ∧ l.map Prod.fst = rs ∧ w'.ownsRow w.heap.size 50 10 (.slice a rs.length c) rs.length (flR l) ∧ (∀ x ∈ l, PathAt w' x) ∧ Below w.heap.size w w'
def rofR (t : List UInt8) : List Rule := if splE t = 0 then rulesR (rawL t) else []
theorem ruL_cells {W : World} {g : Nat} {x : Rule × Nat} {fv : Value} {f1 f2 : Nat} (h : W.heap[g]? = some (.cells #[.string (bOf x.1.meth), .slice (some ⟨x.2, 0, none⟩) x.1.path.length x.1.path.length, .int .i64 x.1.kind, .string ⟨#[]⟩, .string ⟨#[]⟩, .int .i64 0, .bool x.1.me, fv, .func (.func f1) #[] #[], .func (.func f2) #[] #[]] 50 (0, 0))) :
    W.cell? ⟨g, 0, none⟩ = some (.string (bOf x.1.meth)) ∧ W.cell? ⟨g, 1, none⟩ = some (.slice (some ⟨x.2, 0, none⟩) x.1.path.length x.1.path.length) ∧ W.cell? ⟨g, 2, none⟩ = some (.int .i64 x.1.kind) ∧ W.cell? ⟨g, 3, none⟩ = some (.string ⟨#[]⟩) ∧ W.cell? ⟨g, 4, none⟩ = some (.string ⟨#[]⟩) ∧ W.cell? ⟨g, 5, none⟩ = some (.int .i64 0) ∧ W.cell? ⟨g, 6, none⟩ = some (.bool x.1.me) ∧ W.cell? ⟨g, 7, none⟩ = some fv ∧ W.cell? ⟨g, 8, none⟩ = some (.func (.func f1) #[] #[]) ∧ W.cell? ⟨g, 9, none⟩ = some (.func (.func f2) #[] #[]) :=
  ⟨cell_of_block h rfl, cell_of_block h rfl, cell_of_block h rfl, cell_of_block h rfl, cell_of_block h rfl, cell_of_block h rfl, cell_of_block h rfl, cell_of_block h rfl, cell_of_block h rfl, cell_of_block h rfl⟩
set_option maxRecDepth 20000 in
set_option maxHeartbeats 32000000 in
theorem rulesOf_any (s : ByteArray) (hs : s.size ≤ 140737488355328) (m : Int) (w : World) (hm : w.cell? ⟨0, 0, none⟩ = some (.int .i64 m)) : Calls Tryd.prog 20 #[.string s] w (RofP w (rofR s.data.toList)) := by
  obtain ⟨i0, hi, hz⟩ := Option.map_eq_some_iff.1 infoZ
  simp only [Prod.mk.injEq] at hz
  obtain ⟨hz0, hz1, hz2⟩ := hz
  have hlen := size_list' s
  have HMX : Hid (∀ W, Below w.heap.size w W → W.cell? ⟨0, 0, none⟩ = some (.int .i64 m)) := fun W b => mx_below hm b
  have H1 : Hid (∀ _ : Unit, _) := fun _ => split_route s hs m w hm
  have HZ : Hid (splE s.data.toList = 0 → _) := spl_zero
  have HRO : Hid (splE s.data.toList = 0 → rofR s.data.toList = rulesR (rawL s.data.toList)) := fun h => by rw [rofR, if_pos h]
  have HRN : Hid (splE s.data.toList ≠ 0 → rofR s.data.toList = []) := fun h => by rw [rofR, if_neg h]
  have H2 : Hid (splE s.data.toList = 0 → ∀ W, Below w.heap.size w W → _) := fun h W b => cut_any s 63 (by have := (spl_zero h).1; omega) m W (HMX.out W b)
  have H3 : Hid (splE s.data.toList = 0 → ∀ W, Below w.heap.size w W → _) := fun h W b => rawPieces_any (pathL s.data.toList) (by have := (spl_zero h).1; have := path_len s.data.toList; omega) m W (HMX.out W b)
  rw [cutP_ahd] at H2
  rw [show cutL 47 (pathL s.data.toList) = rawL s.data.toList from rfl] at H3
  have HAC : Hid (splE s.data.toList = 0 → bOf (ahd 63 s.data.toList) = bOf (47 :: pathL s.data.toList)) := fun h => by
    obtain ⟨r, hr⟩ : ∃ r, s.data.toList = 47 :: r := by
      have h2 := (spl_zero h).2.1
      cases hq : s.data.toList with
      | nil => rw [hq] at h2; cases h2
      | cons x l => rw [hq] at h2; simp at h2; exact ⟨l, by rw [h2]⟩
    rw [hr, (ahd_cons47 r).1]
  obtain ⟨t, ht⟩ : ∃ t, s.data.toList = t := ⟨_, rfl⟩
  rw [ht] at H1 HZ HRO HRN H2 H3 HAC hlen ⊢
  have hrl := raw_len t
  obtain ⟨L, hL⟩ : ∃ L, rawL t = L := ⟨_, rfl⟩
  rw [hL] at HRO H3 HZ hrl
  obtain ⟨RR, hRR⟩ : ∃ RR, rofR t = RR := ⟨_, rfl⟩
  rw [hRR] at HRO HRN ⊢
  obtain ⟨er, her⟩ : ∃ er, splE t = er := ⟨_, rfl⟩
  rw [her] at H1 HZ HRO HRN H2 H3 HAC
  unfold RawP at H1
  clear ht hL hRR her hm
  go_enter Tryd.func20, Tryd.ntmps20
  go_wp2_with fail
  refine (H1.out ()).mono ?_
  rintro e w1 ⟨b1, (⟨hne, rfl⟩ | ⟨h0, a1, cp1, rfl, _⟩)⟩
  · have hnz : (er != 0) = true := by simpa using hne
    have HB1 : Hid (Below w.heap.size w w1) := b1
    have HR : Hid (RR = []) := HRN.out hne
    clear b1 hne
    go_wp2_with fail
    go_ret
    exact ⟨none, 0, [], by rw [HR.out]; rfl, by rw [HR.out]; rfl, by rw [HR.out]; exact World.ownsRow_nil _ _ _ _, fun x hx => (by cases hx), HB1.out⟩
  · subst h0
    have HB1 : Hid (Below w.heap.size w w1) := b1
    have HR : Hid (RR = rulesR L) := HRO.out rfl
    have hLn : L.length ≤ 1000000000 := by have := (HZ.out rfl).1; omega
    have hac := HAC.out rfl
    have HC : Hid (∀ W, Below w.heap.size w W → _) := H2.out rfl
    have HP : Hid (∀ W, Below w.heap.size w W → _) := H3.out rfl
    rw [hac] at HC
    try dsimp only at HC
    obtain ⟨PB, hPB⟩ : ∃ PB, bOf (47 :: pathL t) = PB := ⟨_, rfl⟩
    rw [hPB] at HC HP
    clear b1 H1 H2 H3 HZ HRO HRN HAC hac hPB hrl
    go_wp2_with fail
    refine (HC.out w1 HB1.out).mono ?_
    rintro e w2 ⟨rfl, nd, hw2⟩
    rw [hw2]
    clear hw2 w2 HC
    go_wp2_with fail
    refine (HP.out (w1.drewN nd) (below_drewN' HB1.out nd)).mono ?_
    rintro e w2 ⟨ra, rc, rfl, htx, b2⟩
    have HB2 : Hid (Below w.heap.size w w2) := HB1.out.trans ((below_undrewN b2).mono HB1.out.size)
    have HTX : Hid (TextsAt w2 ra (L.map bOf)) := htx
    clear b2 htx HP
    go_wp2_with fail
    refine (rules_any _).mono ?_
    rintro e w3 ⟨g, T, rfl, htab, b3⟩
    have HTB : Hid (TabR w3 g T) := htab
    have HB3 : Hid (Below w.heap.size w w3) := HB2.out.trans (b3.mono HB2.out.size)
    have HTX3 : Hid (TextsAt w3 ra (L.map bOf)) := HTX.out.below b3
    have HTL : Hid (T.length = 10) := by
      have := congrArg List.length htab.2.1
      rw [List.length_map] at this
      exact this
    have HRW : Hid (RowR w3 (some ⟨g, 0, none⟩) T) := row_tab htab
    clear b3 htab HTX
    obtain ⟨ln, hln⟩ : ∃ ln, L.length = ln := ⟨_, rfl⟩
    rw [hln] at hLn
    have HLN : Hid _ := hln
    rw [hln]
    clear hln
    go_wp2_with fail
    go_loopw [11, 33] (fun v i wr => ∃ (k n : Nat) (acc : List (Rule × Nat)), k ≤ 10 ∧ n ≤ k ∧ i = .int .i64 (k : Nat) ∧ wr.ownsRow w3.heap.size 50 10 v n (flR acc) ∧ Hid (acc.length = n) ∧ Hid (acc.map Prod.fst = (rulesT.take k).filter (fun r => fitR r.path L)) ∧ Hid (∀ x ∈ acc, x ∈ T) ∧ Hid (Below w3.heap.size w3 wr)) (fun _ i _ => 10 - (intOf i).toNat)
    case atStart => exact ⟨0, 0, [], by omega, by omega, rfl, World.ownsRow_nil _ _ _ _, rfl, rfl, fun x hx => (by cases hx), Below.refl _ _⟩
    case round =>
      obtain ⟨k, n, acc, hk, hnk, rfl, how, HAL, HAF, HAT, HB⟩ := hrel
      obtain ⟨va, vc, rfl⟩ := row_form how
      have HOW : Hid (wr.ownsRow w3.heap.size 50 10 (.slice va n vc) n (flR acc)) := how
      clear how
      by_cases hlt : k < 10
      · have hlz : (k : Int) < 10 := by omega
        obtain ⟨x, hx⟩ : ∃ x, T[k]? = some x := ⟨_, List.getElem?_eq_getElem (by rw [HTL.out]; exact hlt)⟩
        have hxm : x ∈ T := List.mem_of_getElem? hx
        obtain ⟨gb, off, hbo, _, c0, c1, c2, c3, c4, c5, c6, c7, c8, c9⟩ := RowR.get (RowR.below HRW.out HB.out) hx
        obtain ⟨rfl, rfl⟩ : g = gb ∧ 0 = off := by cases hbo; exact ⟨rfl, rfl⟩
        simp only [Nat.zero_add] at c0 c1 c2 c3 c4 c5 c6 c7 c8 c9
        have hxT : x.1 ∈ rulesT := by rw [← HTB.out.2.1]; exact List.mem_map_of_mem hxm
        have hps := path_short x.1 hxT
        have HPT : Hid (∀ W, Below w3.heap.size w3 W → TextsAt W (some ⟨x.2, 0, none⟩) (x.1.path.map bOf)) := fun W b => TextsAt.below (HTB.out.2.2 x hxm) b
        have hfv := pfV_cases (partF x.1.part)
        have HRU : Hid (ruL (rmOf x) = [.string (bOf x.1.meth), .slice (some ⟨x.2, 0, none⟩) x.1.path.length x.1.path.length, .int .i64 x.1.kind, .string ⟨#[]⟩, .string ⟨#[]⟩, .int .i64 0, .bool x.1.me, pfV (partF x.1.part), .func (.func (rmOf x).fr) #[] #[], .func (.func (rmOf x).fw) #[] #[]]) := rfl
        have HRO : Hid (∀ u ∈ ruL (rmOf x), u.oneCell' = true) := ruL_one x
        have HSN : Hid (flR (acc ++ [x]) = flR acc ++ ruL (rmOf x)) := flR_snoc acc x
        have HFS : Hid _ := filt_step (fun r => fitR r.path L) HTB.out.2.1 hx
        obtain ⟨fv, hv⟩ : ∃ fv, pfV (partF x.1.part) = fv := ⟨_, rfl⟩
        obtain ⟨f1, hf1⟩ : ∃ f1, (rmOf x).fr = f1 := ⟨_, rfl⟩
        obtain ⟨f2, hf2⟩ : ∃ f2, (rmOf x).fw = f2 := ⟨_, rfl⟩
        rw [hv] at c7 hfv HRU
        rw [hf1] at c8 HRU
        rw [hf2] at c9 HRU
        have H4 : Hid (∀ W, Below w3.heap.size w3 W → _) := fun W b => has_gen (bOf x.1.meth) x.2 x.1.path.length x.1.kind x.1.me fv f1 f2 hfv x.1.path L ra rc W (HPT.out W b) rfl (HTX3.out.below b) (by omega) (by rw [HLN.out]; omega)
        rw [HLN.out] at H4
        obtain ⟨d, hd⟩ : ∃ d, fitR x.1.path L = d := ⟨_, rfl⟩
        rw [hd] at H4 HFS
        have HXM : Hid _ := hxm
        have hsz := HB.out.size
        clear hv hf1 hf2 hx hxm hxT hps hd hbo
        rcases hfv with rfl | ⟨fn, rfl⟩
        all_goals
          go_wp2_with fail
          refine (H4.out _ (HB.out.alloc hsz _)).mono ?_
          rintro e w4 ⟨rfl, b4⟩
          obtain ⟨y0, y1, y2, y3, y4, y5, y6, y7, y8, y9⟩ := ruL_cells (x := x) ((b4.block wr.heap.size (by simp)).trans (block_alloc_at _ _))
          have HB4 : Hid (Below w3.heap.size w3 w4) := (HB.out.alloc hsz _).trans (b4.mono (by simp; omega))
          have HOW4 : Hid (w4.ownsRow w3.heap.size 50 10 (.slice va n vc) n (flR acc)) := owns_on2 (World.ownsRow.alloc HOW.out _) b4
          have hra : Hid (∀ o, (w4.alloc o).ownsRow w3.heap.size 50 10 (.slice va n vc) n (flR acc)) := fun o => World.ownsRow.alloc HOW4.out o
          have hsz4 := HB4.out.size
          clear b4 c0 c1 c2 c3 c4 c5 c6 c7 c8 c9
          cases d with
          | false =>
            have HF2 : Hid (acc.map Prod.fst = (rulesT.take (k + 1)).filter (fun r => fitR r.path L)) := by
              rw [Hid, HFS.out, HAF.out]; simp
            clear y0 y1 y2 y3 y4 y5 y6 y7 y8 y9
            go_wp2_with fail
            go_roundw
            case rel => exact ⟨k + 1, n, acc, by omega, by omega, by go_num, HOW4.out, HAL.out, HF2.out, HAT.out, HB4.out⟩
            case measure => simp [intOf]; omega
          | true =>
            have HF2 : Hid ((acc ++ [x]).map Prod.fst = (rulesT.take (k + 1)).filter (fun r => fitR r.path L)) := by
              rw [Hid, HFS.out, List.map_append, HAF.out]; simp
            have HAL2 : Hid ((acc ++ [x]).length = n + 1) := by rw [Hid, List.length_append, HAL.out]; rfl
            have HAT2 : Hid (∀ y ∈ acc ++ [x], y ∈ T) := fun y hy => by
              rcases List.mem_append.1 hy with hy | hy
              · exact HAT.out y hy
              · rw [List.mem_singleton.1 hy]; exact HXM.out
            go_wp2_with (at_builtin; go_loud (refine wpList_append_own _ rfl (.tmp 40) (.tmp 42) 43 rfl w3.heap.size 50 i0 (.agg #[.string ByteArray.empty, .slice none 0 0, .int .i64 0, .string ByteArray.empty, .string ByteArray.empty, .int .i64 0, .bool false, .nilFunc, .nilFunc, .nilFunc]) 10 120 Tryd.underlying43 hi hz0 hz1 hz2 rfl (by decide) _ _ _ rfl (hra.out _) ⟨_, 0, none⟩ 1 1 (ruL (rmOf x)) rfl (by rw [HRU.out]; rfl) (by rw [HRU.out]; exact new_cells _ _ _) HRO.out (by unfold maxLen; omega) (by omega) (by simp; omega) ?_))
            intro v1 w5 hown1 hgrow _
            obtain ⟨a1', cap1, rfl⟩ := row_form hown1
            have HR5 : Hid (w5.ownsRow w3.heap.size 50 10 (.slice a1' (n + 1) cap1) (n + 1) (flR (acc ++ [x]))) := by
              rw [Hid, HSN.out]
              exact hown1
            have HB5 : Hid (Below w3.heap.size w3 w5) := (HB4.out.alloc hsz4 _).grown hgrow (by simp; omega) (fun i hi => (World.ownsRow.lt HOW4.out i hi).1)
            clear hown1 hgrow y0 y1 y2 y3 y4 y5 y6 y7 y8 y9
            go_wp2_with fail
            go_roundw
            case rel => exact ⟨k + 1, n + 1, acc ++ [x], by omega, by omega, by go_num, HR5.out, HAL2.out, HF2.out, HAT2.out, HB5.out⟩
            case measure => simp [intOf]; omega
      · obtain rfl : k = 10 := by omega
        have hlz : ¬ ((10 : Nat) : Int) < 10 := by omega
        have hf := HAF.out
        rw [List.take_of_length_le (by decide)] at hf
        have HF : Hid (acc.map Prod.fst = RR) := by rw [Hid, HR.out]; exact hf
        have HLE : Hid (RR.length = n) := by rw [Hid, ← HF.out, List.length_map, HAL.out]
        have HQ : Hid _ := owns_down2 HOW.out HB3.out.size
        have HPF : Hid (∀ x ∈ acc, PathAt wr x) := fun x hx => PathAt.below (HTB.out.2.2 x (HAT.out x hx)) HB.out
        have HBW : Hid (Below w.heap.size w wr) := HB3.out.trans (HB.out.mono HB3.out.size)
        clear hf
        go_wp2_with fail
        go_ret
        exact ⟨va, vc, acc, by rw [HLE.out]; rfl, HF.out, by rw [HLE.out]; exact HQ.out, HPF.out, HBW.out⟩
end Go.Proofs.YtbpfggpljfpfcaaDoor
