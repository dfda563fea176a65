/-
  The contracts of rawPieces and Split.
-/
import Derived.Test.YtbpfggpljfpfcaaDoorQqy
namespace Go.Proofs.YtbpfggpljfpfcaaDoor
open Go.RowKit
theorem cutL_pos (c : UInt8) (l : List UInt8) : 1 ≤ (cutL c l).length := by rw [cutL_cons, List.length_cons]; omega
theorem texts_tail {W : World} {h : Nat} {x : ByteArray} {l : List ByteArray} (e : W.heap[h]? = some (.cells (strV (x :: l)).toArray 9 (0, 0))) : TextsAt W (some ⟨h, 1, none⟩) l := by
  intro j z hj
  refine ⟨h, 1, rfl, (Array.getElem?_eq_some_iff.1 e).1, cell_of_block e ?_⟩
  rw [List.getElem?_toArray, Nat.add_comm, strV, List.getElem?_map, List.getElem?_cons_succ, hj]
  rfl
set_option maxRecDepth 20000 in
set_option maxHeartbeats 8000000 in
theorem rawPieces_any (P : List UInt8) (hs : P.length ≤ 1000000000) (m : Int) (w : World) (hm : w.cell? ⟨0, 0, none⟩ = some (.int .i64 m)) :
    Calls Tryd.prog 31 #[.string (bOf (47 :: P))] w fun e w' => ∃ a c, e = .returned (.slice a (cutL 47 P).length c) ∧ TextsAt w' a ((cutL 47 P).map bOf) ∧ Below w.heap.size w w' := by
  have H1 : Hid (∀ _ : Unit, _) := fun _ => split_any ⟨#[47]⟩ (bOf (47 :: P)) (by decide) (by rw [bOf_size, List.length_cons]; omega) m w hm
  have hp : partsOf ⟨#[47]⟩ (bOf (47 :: P)) = bOf [] :: (cutL 47 P).map bOf := by
    rw [parts_cut 47 _ _ (Nat.le_refl _), show (bOf (47 :: P)).data.toList = 47 :: P from rfl, cutL, if_pos rfl]
    rfl
  rw [hp, List.length_cons, List.length_map] at H1
  have hpos := cutL_pos 47 P
  have hcl := cutL_len 47 P
  obtain ⟨C, hC⟩ : ∃ C, cutL 47 P = C := ⟨_, rfl⟩
  rw [hC] at H1 hpos hcl ⊢
  obtain ⟨n, hn⟩ : ∃ n, C.length = n := ⟨_, rfl⟩
  rw [hn] at H1 hpos hcl ⊢
  obtain ⟨W1, hW1⟩ : ∃ W1, w.alloc (.cells (strV (bOf [] :: C.map bOf)).toArray 9) = W1 := ⟨_, rfl⟩
  have HT : Hid (TextsAt W1 (some ⟨w.heap.size, 1, none⟩) (C.map bOf)) := by
    rw [Hid, ← hW1]
    exact texts_tail (block_alloc_at _ _)
  have HB : Hid (Below w.heap.size w W1) := by rw [Hid, ← hW1]; exact (Below.refl _ _).alloc (Nat.le_refl _) _
  rw [hW1] at H1
  clear hp hC hn hW1
  have h1n : (1 : Int) ≤ ((n + 1 : Nat) : Int) := by omega
  go_enter Tryd.func31, Tryd.ntmps31
  go_wp2_with fail
  refine (H1.out ()).mono ?_
  rintro e w1 ⟨rfl, hw1⟩
  rw [hw1]
  clear hw1 w1 H1
  go_wp2_with fail
  go_ret
  exact ⟨_, _, rfl, HT.out, HB.out⟩
theorem hp_one (t : List UInt8) (c : UInt8) : Lib.hasPrefix t [c] = decide (t.head? = some c) := by
  cases t with
  | nil => simp [Lib.hasPrefix]
  | cons x t =>
    by_cases h : x = c
    · subst h; simp [Lib.hasPrefix]
    · have h' : ¬ c = x := fun e => h e.symm
      simp [Lib.hasPrefix, List.isPrefixOf, h, h']
theorem ahd_cons47 (r : List UInt8) : ahd 63 (47 :: r) = 47 :: pathL (47 :: r) ∧ bhd 63 (47 :: r) = qryL (47 :: r) ∧ hsb 63 (47 :: r) = hasQ (47 :: r) := by
  refine ⟨ahd_step (by decide) r, ?_, ?_⟩
  · show ((47 :: r).dropWhile (fun x => x != 63)).tail = bhd 63 r
    rw [List.dropWhile_cons_of_pos (by decide)]
    rfl
  · show (!((47 :: r).dropWhile (fun x => x != 63)).isEmpty) = hsb 63 r
    rw [List.dropWhile_cons_of_pos (by decide)]
    rfl
theorem below_undrewN {w W : World} {B n : Nat} (h : Below B (w.drewN n) W) : Below B w W := ⟨h.os, h.tape, h.output, h.size, h.block⟩
theorem mx_drewN {w : World} {m : Int} (hm : w.cell? ⟨0, 0, none⟩ = some (.int .i64 m)) (n : Nat) : (w.drewN n).cell? ⟨0, 0, none⟩ = some (.int .i64 m) := hm
set_option maxRecDepth 20000 in
set_option maxHeartbeats 16000000 in
theorem split_route (s : ByteArray) (hs : s.size ≤ 140737488355328) (m : Int) (w : World) (hm : w.cell? ⟨0, 0, none⟩ = some (.int .i64 m)) : Calls Tryd.prog 14 #[.string s] w (RawP w (pcsL s.data.toList) (qryL s.data.toList) (hasQ s.data.toList) (splE s.data.toList)) := by
  obtain ⟨i0, hi, hz⟩ := Option.map_eq_some_iff.1 info9
  simp only [Prod.mk.injEq] at hz
  obtain ⟨hz0, hz1, hz2⟩ := hz
  have hlen := size_list' s
  by_cases h1 : 1024 < s.size
  · have h1z : (1024 : Int) < (s.size : Int) := by omega
    have HQ : Hid (splE s.data.toList = 3) := spl_long (by rw [hlen]; exact h1)
    rw [HQ.out]
    clear hlen
    go_enter Tryd.func14, Tryd.ntmps14
    go_wp2_with fail
    refine bodyPost_ret (results_tmp4 rfl _ _ _) rfl ?_
    exact ⟨Below.refl _ _, Or.inl ⟨by decide, rfl⟩⟩
  have h1z : ¬ (1024 : Int) < (s.size : Int) := by omega
  have hn1 : ¬ 1024 < s.data.toList.length := by rw [hlen]; exact h1
  have H0 : Hid (∀ W : World, _) := fun W => Tryd.strings_HasPrefix s ⟨#[47]⟩ W
  rw [show (⟨#[47]⟩ : ByteArray).data.toList = [47] from rfl, hp_one] at H0
  by_cases h2 : s.data.toList.head? = some 47
  · rw [decide_eq_true h2] at H0
    obtain ⟨r, hd1⟩ : ∃ r, s.data.toList = 47 :: r := by
      cases hq : s.data.toList with
      | nil => rw [hq] at h2; cases h2
      | cons x l => rw [hq] at h2; simp at h2; exact ⟨l, by rw [h2]⟩
    have H1 : Hid (∀ _ : Unit, _) := fun _ => cut_any s 63 (by omega) m w hm
    rw [cutP_ahd] at H1
    have HOK : Hid ((∀ p ∈ rawL s.data.toList, (unesc p).isSome = true) → splE s.data.toList = 0) := fun q => spl_ok hn1 h2 q
    have HNO : Hid (∀ p ∈ rawL s.data.toList, unesc p = none → splE s.data.toList = 150) := fun p q1 q2 => spl_bad hn1 h2 q1 q2
    obtain ⟨e1, e2, e3⟩ := ahd_cons47 r
    have hl := raw_len s.data.toList
    have HM : Hid (∀ p ∈ rawL s.data.toList, p.length ≤ s.data.toList.length) := fun p hp => raw_mem hp
    rw [pcs_map]
    rw [hlen] at HM hl
    have hpl := path_len s.data.toList
    rw [hlen] at hpl
    rw [hd1] at H1 HOK HNO hl HM hpl ⊢
    rw [e1, e2, e3] at H1
    have H2 : Hid (∀ W : World, W.cell? ⟨0, 0, none⟩ = some (.int .i64 m) → _) := fun W q => rawPieces_any (pathL (47 :: r)) (by omega) m W q
    rw [show cutL 47 (pathL (47 :: r)) = rawL (47 :: r) from rfl] at H2
    obtain ⟨L, hL⟩ : ∃ L, rawL (47 :: r) = L := ⟨_, rfl⟩
    rw [hL] at HOK HNO HM hl H2 ⊢
    obtain ⟨er, her⟩ : ∃ er, splE (47 :: r) = er := ⟨_, rfl⟩
    rw [her] at HOK HNO ⊢
    obtain ⟨q, hq⟩ : ∃ q, qryL (47 :: r) = q := ⟨_, rfl⟩
    obtain ⟨hs', hh⟩ : ∃ hs', hasQ (47 :: r) = hs' := ⟨_, rfl⟩
    rw [hq, hh] at H1 ⊢
    obtain ⟨PB, hPB⟩ : ∃ PB, bOf (47 :: pathL (47 :: r)) = PB := ⟨_, rfl⟩
    dsimp only at H1
    rw [hPB] at H1 H2
    obtain ⟨n, hn⟩ : ∃ n, L.length = n := ⟨_, rfl⟩
    rw [hn] at hl H2
    have HN : Hid (L.length = n) := hn
    have hn2 : n ≤ 1025 := by omega
    have HMX : Hid _ := hm
    clear hL her hq hh hn hl hPB e1 e2 e3 hd1 h2 hn1 hlen hm hpl
    go_enter Tryd.func14, Tryd.ntmps14
    go_wp2_with fail
    refine (H0.out _).mono ?_
    rintro e w0 ⟨rfl, hw0⟩
    rw [hw0]
    clear hw0 w0 H0
    go_wp2_with fail
    refine (H1.out ()).mono ?_
    rintro e w0 ⟨rfl, nd, hw0⟩
    rw [hw0]
    clear hw0 w0 H1
    go_wp2_with fail
    refine (H2.out (w.drewN nd) HMX.out).mono ?_
    rintro e w1 ⟨a, cp, rfl, htx, b1⟩
    have HB1 : Hid (Below w.heap.size w w1) := below_undrewN b1
    have HTX : Hid (TextsAt w1 a (L.map bOf)) := htx
    clear b1 htx H2
    go_wp2_with fail
    go_loopw [2, 3, 4, 26] (fun v x3 x4 i wr => ∃ k : Nat, k ≤ n ∧ x3 = .string (bOf q) ∧ x4 = .bool hs' ∧ i = .int .i64 (k : Nat) ∧ wr.ownsRow w1.heap.size 9 1 v k (strV (((L.take k).map ufp).map bOf)) ∧ Hid (∀ p ∈ L.take k, (unesc p).isSome = true) ∧ Hid (Below w1.heap.size w1 wr)) (fun _ _ _ i _ => n - (intOf i).toNat)
    case atStart => exact ⟨0, by omega, rfl, rfl, rfl, by rw [List.take_zero]; exact World.ownsRow_nil _ _ _ _, fun p hp => by simp at hp, Below.refl _ _⟩
    case round =>
      obtain ⟨k, hk, rfl, rfl, rfl, how, HA, HB⟩ := hrel
      obtain ⟨va, vc, rfl⟩ := row_form how
      have HOW : Hid _ := how
      have HBW : Hid (Below w.heap.size w wr) := HB1.out.trans (HB.out.mono HB1.out.size)
      clear how
      by_cases hlt : k < n
      · have hlz : (k : Int) < (n : Int) := by omega
        obtain ⟨p, hp⟩ : ∃ p, L[k]? = some p := ⟨_, List.getElem?_eq_getElem (by rw [HN.out]; exact hlt)⟩
        obtain ⟨gb, off, ea, _, c0⟩ := (HTX.out.below HB.out) k (bOf p) (by rw [List.getElem?_map, hp]; rfl)
        subst ea
        have hpm := List.mem_of_getElem? hp
        have hpl := HM.out p hpm
        have H3 : Hid (∀ W : World, _) := fun W => unescape_any (bOf p) W (by rw [bOf_size]; omega)
        rw [show (bOf p).data.toList = p from rfl] at H3
        unfold unescV at H3
        cases hu : unesc p with
        | none =>
          rw [hu] at H3
          dsimp only at H3
          have HE : Hid (er = 150) := HNO.out p hpm hu
          clear hu hp hpm hpl
          go_wp2_with fail
          refine (H3.out _).mono ?_
          rintro e w2 ⟨rfl, b2⟩
          have HB2 : Hid (Below w.heap.size w w2) := HBW.out.trans (b2.mono HBW.out.size)
          clear b2
          go_wp2_with fail
          refine bodyPost_ret (results_tmp4 rfl _ _ _) rfl ?_
          exact ⟨HB2.out, Or.inl ⟨by rw [HE.out]; decide, by rw [HE.out]; rfl⟩⟩
        | some u =>
          rw [hu] at H3
          dsimp only at H3
          have HTK : Hid _ := take_snoc hp
          rw [ufp_some hu] at HTK
          have HA2 : Hid (∀ p ∈ L.take (k + 1), (unesc p).isSome = true) := by
            rw [Hid, List.take_add_one, hp]
            intro q hq
            rcases List.mem_append.1 hq with hq | hq
            · exact HA.out q hq
            · have : q = p := by simpa using hq
              rw [this, hu]
              rfl
          clear hu hp hpm hpl
          go_wp2_with fail
          refine (H3.out _).mono ?_
          rintro e w2 ⟨rfl, b2⟩
          have HB2 : Hid (Below w1.heap.size w1 w2) := HB.out.trans (b2.mono HB.out.size)
          have HOW2 : Hid (w2.ownsRow w1.heap.size 9 1 (.slice va k vc) k (strV (((L.take k).map ufp).map bOf))) := owns_on2 HOW.out b2
          have hra : Hid (∀ o, (w2.alloc o).ownsRow w1.heap.size 9 1 (.slice va k vc) k (strV (((L.take k).map ufp).map bOf))) := fun o => World.ownsRow.alloc HOW2.out o
          have hsz2 := HB2.out.size
          clear b2
          go_wp2_with (at_builtin; go_loud (refine wpList_append_own _ rfl (.tmp 38) (.tmp 40) 28 rfl w1.heap.size 9 i0 (.string ⟨#[]⟩) 1 16 Tryd.underlying28 hi hz0 hz1 hz2 rfl (by decide) _ _ _ rfl (hra.out _) ⟨_, 0, none⟩ 1 1 [.string (bOf u)] rfl rfl (new_cells _ [.string (bOf u)] _) (strV_one [bOf u]) (by unfold maxLen; omega) (by omega) (by simp; omega) ?_))
          intro v1 w5 hown1 hgrow _
          obtain ⟨a1, cap1, rfl⟩ := row_form hown1
          have HR5 : Hid (w5.ownsRow w1.heap.size 9 1 (.slice a1 (k + 1) cap1) (k + 1) (strV (((L.take (k + 1)).map ufp).map bOf))) := by
            rw [Hid, HTK.out]
            have e : strV (((L.take k).map ufp).map bOf ++ [bOf u]) = strV (((L.take k).map ufp).map bOf) ++ [.string (bOf u)] := by simp [strV]
            rw [e]
            simp only [List.map_take, List.map_map] at hown1 ⊢
            exact hown1
          have HB5 : Hid (Below w1.heap.size w1 w5) := (HB2.out.alloc hsz2 _).grown hgrow (by simp; omega) (fun i hi => (World.ownsRow.lt HOW2.out i hi).1)
          clear hown1 hgrow
          go_wp2_with fail
          go_roundw
          case rel => exact ⟨k + 1, by omega, rfl, rfl, by go_num, HR5.out, HA2.out, HB5.out⟩
          case measure => simp [intOf]; omega
      · obtain rfl : k = n := by omega
        have hlz : ¬ (k : Int) < (k : Int) := by omega
        have hq := HOW.out
        have ha := HA.out
        rw [List.take_of_length_le (by rw [HN.out]; omega)] at hq ha
        have HQ : Hid _ := owns_down2 hq HB1.out.size
        have HE : Hid (er = 0) := HOK.out ha
        have HML : Hid ((L.map ufp).length = k) := by rw [Hid, List.length_map, HN.out]
        clear hq ha
        go_wp2_with fail
        refine bodyPost_ret (results_tmp4 rfl _ _ _) rfl ?_
        refine ⟨HBW.out, Or.inr ⟨HE.out, va, vc, by rw [HML.out]; rfl, by rw [HML.out]; exact HQ.out⟩⟩
  · rw [decide_eq_false h2] at H0
    have HQ : Hid (splE s.data.toList = 150) := spl_head hn1 h2
    rw [HQ.out]
    clear hlen hn1 h2 hm
    go_enter Tryd.func14, Tryd.ntmps14
    go_wp2_with fail
    refine (H0.out _).mono ?_
    rintro e w0 ⟨rfl, hw0⟩
    rw [hw0]
    clear hw0 w0 H0
    go_wp2_with fail
    refine bodyPost_ret (results_tmp4 rfl _ _ _) rfl ?_
    exact ⟨Below.refl _ _, Or.inl ⟨by decide, rfl⟩⟩
end Go.Proofs.YtbpfggpljfpfcaaDoor
