/-
  The contract of right: a head's words, the counts of its fields' names, its body's size.
-/
import Derived.Test.YthhhoppmbimeiaaDoorRdF
import Derived.Maps.OwnOps
import Derived.Maps.OwnSet
import Derived.Maps.Views
namespace Go.Proofs.YthhhoppmbimeiaaDoor
open Go.RowKit Go.WideMaps Go.Maps
theorem mlaw : Keyed Tryd.prog 9 := string_keyed Tryd.underlying9
theorem mzero3 (w : World) : (zeroValue 3).run Tryd.prog w = .ok (.int .i64 0) w := by kernel_rfl
/-- How many fields have a name, in small letters. -/
def cnt (s : ByteArray) (fs : List Fd) : Nat := (fs.filter (fun c => decide (lowT c.name = s))).length
theorem cnt_take {s : ByteArray} {fs : List Fd} {k : Nat} {x : Fd} (h : fs[k]? = some x) : cnt s (fs.take (k + 1)) = cnt s (fs.take k) + if lowT x.name = s then 1 else 0 := by
  unfold cnt
  rw [List.take_add_one, h, Option.toList, List.filter_append, List.length_append]
  congr 1
  by_cases hq : lowT x.name = s <;> simp [List.filter, hq]
theorem cnt_le (s : ByteArray) (fs : List Fd) : cnt s fs ≤ fs.length := List.length_filter_le _ _
theorem toList_inj {a b : ByteArray} (h : a.toList = b.toList) : a = b := by
  rw [ByteArray.toList_eq, ByteArray.toList_eq] at h
  cases a; cases b
  simp only [ByteArray.mk.injEq]
  exact Array.toList_inj.1 h
theorem cnt_all {nm : ByteArray} (hl : lowT nm = nm) (fs : List Fd) : (allF nm fs).length = cnt nm fs := by
  unfold allF cnt
  rw [List.length_map]
  congr 2
  funext c
  unfold hitF
  rw [hl, Bool.eq_iff_iff, beq_iff_eq, decide_eq_true_eq]
  exact ⟨toList_inj, fun h => by rw [h]⟩
def CntD (D : DataW Unit) (fs : List Fd) : Prop := ∀ s : ByteArray, D.atKey (.string s.data.toList) (.lit (.int .i64 0)) = .lit (.int .i64 (cnt s fs : Nat))
theorem CntD.nil : CntD (.map []) [] := fun _ => rfl
theorem data_inj {a b : ByteArray} (h : a.data.toList = b.data.toList) : a = b := by
  cases a; cases b
  simp only [ByteArray.mk.injEq]
  exact Array.toList_inj.1 h
theorem CntD.put {D : DataW Unit} {fs : List Fd} {k : Nat} {x : Fd} {s : ByteArray} (h : CntD D (fs.take k)) (hx : fs[k]? = some x) (hs : lowT x.name = s) (hM : IsMap D) : CntD (D.put (.string s.data.toList) (.lit (.int .i64 ((cnt s (fs.take k) : Nat) + 1)))) (fs.take (k + 1)) := by
  intro t
  rw [cnt_take hx]
  by_cases e : s = t
  · subst e
    rw [atKey_put_same hM (show WideAt.IsKeyLit (.string s.data.toList) by first | trivial | exact ⟨_, rfl⟩ | simp [WideAt.IsKeyLit]), if_pos hs]
    rfl
  · rw [atKey_put_other (fun q => e (data_inj (Lit.string.inj q)).symm), h t, if_neg (by rw [hs]; exact e)]
    rfl
def rightR (met tar : ByteArray) (fs : List Fd) : Int × Int := if metR met = true ∧ tarR tar = true ∧ togR fs = true then lenR fs else (0, 170)
theorem getF_ok {name : ByteArray} {fs : List Fd} (hf : ∀ c ∈ fs, fdOk c) : (getF name fs).1.size ≤ 140737488355328 := by
  unfold getF
  cases hq : allF name fs with
  | nil => exact Nat.zero_le _
  | cons v l =>
    obtain ⟨c, hc, rfl⟩ := allF_mem (name := name) (fs := fs) (v := v) (by rw [hq]; exact List.mem_cons_self ..)
    exact (hf c hc).2
theorem lenR_get (fs : List Fd) : lenR fs = if (getF nmLen fs).2 = true then bodyR (getF nmLen fs).1 else (0, 0) := by
  unfold lenR getF
  cases allF nmLen fs with
  | nil => rfl
  | cons v l => rfl
set_option maxRecDepth 20000 in
set_option maxHeartbeats 8000000 in
theorem right_any (r : Rq) (B : Nat) (w : World) (h : FA B w r.a r.fs) (hB : B ≤ w.heap.size) (hr : rqOk r) (h1 : r.met.size ≤ 140737488355328) (h2 : r.tar.size ≤ 140737488355328) :
    Calls Tryd.prog 23 #[rqV r] w fun e w' => e = .returned (.tuple #[.int .i64 (rightR r.met r.tar r.fs).1, .int .i64 (rightR r.met r.tar r.fs).2]) ∧ Below w.heap.size w w' := by
  have H1 : Hid (∀ W : World, _) := fun W => isMethod_any r.met h1 W
  have H2 : Hid (∀ W : World, _) := fun W => isTarget_any r.tar h2 W
  have H3 : Hid (∀ W : World, FA B W r.a r.fs → B ≤ W.heap.size → _) := fun W h1 h2 => get_any r B nmLen W h1 h2 hr (by decide)
  have HO : Hid (∀ c ∈ r.fs, fdOk c) := hr.2
  have H4 : Hid (∀ W : World, _) := fun W => bodySize_any (getF nmLen r.fs).1 (getF_ok hr.2) W
  have HF : Hid _ := h
  have HG : Hid (rightR r.met r.tar r.fs = if metR r.met = true ∧ tarR r.tar = true ∧ togR r.fs = true then lenR r.fs else (0, 170)) := rfl
  rw [lenR_get] at HG
  obtain ⟨T, hT⟩ : ∃ T, rightR r.met r.tar r.fs = T := ⟨_, rfl⟩
  rw [hT] at HG ⊢
  clear hT h hr h1 h2
  obtain ⟨met, tar, a, c, fs, body, shut⟩ := r
  simp only [rqV] at *
  have HTog : Hid (togR fs = decide (fs.length ≤ 32 ∧ cnt nmHost fs = 1 ∧ cnt nmLen fs ≤ 1 ∧ cnt nmCode fs = 0)) := by
    rw [Hid, togR, cnt_all (by decide +kernel), cnt_all (by decide +kernel), cnt_all (by decide +kernel)]
  obtain ⟨n, hn⟩ : ∃ n, fs.length = n := ⟨_, rfl⟩
  have HL : Hid _ := hn
  rw [hn] at H3 HTog ⊢
  clear hn
  obtain ⟨bm, hbm⟩ : ∃ b, metR met = b := ⟨_, rfl⟩
  obtain ⟨bt, hbt⟩ : ∃ b, tarR tar = b := ⟨_, rfl⟩
  obtain ⟨gs, hgs⟩ : ∃ b, (getF nmLen fs).1 = b := ⟨_, rfl⟩
  obtain ⟨gb, hgb⟩ : ∃ b, (getF nmLen fs).2 = b := ⟨_, rfl⟩
  rw [hbm] at H1 HG
  rw [hbt] at H2 HG
  rw [hgs] at H3 H4 HG
  rw [hgb] at H3 HG
  obtain ⟨d1, hd1⟩ : ∃ d, (bodyR gs).1 = d := ⟨_, rfl⟩
  obtain ⟨d2, hd2⟩ : ∃ d, (bodyR gs).2 = d := ⟨_, rfl⟩
  have HBD : Hid (bodyR gs = (d1, d2)) := by rw [Hid, ← hd1, ← hd2]
  rw [hd1, hd2] at H4
  clear hbm hbt hgs hgb hd1 hd2
  have q1 : nmHost = (⟨#[104, 111, 115, 116]⟩ : ByteArray) := rfl
  have q2 : nmLen = (⟨#[99, 111, 110, 116, 101, 110, 116, 45, 108, 101, 110, 103, 116, 104]⟩ : ByteArray) := rfl
  have q3 : nmCode = (⟨#[116, 114, 97, 110, 115, 102, 101, 114, 45, 101, 110, 99, 111, 100, 105, 110, 103]⟩ : ByteArray) := rfl
  rw [q2] at H3
  obtain ⟨W0, hW0⟩ : ∃ W0, w.alloc (.cells #[.string met, .string tar, .slice a n c, .string body, .bool shut] 24) = W0 := ⟨_, rfl⟩
  have HZ : Hid (W0.heap.size = w.heap.size + 1) := by rw [Hid, ← hW0]; simp
  have HB0 : Hid (Below w.heap.size w W0) := by rw [Hid, ← hW0]; exact (Below.refl _ _).alloc (Nat.le_refl _) _
  have HF0 : Hid (FA B W0 a fs) := FA.below HF.out (fun b hb => HB0.out.block b (by omega))
  have hx := block_alloc_at w (.cells #[.string met, .string tar, .slice a n c, .string body, .bool shut] 24)
  rw [hW0] at hx
  have HX0 : Hid (BoxR W0 w.heap.size met tar (.slice a n c) body shut) := ⟨cell_of_block hx rfl, cell_of_block hx rfl, cell_of_block hx rfl, cell_of_block hx rfl, cell_of_block hx rfl⟩
  clear hx HF
  obtain ⟨c0, c1, c2, c3, c4⟩ := HX0.out
  cases bm with
  | false =>
    have HR : Hid (T = (0, 170)) := by rw [Hid, HG.out, if_neg (by simp)]
    go_enter Tryd.func23, Tryd.ntmps23
    go_wp2_with fail
    try rw [hW0]
    refine (H1.out _).mono ?_
    rintro e w1 ⟨rfl, rfl⟩
    go_wp2_with fail
    go_ret2
    exact ⟨by rw [HR.out]; rfl, HB0.out⟩
  | true =>
  cases bt with
  | false =>
    have HR : Hid (T = (0, 170)) := by rw [Hid, HG.out, if_neg (by simp)]
    go_enter Tryd.func23, Tryd.ntmps23
    go_wp2_with fail
    try rw [hW0]
    refine (H1.out _).mono ?_
    rintro e w1 ⟨rfl, hw1⟩
    rw [hw1]
    clear hw1 w1
    go_wp2_with fail
    refine (H2.out _).mono ?_
    rintro e w1 ⟨rfl, rfl⟩
    go_wp2_with fail
    go_ret2
    exact ⟨by rw [HR.out]; rfl, HB0.out⟩
  | true =>
  by_cases g0 : n ≤ 32
  · have z0 : (n : Int) ≤ 32 := by omega
    have z1 : ¬ (n : Int) > 32 := by omega
    have z2 : ¬ (32 : Int) < (n : Int) := by omega
    have z3 : decide ((32 : Int) < (n : Int)) = false := by simp; omega
    clear z1 z2
    have ca : ∀ o, (W0.alloc o).cell? ⟨w.heap.size, 2, none⟩ = some (.slice a n c) := fun o => (World.cell?_of_block (((Below.refl W0.heap.size W0).alloc (Nat.le_refl _) o).block w.heap.size (by have := HZ.out; omega))).trans c2
    have hmm := @run_makeMap Tryd.prog
    go_enter Tryd.func23, Tryd.ntmps23
    go_wp2_with fail
    try rw [hW0]
    refine (H1.out _).mono ?_
    rintro e w1 ⟨rfl, hw1⟩
    rw [hw1]
    clear hw1 w1
    go_wp2_with fail
    refine (H2.out _).mono ?_
    rintro e w1 ⟨rfl, hw1⟩
    rw [hw1]
    clear hw1 w1
    go_wp2_with fail
    go_loopw [29] (fun i wr => ∃ (k : Nat) (D : DataW Unit), k ≤ n ∧ i = .int .i64 (k : Nat) ∧ wr.ownsMap Tryd.prog 9 (plainElem Tryd.prog 3) W0.heap.size k D ∧ Hid (CntD D (fs.take k)) ∧ Hid (Below W0.heap.size W0 wr)) (fun i _ => n - (intOf i).toNat)
    case atStart => exact ⟨0, .map [], by omega, rfl, World.ownsMap_made _ _ _ _, by rw [Hid, List.take_zero]; exact CntD.nil, (Below.refl _ _).alloc (Nat.le_refl _) _⟩
    case round =>
      obtain ⟨k, D, hkn, rfl, hown, HD, HB⟩ := hrel
      by_cases hlt : k < n
      · have hlz : (k : Int) < (n : Int) := by omega
        obtain ⟨x, hx⟩ : ∃ x, fs[k]? = some x := ⟨fs[k]'(by rw [HL.out]; exact hlt), List.getElem?_eq_getElem _⟩
        have HC2 : FA B wr a fs := FA.below HF0.out (fun b hb => HB.out.block b (by have := HZ.out; omega))
        obtain ⟨b, off, rfl, _, x0, x1⟩ := HC2 k x hx
        have H5 : Hid (∀ W : World, _) := fun W => lower_any x.name (HO.out x (List.mem_of_getElem? hx)).1 W
        rw [show (⟨(x.name.data.toList.map lowC).toArray⟩ : ByteArray) = lowT x.name from rfl] at H5
        have HSZ : Hid ((lowT x.name).size ≤ maxLen) := by
          have := (HO.out x (List.mem_of_getElem? hx)).1
          rw [Hid]
          show (x.name.data.toList.map lowC).toArray.size ≤ _
          unfold maxLen
          simp
          have e : x.name.data.size = x.name.size := rfl
          omega
        have HPUT : Hid (∀ s, lowT x.name = s → CntD (D.put (.string s.data.toList) (.lit (.int .i64 ((cnt s (fs.take k) : Nat) + 1)))) (fs.take (k + 1))) := fun s hs => CntD.put HD.out hx hs hown.isMap
        have HP := HPUT.out _ rfl
        have hcl : cnt (lowT x.name) (fs.take k) ≤ k := by have := cnt_le (lowT x.name) (fs.take k); have h2 := List.length_take_le k fs; omega
        have HAT := HD.out (lowT x.name)
        obtain ⟨ln, hln⟩ : ∃ ln, lowT x.name = ln := ⟨_, rfl⟩
        rw [hln] at H5 HSZ HP hcl HAT
        obtain ⟨cx, hcx⟩ : ∃ cx, cnt ln (fs.take k) = cx := ⟨_, rfl⟩
        rw [hcx] at HP hcl HAT
        have HPU : Hid _ := HP
        obtain ⟨xn, xv⟩ := x
        simp only at x0 x1
        have hkey : keyOf Tryd.prog 9 (.string ln) = some (.string ln.data.toList) := keyOf_string_mk Tryd.underlying9 HSZ.out
        have HOW : Hid _ := hown
        clear hx HC2 hln hcx HPUT HP hown
        go_wp2_with fail
        refine (H5.out _).mono ?_
        rintro e w2 ⟨rfl, b2⟩
        have hown2 : w2.ownsMap Tryd.prog 9 (plainElem Tryd.prog 3) W0.heap.size k D := by
          have h1 : (wr.alloc (.cells #[.string xn, .string xv] 53)).ownsMap Tryd.prog 9 (plainElem Tryd.prog 3) W0.heap.size k D := World.ownsMap.alloc HOW.out _
          obtain ⟨es, clock, hb, hF, hs, hD⟩ := h1
          exact ⟨es, clock, (b2.block _ (Array.getElem?_eq_some_iff.1 hb).1).trans hb, hF, hs, hD⟩
        have HB2 : Hid (Below W0.heap.size W0 w2) := (HB.out.alloc HB.out.size _).trans (b2.mono (by have := HB.out.size; simp; omega))
        clear b2
        obtain ⟨cc, hrun, hat, _⟩ := hown2.lookup_int mlaw Tryd.underlying63 Tryd.underlying3 (mzero3 _) hkey
        rw [HAT] at hat
        obtain rfl : cc = (cx : Int) := by simpa using hat.symm
        clear hat HAT
        have hww : wrap64 ((cx : Int) + 1) = (cx : Int) + 1 := by unfold wrap64; omega
        go_wp2_with (at_mapUpdate; refine wpList_mapUpdate_own _ rfl _ _ _ 63 rfl 9 3 mlaw Tryd.underlying63 _ W0.heap.size k _ rfl hown2 (by unfold maxLen; omega) _ _ _ rfl rfl hkey _ [] (plainElem_int Tryd.underlying3 (WalkArith.wf_i64 (by omega))) ?_)
        intro w3 hown3 hgrow3
        have HB3 : Hid (Below W0.heap.size W0 w3) := HB2.out.grown hgrow3 HB2.out.size (fun j hj => by cases hj; exact Nat.le_refl _)
        clear hgrow3 hown2 hrun
        go_wp2_with fail
        go_roundw
        case rel => exact ⟨k + 1, _, by omega, by go_num, hown3, HPU.out, HB3.out⟩
        case measure => simp [intOf]; omega
      · have hlz : ¬ (k : Int) < (n : Int) := by omega
        obtain rfl : k = n := by omega
        have HDA : CntD D fs := by have := HD.out; rw [List.take_of_length_le (by rw [HL.out]; exact Nat.le_refl _)] at this; exact this
        obtain ⟨e1, r1, a1, _⟩ := hown.lookup_int (key := .string nmHost) mlaw Tryd.underlying63 Tryd.underlying3 (mzero3 _) (keyOf_string_mk Tryd.underlying9 (by decide))
        obtain ⟨e2, r2, a2, _⟩ := hown.lookup_int (key := .string nmLen) mlaw Tryd.underlying63 Tryd.underlying3 (mzero3 _) (keyOf_string_mk Tryd.underlying9 (by decide))
        obtain ⟨e3, r3, a3, _⟩ := hown.lookup_int (key := .string nmCode) mlaw Tryd.underlying63 Tryd.underlying3 (mzero3 _) (keyOf_string_mk Tryd.underlying9 (by decide))
        rw [HDA] at a1 a2 a3
        have n1 : e1 = (cnt nmHost fs : Nat) := by simpa using a1.symm
        have n2 : e2 = (cnt nmLen fs : Nat) := by simpa using a2.symm
        have n3 : e3 = (cnt nmCode fs : Nat) := by simpa using a3.symm
        clear a1 a2 a3 HDA
        obtain ⟨m1, hm1⟩ : ∃ m, cnt nmHost fs = m := ⟨_, rfl⟩
        obtain ⟨m2, hm2⟩ : ∃ m, cnt nmLen fs = m := ⟨_, rfl⟩
        obtain ⟨m3, hm3⟩ : ∃ m, cnt nmCode fs = m := ⟨_, rfl⟩
        rw [hm1, hm2, hm3] at HTog
        rw [hm1] at n1
        rw [hm2] at n2
        rw [hm3] at n3
        rw [n1, q1] at r1
        rw [n2, q2] at r2
        rw [n3, q3] at r3
        clear n1 n2 n3 hm1 hm2 hm3 hown
        have HXk : Hid (BoxR wr w.heap.size met tar (.slice a k c) body shut) := HX0.out.below HB.out (by have := HZ.out; omega)
        have HFk : Hid (FA B wr a fs) := FA.below HF0.out (fun b hb => HB.out.block b (by have := HZ.out; omega))
        have HBk : Hid (Below w.heap.size w wr) := HB0.out.trans (HB.out.mono HB0.out.size)
        have hBk : B ≤ wr.heap.size := by have := HBk.out.size; omega
        clear c0 c1 c2 c3 c4
        obtain ⟨c0, c1, c2, c3, c4⟩ := HXk.out
        by_cases g1 : m1 = 1
        · by_cases g2 : m2 ≤ 1
          · by_cases g3 : m3 = 0
            · have HR : Hid (T = if gb = true then bodyR gs else (0, 0)) := by rw [Hid, HG.out, if_pos ⟨by first | rfl | trivial, by first | rfl | trivial, by rw [HTog.out]; exact decide_eq_true ⟨g0, g1, g2, g3⟩⟩]
              have y1 : ((m1 : Int) != 1) = false := by simp; omega
              have y2 : (m2 : Int) ≤ 1 := by omega
              have y2' : ¬ (1 : Int) < (m2 : Int) := by omega
              have y3 : (m3 : Int) ≤ 0 := by omega
              have y3' : ¬ (0 : Int) < (m3 : Int) := by omega
              go_wp2_with fail
              refine (H3.out _ HFk.out hBk).mono ?_
              rintro e w4 ⟨rfl, b4⟩
              have HB4 : Hid (Below w.heap.size w w4) := HBk.out.trans (b4.mono HBk.out.size)
              clear b4
              cases gb with
              | false =>
                go_wp2_with fail
                go_ret2
                exact ⟨by rw [HR.out]; rfl, HB4.out⟩
              | true =>
                go_wp2_with fail
                refine (H4.out _).mono ?_
                rintro e w5 ⟨rfl, b5⟩
                go_wp2_with fail
                go_ret2
                exact ⟨by rw [HR.out, if_pos (by first | rfl | trivial), HBD.out]; rfl, HB4.out.trans (b5.mono HB4.out.size)⟩
            · have HR : Hid (T = (0, 170)) := by rw [Hid, HG.out, if_neg (by rw [HTog.out, decide_eq_false (by omega)]; simp)]
              have y1 : ((m1 : Int) != 1) = false := by simp; omega
              have y2 : ¬ (1 : Int) < (m2 : Int) := by omega
              have y3 : (0 : Int) < (m3 : Int) := by omega
              go_wp2_with fail
              go_ret2
              exact ⟨by rw [HR.out]; rfl, HBk.out⟩
          · have HR : Hid (T = (0, 170)) := by rw [Hid, HG.out, if_neg (by rw [HTog.out, decide_eq_false (by omega)]; simp)]
            have y1 : ((m1 : Int) != 1) = false := by simp; omega
            have y2 : (1 : Int) < (m2 : Int) := by omega
            go_wp2_with fail
            go_ret2
            exact ⟨by rw [HR.out]; rfl, HBk.out⟩
        · have HR : Hid (T = (0, 170)) := by rw [Hid, HG.out, if_neg (by rw [HTog.out, decide_eq_false (by omega)]; simp)]
          have y1 : ((m1 : Int) != 1) = true := by simp; omega
          go_wp2_with fail
          go_ret2
          exact ⟨by rw [HR.out]; rfl, HBk.out⟩
  · have z0 : (n : Int) > 32 := by omega
    have z1 : (32 : Int) < (n : Int) := by omega
    have HR : Hid (T = (0, 170)) := by rw [Hid, HG.out, if_neg (by rw [HTog.out, decide_eq_false (by omega)]; simp)]
    go_enter Tryd.func23, Tryd.ntmps23
    go_wp2_with fail
    try rw [hW0]
    refine (H1.out _).mono ?_
    rintro e w1 ⟨rfl, hw1⟩
    rw [hw1]
    clear hw1 w1
    go_wp2_with fail
    refine (H2.out _).mono ?_
    rintro e w1 ⟨rfl, rfl⟩
    go_wp2_with fail
    go_ret2
    exact ⟨by rw [HR.out]; rfl, HB0.out⟩
end Go.Proofs.YthhhoppmbimeiaaDoor
