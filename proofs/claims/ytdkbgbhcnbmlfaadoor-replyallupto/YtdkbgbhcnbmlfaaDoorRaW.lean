/-
  The walk of ReplyAll.
-/
import Derived.Test.YtdkbgbhcnbmlfaaDoorAll
import Derived.Test.YtdkbgbhcnbmlfaaDoorQal
import Derived.Lib.AppendStr
import Derived.BigQuiet
namespace Go.Proofs.YtdkbgbhcnbmlfaaDoor
open Go.RowKit
theorem wrL_len2 {r : Rp} (h : okR r = true) : (wrL r).length ≤ 1100000 := by
  obtain ⟨o1, o2, o3, o4, o5⟩ := ok_parts h
  have h1 := bSt_size (ok_sts o1)
  have h2 := itB_ten (n := (r.body.length : Nat)) (by omega) (by omega)
  have e1 : (bSt r).data.toList.length = (bSt r).size := size_list _
  have e2 : (bLn r).data.toList.length ≤ 100 := by
    rw [size_list]
    unfold bLn
    rw [ByteArray.size_append, ByteArray.size_append]
    show 16 + _ + 2 ≤ _
    omega
  have e3 : (bCk r).data.toList.length ≤ 1000 := by
    rw [size_list]
    unfold bCk
    rw [ByteArray.size_append, ByteArray.size_append, mkB_size]
    show 12 + _ + 2 ≤ _
    omega
  have e4 : (if r.body.isEmpty = true then ([] : List UInt8) else (opn 0).data.toList).length ≤ 32 := by split <;> decide
  have e5 : (if r.close = true then (opn 3).data.toList else ([] : List UInt8)).length ≤ 19 := by split <;> decide
  have e6 : (if r.status = 204 then ([] : List UInt8) else (bLn r).data.toList).length ≤ 100 := by split; exact Nat.zero_le _; exact e2
  have e7 : (if r.cookie.isEmpty = true then ([] : List UInt8) else (bCk r).data.toList).length ≤ 1000 := by split; exact Nat.zero_le _; exact e3
  have e8 : crlf.data.toList.length = 2 := rfl
  unfold wrL
  simp only [List.length_append]
  omega
def oks (l : List Rp) : List Rp := l.filter okR
theorem oks_ok (l : List Rp) : ∀ r ∈ oks l, okR r = true := fun _ h => (List.mem_filter.1 h).2
theorem oks_len (l : List Rp) : (oks l).length ≤ l.length := List.length_filter_le _ _
theorem wrs_len : ∀ l : List Rp, (∀ r ∈ l, okR r = true) → (wrs l).length ≤ l.length * 1100000
  | [], _ => Nat.le_refl _
  | r :: l, h => by
    have h1 := wrL_len2 (h r (List.mem_cons_self ..))
    have h2 := wrs_len l (fun x hx => h x (List.mem_cons_of_mem _ hx))
    show (wrL r ++ wrs l).length ≤ _
    rw [List.length_append, List.length_cons]
    omega
theorem oks_step {l : List Rp} {k : Nat} {r : Rp} (h : l[k]? = some r) : oks (l.take (k + 1)) = if okR r = true then oks (l.take k) ++ [r] else oks (l.take k) := by
  rw [List.take_add_one, h]
  unfold oks
  rw [List.filter_append]
  by_cases q : okR r = true
  · rw [if_pos q]; simp [q]
  · rw [if_neg q]; simp [q]
theorem wrs_app (l : List Rp) (r : Rp) : wrs (l ++ [r]) = wrs l ++ wrL r := by simp [wrs]
theorem own_kept {W w2 : World} {B n n' z z' : Nat} {e e' : TypeId} {v v' : Value} {xs xs' : List Value} (h : W.ownsRow B e z v n xs) (h' : W.ownsRow B e' z' v' n' xs') (hne : e ≠ e') (hg : W.grownBy w2 v'.ownBlock) : w2.ownsRow B e z v n xs := by
  refine ⟨h.1, ?_⟩
  rcases h.2 with q | ⟨g, cp, cur, rfl, hb, hh, rr⟩
  · exact Or.inl q
  · refine Or.inr ⟨g, cp, cur, rfl, hb, ?_, rr⟩
    rw [hg.block g (Array.getElem?_eq_some_iff.1 hh).1, hh]
    intro hq
    rcases h'.2 with ⟨rfl, _⟩ | ⟨g2, cap, cur2, rfl, _, hh2, _⟩
    · cases hq
    · cases hq
      rw [hh] at hh2
      cases hh2
      exact hne rfl
theorem blk_kept {w w' : World} {B e n g z : Nat} {v : Value} {xs : List Value} {c : Array Value} {t : TypeId} (h : w.ownsRow B e z v n xs) (hg : w.grownBy w' v.ownBlock) (hb : w.heap[g]? = some (.cells c t (0, 0))) (ht : t ≠ e) : w'.heap[g]? = some (.cells c t (0, 0)) := by
  have hgl : g < w.heap.size := (Array.getElem?_eq_some_iff.1 hb).1
  rw [hg.block g hgl, hb]
  intro hq
  rcases h.2 with ⟨rfl, _⟩ | ⟨g2, cap, cur, rfl, _, hh, _⟩
  · cases hq
  · cases hq
    rw [hb] at hh
    cases hh
    exact ht rfl
theorem RA.drewN {B : Nat} {W : World} {a : Option Addr} {l : List Rp} (h : RA B W a l) (n : Nat) : RA B (W.drewN n) a l := h
theorem below_drewN2 {w W : World} {b : Nat} (h : Below b w W) (n : Nat) : Below b w (W.drewN n) := ⟨h.1, h.2, h.3, h.4, h.5⟩
theorem info5' : (Tryd.prog.info? 5).map (fun i => (i.zero, i.size, i.bytes)) = some (some (.int .u8 0), 1, 1) := by kernel_rfl
set_option maxRecDepth 20000 in
set_option maxHeartbeats 16000000 in
theorem rall_walk (l : List Rp) (a : Option Addr) (c : Nat) (bh : ByteArray) (w : World) (ht : TabP w) (hra : RA w.heap.size w a l) (hz : ∀ r ∈ l, rpZ r) (hn : l.length ≤ 1048576) (hb : bh.size ≤ 1048576) : Calls Tryd.prog 6 #[.slice a l.length c, .string bh] w fun e w' => e = .returned (.bool true) ∧ Below w.heap.size w w' := by
  have HTB : Hid (∀ W, Below w.heap.size w W → TabP W) := fun W q => tab_below ht q
  have H1 : Hid (∀ W, Below w.heap.size w W → _) := fun W q => awake_any W (HTB.out W q)
  have H2 : Hid (∀ r W, rpZ r → Below w.heap.size w W → _) := fun r W q1 q => write_any r q1 W (HTB.out W q)
  have HRA : Hid (∀ W, Below w.heap.size w W → RA w.heap.size W a l) := fun W q => hra.below q (Nat.le_refl _)
  have HZ : Hid (∀ r ∈ l, rpZ r) := hz
  clear ht hra hz
  obtain ⟨i0, hi, hz⟩ := Option.map_eq_some_iff.1 info_rp
  simp only [Prod.mk.injEq] at hz
  obtain ⟨hz0, hz1, hz2⟩ := hz
  obtain ⟨i5, hi5, hzz⟩ := Option.map_eq_some_iff.1 info5'
  simp only [Prod.mk.injEq] at hzz
  obtain ⟨hz3, hz4, hz5⟩ := hzz
  obtain ⟨n, hnn⟩ : ∃ n, l.length = n := ⟨_, rfl⟩
  have HL : Hid (l.length = n) := hnn
  rw [hnn] at hn ⊢
  clear hnn
  go_enter Tryd.func6, Tryd.ntmps6
  go_upto_region 6 with (go_at_call 9; refine (H1.out _ (Below.refl _ _)).mono ?_; rintro e1 w1 ⟨rfl, b1⟩; have HB1 : Hid (Below w.heap.size w w1) := b1; clear b1)
  go_loopw [5, 6, 22] (fun vb vw i wr => ∃ (k p m : Nat), k ≤ n ∧ i = .int .i64 (k : Nat) ∧ wr.ownsRow w.heap.size 5 1 vb p (cellsOf (wrs (oks (l.take k)))) ∧ Hid ((wrs (oks (l.take k))).length = p) ∧ wr.ownsRow w.heap.size 23 4 vw m (flR (oks (l.take k))) ∧ Hid ((oks (l.take k)).length = m) ∧ Hid (Below w.heap.size w wr)) (fun _ _ i _ => n - (intOf i).toNat)
  case atStart => exact ⟨0, 0, 0, by omega, rfl, World.ownsRow_nil _ _ _ _, rfl, World.ownsRow_nil _ _ _ _, rfl, HB1.out⟩
  case round =>
    obtain ⟨k, p, m, hk, rfl, hob, HP, how, HM, HB⟩ := hrel
    obtain ⟨ba, bc, rfl⟩ := row_form hob
    obtain ⟨va, vc, rfl⟩ := row_form how
    have HOB : Hid (wr.ownsRow w.heap.size 5 1 (.slice ba p bc) p (cellsOf (wrs (oks (l.take k))))) := hob
    have HOW : Hid (wr.ownsRow w.heap.size 23 4 (.slice va m vc) m (flR (oks (l.take k)))) := how
    clear hob how
    by_cases hlt : k < n
    · have hlz : (k : Int) < (n : Int) := by omega
      obtain ⟨r, hr⟩ : ∃ r, l[k]? = some r := ⟨_, List.getElem?_eq_getElem (by rw [HL.out]; exact hlt)⟩
      obtain ⟨gb, off, ea, _, c0, c1, c2, c3⟩ := HRA.out _ HB.out k r hr
      subst ea
      have HC : Hid (∀ W, Below w.heap.size w W → _) := fun W q => H2.out r W (HZ.out r (List.mem_of_getElem? hr)) q
      have HST : Hid (oks (l.take (k + 1)) = if okR r = true then oks (l.take k) ++ [r] else oks (l.take k)) := oks_step hr
      unfold rpV at HC
      clear hr
      go_upto_region 8 with fail
      obtain ⟨W2, hW2⟩ : ∃ W2, wr.alloc (.cells (rpA r) 23) = W2 := ⟨_, rfl⟩
      have HX2 : Hid (RpB W2 wr.heap.size r) := by rw [Hid, ← hW2]; exact block_alloc_at _ _
      have b2 : Below wr.heap.size wr W2 := by rw [← hW2]; exact (Below.refl _ _).alloc (Nat.le_refl _) _
      have HB2 : Hid (Below w.heap.size w W2) := HB.out.trans (b2.mono HB.out.size)
      have HOB2 : Hid (W2.ownsRow w.heap.size 5 1 (.slice ba p bc) p (cellsOf (wrs (oks (l.take k))))) := owns_on2 HOB.out b2
      have HOW2 : Hid (W2.ownsRow w.heap.size 23 4 (.slice va m vc) m (flR (oks (l.take k)))) := owns_on2 HOW.out b2
      have b2s := b2.size
      unfold rpA at hW2
      rw [hW2]
      clear hW2 b2 c0 c1 c2 c3 HOB HOW HB
      obtain ⟨c0, c1, c2, c3⟩ := HX2.out.cells
      cases hok : okR r with
      | false =>
        rw [wrR_no hok] at HC
        rw [hok, if_neg (by decide)] at HST
        dsimp only at HC
        rw [show mkB [] = ⟨#[]⟩ from rfl] at HC
        go_upto_region 9 with (go_at_call 12; refine (HC.out _ HB2.out).mono ?_; rintro e1 w3 ⟨rfl, b3⟩; have HB3 : Hid (Below w.heap.size w w3) := HB2.out.trans (b3.mono HB2.out.size); have HOB3 : Hid (w3.ownsRow w.heap.size 5 1 (.slice ba p bc) p (cellsOf (wrs (oks (l.take k))))) := owns_on2 HOB2.out b3; have HOW3 : Hid (w3.ownsRow w.heap.size 23 4 (.slice va m vc) m (flR (oks (l.take k)))) := owns_on2 HOW2.out b3; clear b3)
        go_wp2_with fail
        go_roundw
        case rel => exact ⟨k + 1, p, m, by omega, by go_num, by rw [HST.out]; exact HOB3.out, by rw [HST.out]; exact HP.out, by rw [HST.out]; exact HOW3.out, by rw [HST.out]; exact HM.out, HB3.out⟩
        case measure => simp [intOf]; omega
      | true =>
        rw [wrR_ok hok] at HC
        rw [hok, if_pos rfl] at HST
        dsimp only at HC
        have hq1 := wrL_len2 hok
        have HSZ : Hid ((mkB (wrL r)).size = (wrL r).length) := mkB_size _
        have hpz : p ≤ 1153433600000 := by
          have h1 := wrs_len (oks (l.take k)) (oks_ok _)
          have h2 := oks_len (l.take k)
          rw [HP.out] at h1
          rw [List.length_take, HL.out] at h2
          exact Nat.le_trans h1 (Nat.le_trans (Nat.mul_le_mul_right 1100000 (show _ ≤ 1048576 by omega)) (by decide))
        have hmz : m ≤ 1048576 := by
          have h2 := oks_len (l.take k)
          rw [List.length_take, HL.out, HM.out] at h2
          omega
        have HSC : Hid (Go.Lib.strCells (mkB (wrL r)) = cellsOf (wrL r)) := by rw [Hid, Go.Lib.strCells, mkB_list]; rfl
        obtain ⟨sb, hsb⟩ : ∃ sb, mkB (wrL r) = sb := ⟨_, rfl⟩
        rw [hsb] at HC HSZ HSC
        have hsbz : sb.size ≤ 1100000 := by rw [HSZ.out]; exact hq1
        clear hsb hq1
        go_upto_region 9 with (go_at_call 12; refine (HC.out _ HB2.out).mono ?_; rintro e1 w3 ⟨rfl, b3⟩; have HB3 : Hid (Below w.heap.size w w3) := HB2.out.trans (b3.mono HB2.out.size); have HX3 : Hid (RpB w3 wr.heap.size r) := HX2.out.below b3; have HOB3 : Hid (w3.ownsRow w.heap.size 5 1 (.slice ba p bc) p (cellsOf (wrs (oks (l.take k))))) := owns_on2 HOB2.out b3; have HOW3 : Hid (w3.ownsRow w.heap.size 23 4 (.slice va m vc) m (flR (oks (l.take k)))) := owns_on2 HOW2.out b3; clear b3)
        clear c0 c1 c2 c3
        have hsz3 := HB3.out.size
        go_wp2_with (at_builtin; go_loud (refine Go.Lib.wpList_append_own_string _ rfl (.tmp 33) (.tmp 34) 35 9 rfl w.heap.size 5 i5 Tryd.underlying35 Tryd.underlying9 hi5 hz3 hz4 hz5 _ _ _ rfl HOB3.out sb rfl (by unfold maxLen; omega) (by omega) (by omega) ?_))
        intro v1 w4 hown1 hgrow _
        obtain ⟨y1, cap1, rfl⟩ := row_form hown1
        have HP4 : Hid ((wrs (oks (l.take (k + 1)))).length = p + sb.size) := by rw [Hid, HST.out, wrs_app, List.length_append, HP.out, HSZ.out]
        have HM4 : Hid ((oks (l.take (k + 1))).length = m + 1) := by rw [Hid, HST.out, List.length_append, HM.out]; rfl
        have HOB4 : Hid (w4.ownsRow w.heap.size 5 1 (.slice y1 (p + sb.size) cap1) (p + sb.size) (cellsOf (wrs (oks (l.take (k + 1)))))) := by rw [Hid, HST.out, wrs_app, cellsOf_append, ← HSC.out]; exact hown1
        have HOW4 : Hid (w4.ownsRow w.heap.size 23 4 (.slice va m vc) m (flR (oks (l.take k)))) := own_kept HOW3.out HOB3.out (by decide) hgrow
        have HX4 : Hid (RpB w4 wr.heap.size r) := blk_kept HOB3.out hgrow HX3.out (by decide)
        have HB4 : Hid (Below w.heap.size w w4) := HB3.out.grown hgrow hsz3 (fun i hi => (World.ownsRow.lt HOB3.out i hi).1)
        obtain ⟨p2, hp2⟩ : ∃ p2, p + sb.size = p2 := ⟨_, rfl⟩
        rw [hp2] at HP4 HOB4 ⊢
        clear hown1 hgrow hp2 HOB3 HOW3 HX3 HOB2 HOW2 HX2
        obtain ⟨c0, c1, c2, c3⟩ := HX4.out.cells
        have hra : Hid (∀ o, (w4.alloc o).ownsRow w.heap.size 23 4 (.slice va m vc) m (flR (oks (l.take k)))) := fun o => World.ownsRow.alloc HOW4.out o
        have hsz4 := HB4.out.size
        go_wp2_with (at_builtin; go_loud (refine wpList_append_own _ rfl (.tmp 36) (.tmp 38) 34 rfl w.heap.size 23 i0 (.agg #[.int .i64 0, .string ByteArray.empty, .string ByteArray.empty, .bool false]) 4 48 Tryd.underlying34 hi hz0 hz1 hz2 rfl (by decide) _ _ _ rfl (hra.out _) ⟨_, 0, none⟩ 1 1 (rpL r) rfl rfl (new_cells _ (rpL r) _) (rpL_one r) (by unfold maxLen; omega) (by omega) (by simp; omega) ?_))
        intro v2 w5 hown2 hgrow2 _
        obtain ⟨y2, cap2, rfl⟩ := row_form hown2
        have HOW5 : Hid (w5.ownsRow w.heap.size 23 4 (.slice y2 (m + 1) cap2) (m + 1) (flR (oks (l.take (k + 1))))) := by
          rw [Hid, HST.out, flR_app, show flR [r] = rpL r by simp [flR]]; exact hown2
        have HOB5 : Hid (w5.ownsRow w.heap.size 5 1 (.slice y1 p2 cap1) p2 (cellsOf (wrs (oks (l.take (k + 1)))))) := own_kept (World.ownsRow.alloc HOB4.out _) (hra.out _) (by decide) hgrow2
        have HB5 : Hid (Below w.heap.size w w5) := (HB4.out.alloc hsz4 _).grown hgrow2 (by simp; omega) (fun i hi => (World.ownsRow.lt HOW4.out i hi).1)
        clear hown2 hgrow2
        go_wp2_with fail
        go_roundw
        case rel => exact ⟨k + 1, p2, m + 1, by omega, by go_num, HOB5.out, HP4.out, HOW5.out, HM4.out, HB5.out⟩
        case measure => simp [intOf]; omega
    · have hkn : k = n := by omega
      have hlz : ¬ (k : Int) < (n : Int) := by omega
      have htk : l.take k = l := List.take_of_length_le (by rw [HL.out, hkn]; exact Nat.le_refl _)
      rw [htk] at HP HM HOB HOW
      have HOK : Hid (∀ r ∈ oks l, okR r = true) := oks_ok l
      have hol := oks_len l
      have hwl := wrs_len (oks l) HOK.out
      rw [HL.out] at hol
      rw [HM.out] at hol hwl
      rw [HP.out] at hwl
      have hpz : p ≤ 1153433600000 := Nat.le_trans hwl (Nat.le_trans (Nat.mul_le_mul_right 1100000 (show m ≤ 1048576 by omega)) (by decide))
      have hmz : m ≤ 1048576 := by omega
      obtain ⟨K, hK⟩ : ∃ K, oks l = K := ⟨_, rfl⟩
      rw [hK] at HP HM HOB HOW HOK
      obtain ⟨bs, hbs⟩ : ∃ bs, wrs K = bs := ⟨_, rfl⟩
      rw [hbs] at HP HOB
      have HCV : Hid (∀ W : World, W.ownsRow w.heap.size 5 1 (.slice ba p bc) p (cellsOf bs) → (convert 35 9 (.slice ba p bc)).run Tryd.prog W = .ok (.string (mkB bs)) W) := by
        rw [Hid]
        intro W q
        have hp := HP.out
        subst hp
        exact conv_row q
      obtain ⟨mb, hmb⟩ : ∃ mb, mkB bs = mb := ⟨_, rfl⟩
      have hmbs : mb.size = p := by rw [← hmb, mkB_size, HP.out]
      have hmb2 : mb.size ≤ 1153433600000 := by rw [hmbs]; exact hpz
      have hSz : (mb ++ bh).size ≤ 2000000000000 := by rw [ByteArray.size_append]; omega
      have HAL : Hid (∀ W, Below w.heap.size w W → _) := fun W q => all_any (mb ++ bh) hSz W (HTB.out W q)
      have HQA : Hid (∀ W : World, _) := fun W => qall_any (mb ++ bh) hSz W
      have HPR : Hid (∃ X, (allF (mb ++ bh).size (mb ++ bh).data.toList).1 = K ++ X) := by
        have e : (mb ++ bh).data.toList = wrs K ++ bh.data.toList := by rw [← hmb, ByteArray.data_append, Array.toList_append, mkB_list, hbs]
        have h := allF_wrs K HOK.out bh.data.toList (mb ++ bh).size (by rw [← e, size_list]; exact Nat.le_refl _)
        rw [← e] at h
        exact h
      have HGL : Hid ((allF (mb ++ bh).size (mb ++ bh).data.toList).1.length ≤ 2000000000000) := by
        have h := (allF_len (mb ++ bh).size (mb ++ bh).data.toList).1
        rw [size_list] at h
        exact Nat.le_trans h hSz
      rw [hmb] at HCV
      obtain ⟨⟨G, at1, er⟩, hT⟩ : ∃ T, allF (mb ++ bh).size (mb ++ bh).data.toList = T := ⟨_, rfl⟩
      rw [hT] at HAL HQA HPR HGL
      dsimp only at HAL HQA HPR HGL
      obtain ⟨g, hg⟩ : ∃ g, G.length = g := ⟨_, rfl⟩
      have HG : Hid (G.length = g) := hg
      rw [hg] at HAL HQA HGL
      have hgz : g ≤ 2000000000000 := HGL.out
      obtain ⟨X, hX⟩ := HPR.out
      have hmg : m ≤ g := by rw [← HG.out, hX, List.length_append, HM.out]; omega
      have HKG : Hid (∀ (j : Nat) (r : Rp), G[j]? = some r → j < m → K[j]? = some r) := by
        rw [Hid]
        intro j r h1 h2
        rw [hX, List.getElem?_append_left (by rw [HM.out]; exact h2)] at h1
        exact h1
      clear hT hg hX hmb hbs hK HPR HGL htk hol hwl hmbs hSz
      have hcv := HCV.out wr HOB.out
      have z1 : ((g : Int) != (g : Int)) = false := by simp
      have z2 : ((at1 : Int) != (at1 : Int)) = false := by simp
      have z3 : (er != er) = false := by simp
      have z4 : ¬ (g : Int) < (m : Int) := by omega
      go_upto_region 14 with (go_at_call 16; refine (HAL.out _ HB.out).mono ?_; rintro e1 w6 ⟨ga, gc, rfl, hog, b6⟩; have HOG6 : Hid (w6.ownsRow wr.heap.size 23 4 (.slice ga g gc) g (flR G)) := hog; have HB6 : Hid (Below w.heap.size w w6) := HB.out.trans (b6.mono HB.out.size); have HOB6 : Hid (w6.ownsRow w.heap.size 5 1 (.slice ba p bc) p (cellsOf bs)) := owns_on2 HOB.out b6; have HOW6 : Hid (w6.ownsRow w.heap.size 23 4 (.slice va m vc) m (flR K)) := owns_on2 HOW.out b6; clear b6 hog)
      clear hcv
      have hcv := HCV.out w6 HOB6.out
      go_upto_region 15 with (go_at_call 17; refine (HQA.out _).mono ?_; rintro e1 w7 ⟨xa, xc, rfl, hox, b7⟩; have HOX7 : Hid (w7.ownsRow w6.heap.size 23 4 (.slice xa g xc) g (flR G)) := hox; have HB7 : Hid (Below w.heap.size w w7) := HB6.out.trans (b7.mono HB6.out.size); have HOG7 : Hid (w7.ownsRow wr.heap.size 23 4 (.slice ga g gc) g (flR G)) := owns_on2 HOG6.out b7; have HOW7 : Hid (w7.ownsRow w.heap.size 23 4 (.slice va m vc) m (flR K)) := owns_on2 HOW6.out b7; clear b7 hox)
      clear hcv HOB6 HOW6 HOG6 HOB HOW
      have HA1 : Hid (RA w7.heap.size w7 ga G) := by have h := HG.out; subst h; exact ra_row HOG7.out
      have HA2 : Hid (RA w7.heap.size w7 xa G) := by have h := HG.out; subst h; exact ra_row HOX7.out
      have HA3 : Hid (RA w7.heap.size w7 va K) := by have h := HM.out; subst h; exact ra_row HOW7.out
      go_upto_region 18 with fail
      go_loopw [83] (fun i wi => ∃ j q : Nat, j ≤ g ∧ i = .int .i64 (j : Nat) ∧ wi = w7.drewN q) (fun i _ => g - (intOf i).toNat)
      case atStart => exact ⟨0, 0, by omega, rfl, rfl⟩
      case round =>
        obtain ⟨j, q, hj, rfl, rfl⟩ := hrel
        by_cases hjg : j < g
        · have hjz : (j : Int) < (g : Int) := by omega
          obtain ⟨r, hr⟩ : ∃ r, G[j]? = some r := ⟨_, List.getElem?_eq_getElem (by rw [HG.out]; exact hjg)⟩
          obtain ⟨g1, o1, e1, _, s0, s1, s2, s3⟩ := (HA1.out.drewN q) j r hr
          obtain ⟨g2, o2, e2, _, t0, t1, t2, t3⟩ := (HA2.out.drewN q) j r hr
          subst e1 e2
          have v1 : ((mkB r.body).toList == (mkB r.body).toList) = true := by simp
          have v2 : ((mkB r.cookie).toList == (mkB r.cookie).toList) = true := by simp
          have v3 : (r.status == r.status) = true := by simp
          have v4 : (r.close == r.close) = true := by simp
          by_cases hjm : j < m
          · have hjmz : (j : Int) < (m : Int) := by omega
            obtain ⟨g3, o3, e3, _, u0, u1, u2, u3⟩ := (HA3.out.drewN q) j r (HKG.out j r hr hjm)
            subst e3
            obtain ⟨W, hW⟩ : ∃ W, w7.drewN q = W := ⟨_, rfl⟩
            have HW : Hid _ := hW
            rw [hW] at s0 s1 s2 s3 t0 t1 t2 t3 u0 u1 u2 u3 ⊢
            clear hW hr
            go_upto_region 20 with fail
            go_quiet (fail)
            go_wp2_with fail
            go_roundw
            case rel => exact ⟨j + 1, q + nq, by omega, by go_num, by rw [← HW.out]; first | rfl | (simp [World.drewN, Nat.add_assoc])⟩
            case measure => simp [intOf]; omega
          · have hjmz : ¬ (j : Int) < (m : Int) := by omega
            obtain ⟨W, hW⟩ : ∃ W, w7.drewN q = W := ⟨_, rfl⟩
            have HW : Hid _ := hW
            rw [hW] at s0 s1 s2 s3 t0 t1 t2 t3 ⊢
            clear hW hr
            go_upto_region 20 with fail
            go_quiet (fail)
            go_wp2_with fail
            go_roundw
            case rel => exact ⟨j + 1, q + nq, by omega, by go_num, by rw [← HW.out]; first | rfl | (simp [World.drewN, Nat.add_assoc])⟩
            case measure => simp [intOf]; omega
        · have hjz : ¬ (j : Int) < (g : Int) := by omega
          have HB9 : Hid (Below w.heap.size w (w7.drewN q)) := below_drewN2 HB7.out q
          go_wp2_with fail
          go_ret
          exact ⟨rfl, HB9.out⟩
end Go.Proofs.YtdkbgbhcnbmlfaaDoor
