/-
  The contract of laid: the records that a writer took, their ends, and all bytes.
-/
import Derived.Test.YtefigcnfcbdecaaCutMath
import Derived.Test.YtefigcnfcbdecaaCopies
namespace Go.Proofs.Ytefigcnfcbdecaa
open Go.RowKit
theorem info3 : (Try.prog.info? 3).map (fun i => (i.zero, i.size, i.bytes)) = some (some (.int .i64 0), 1, 8) := by kernel_rfl
def endV (r : Rec) : Value := .int .i64 (r.2 : Nat)
def strV (r : List UInt8) : Value := .string ⟨r.toArray⟩
theorem log_snoc : ∀ (rs : List (List UInt8)) (t : Nat) (r : List UInt8), logOf (rs ++ [r]) t = logOf rs t ++ layL (t + (logOf rs t).length) r
  | [], t, r => by simp [logOf]
  | x :: rs, t, r => by
    rw [List.cons_append, logOf, logOf, log_snoc rs, List.append_assoc, List.length_append, Nat.add_assoc]
theorem recs_snoc : ∀ (rs : List (List UInt8)) (t : Nat) (r : List UInt8), recsOf (rs ++ [r]) t = recsOf rs t ++ [(r, t + (logOf (rs ++ [r]) t).length)]
  | [], t, r => by simp [logOf, recsOf]
  | x :: rs, t, r => by
    rw [List.cons_append, recsOf, recsOf, recs_snoc rs, List.cons_append, logOf, List.length_append, Nat.add_assoc]
theorem recs_count : ∀ (rs : List (List UInt8)) (t : Nat), (recsOf rs t).length = rs.length
  | [], _ => rfl
  | x :: rs, t => by rw [recsOf, List.length_cons, recs_count rs, List.length_cons]
theorem log_seven : ∀ (rs : List (List UInt8)) (t : Nat), 7 * rs.length ≤ (logOf rs t).length
  | [], _ => Nat.le_refl _
  | x :: rs, t => by
    have h7 : 7 ≤ (layL t x).length := by rw [layL_len, spanN]; split <;> omega
    have := log_seven rs (t + (layL t x).length)
    rw [logOf, List.length_append, List.length_cons]
    omega
theorem own_keep {W w2 : World} {B n n' : Nat} {e e' : TypeId} {v v' : Value} {xs xs' : List Value} (h : W.ownsRow B e 1 v n xs) (h' : W.ownsRow B e' 1 v' n' xs') (hne : e ≠ e') (hg : W.grownBy w2 v'.ownBlock) : w2.ownsRow B e 1 v n xs := by
  refine owns_same h (fun g hv => hg.block g (h.lt g hv).2 (fun eq => ?_))
  rcases h.2 with ⟨rfl, _⟩ | ⟨g1, cap, cur, rfl, _, hh, _⟩
  · cases hv
  · simp only [Value.ownBlock, Option.some.injEq] at hv
    subst hv
    rcases h'.2 with ⟨rfl, _⟩ | ⟨g2, cap2, cur2, rfl, _, hh2, _⟩
    · cases eq
    · simp only [Value.ownBlock, Option.some.injEq] at eq
      subst eq
      rw [hh] at hh2
      simp at hh2
      exact hne hh2.2
theorem cell_keep {W w2 : World} {B n x : Nat} {c : Array Value} {f : Nat × Nat} {e' : TypeId} {v' : Value} {xs' : List Value} (h : W.heap[x]? = some (.cells c 59 f)) (h' : W.ownsRow B e' 1 v' n xs') (hne : e' ≠ 59) (hg : W.grownBy w2 v'.ownBlock) : w2.heap[x]? = some (.cells c 59 f) := by
  refine (hg.block x (Array.getElem?_eq_some_iff.1 h).1 (fun eq => ?_)).trans h
  rcases h'.2 with ⟨rfl, _⟩ | ⟨g2, cap2, cur2, rfl, _, hh2, _⟩
  · cases eq
  · simp only [Value.ownBlock, Option.some.injEq] at eq
    subst eq
    rw [h] at hh2
    simp at hh2
    exact hne hh2.2.1.symm
/-- What the loop of laid holds. -/
structure LI (w W : World) (x : Nat) (v8 v9 v10 : Value) (rs : List (List UInt8)) : Prop where
  hx : W.heap[x]? = some (.cells #[.int .i64 ((logOf rs 0).length : Nat)] 59 (0, 0))
  b : W.ownsRow w.heap.size 5 1 v8 (logOf rs 0).length (bl (logOf rs 0))
  e : W.ownsRow w.heap.size 3 1 v9 rs.length ((recsOf rs 0).map endV)
  t : W.ownsRow w.heap.size 9 1 v10 rs.length (rs.map strV)
  bel : Below w.heap.size w W
  le : (logOf rs 0).length ≤ 1048576
theorem LI.start {w W : World} {x : Nat} (hx : W.heap[x]? = some (.cells #[.int .i64 0] 59 (0, 0))) (hb : Below w.heap.size w W) : LI w W x (.slice none 0 0) (.slice none 0 0) (.slice none 0 0) [] :=
  ⟨hx, World.ownsRow_nil _ _ _ _, World.ownsRow_nil _ _ _ _, World.ownsRow_nil _ _ _ _, hb, by decide⟩
theorem results_tmp4 {fn : Func} {t u v x : Tmp} (h : fn.results = #[.tmp t, .tmp u, .tmp v, .tmp x]) (tmps : Array Value) (P : Program) (w : World) :
    (results fn tmps).run P w = .ok (.tuple #[tmps.getD t undef, tmps.getD u undef, tmps.getD v undef, tmps.getD x undef]) w := by
  simp [results, h, go_sem]
theorem form3 {w : World} {base : Nat} {v : Value} {n : Nat} {xs : List Value} (h : w.ownsRow base 3 1 v n xs) : ∃ a cap, v = .slice a n cap := by
  rcases h.2 with ⟨rfl, hn⟩ | ⟨g, cap, cur, rfl, _⟩
  · exact ⟨none, 0, by rw [hn]⟩
  · exact ⟨_, _, rfl⟩
theorem bl_app (a b : List UInt8) : bl (a ++ b) = bl a ++ bl b := by simp [bl]
theorem own_kept {W w2 : World} {B n x : Nat} {c : Array Value} {f : Nat × Nat} {e : TypeId} {v : Value} {xs : List Value} (h : W.heap[x]? = some (.cells c 59 f)) (h' : W.ownsRow B e 1 v n xs) (hne : e ≠ 59) (hk : Kept x W w2) : w2.ownsRow B e 1 v n xs := by
  refine owns_same h' (fun g hv => hk.block g (h'.lt g hv).2 (fun eq => ?_))
  subst eq
  rcases h'.2 with ⟨rfl, _⟩ | ⟨g2, cap2, cur2, rfl, _, hh2, _⟩
  · cases hv
  · simp only [Value.ownBlock, Option.some.injEq] at hv
    subst hv
    rw [h] at hh2
    simp at hh2
    exact hne hh2.2.1.symm
theorem LI.next {w W : World} {x L q N R : Nat} {v8 v9 v10 : Value} {rs : List (List UInt8)} {rec : ByteArray} {X : List UInt8} (hLL : (logOf rs 0).length = L) (hX : layL L rec.data.toList = X) (hq : X.length = q) (hN : L + q = N) (hR : rs.length = R) (hle : N ≤ 1048576)
    (hx : W.heap[x]? = some (.cells #[.int .i64 (N : Nat)] 59 (0, 0))) (hb : W.ownsRow w.heap.size 5 1 v8 N (bl (logOf rs 0) ++ bl X)) (he : W.ownsRow w.heap.size 3 1 v9 (R + 1) ((recsOf rs 0).map endV ++ [.int .i64 (N : Nat)]))
    (ht : W.ownsRow w.heap.size 9 1 v10 (R + 1) (rs.map strV ++ [.string rec])) (hB : Below w.heap.size w W) : LI w W x v8 v9 v10 (rs ++ [rec.data.toList]) := by
  have hlog : logOf (rs ++ [rec.data.toList]) 0 = logOf rs 0 ++ X := by rw [log_snoc, Nat.zero_add, hLL, hX]
  have hlen : (logOf (rs ++ [rec.data.toList]) 0).length = N := by rw [hlog, List.length_append, hLL, hq, hN]
  refine ⟨by rw [hlen]; exact hx, by rw [hlen, hlog, bl_app]; exact hb, ?_, ?_, hB, by omega⟩
  · rw [recs_snoc, hlen, Nat.zero_add, List.map_append, List.length_append, hR]
    exact he
  · rw [List.map_append, List.length_append, hR]
    exact ht
set_option maxRecDepth 100000 in
set_option maxHeartbeats 8000000 in
theorem laid_any (a : Option Addr) (ca : Nat) (ks : List ByteArray) (w : World) (hk : StrsAt w a ks) (hks : ∀ s ∈ ks, s.size ≤ 140737488355328) (hl : ks.length ≤ 140737488355328) :
    Calls Try.prog 21 #[.slice a ks.length ca] w fun r w' => ∃ v8 v9 v10 x rs, r = .returned (.tuple #[v8, v9, v10, .bool true]) ∧ LI w w' x v8 v9 v10 rs := by
  obtain ⟨i5, hi5, z50, z51, z52⟩ := info_parts info5
  obtain ⟨i3, hi3, z30, z31, z32⟩ := info_parts info3
  obtain ⟨i9, hi9, z90, z91, z92⟩ := info_parts info9
  obtain ⟨m, hm⟩ : ∃ m, ks.length = m := ⟨_, rfl⟩
  have HM : Hid _ := hm
  have HK : Hid _ := hk
  have HKS : Hid _ := hks
  have HN1 : Hid (∀ W : World, Calls Try.prog 11 #[.int .i64 0] W fun r w' => r = .returned (.tuple #[.pointer (some ⟨W.heap.size, 0, none⟩), .int .i64 0]) ∧ w' = W.alloc (.cells #[.int .i64 0] 59)) := fun W => newWriter_ok 0 W (by omega)
  rw [hm] at hl ⊢
  clear hk hks hm
  go_enter Try.func21, Try.ntmps21
  go_wp2_with fail
  refine (HN1.out _).mono ?_
  rintro e w1 ⟨rfl, hw1⟩
  have L1 : LI w w1 w.heap.size (.slice none 0 0) (.slice none 0 0) (.slice none 0 0) [] := LI.start (by rw [hw1]; exact World.alloc_heap_new _ _) (by rw [hw1]; exact (Below.refl _ _).alloc (Nat.le_refl _) _)
  obtain ⟨x, hx⟩ : ∃ x, w.heap.size = x := ⟨_, rfl⟩
  have HXW : Hid _ := hx
  rw [hx] at L1
  have L1' : LI w w1 x (.slice none 0 0) (.slice none 0 0) (.slice none 0 0) [] := L1
  rw [hx]
  clear hw1 HN1 L1 hx
  go_wp2_with fail
  go_loopw [8, 9, 10, 11] (fun v8 v9 v10 i wr => ∃ (j : Nat) (rs : List (List UInt8)), j ≤ m ∧ i = .int .i64 (j : Nat) ∧ LI w wr x v8 v9 v10 rs) (fun _ _ _ i _ => m - (intOf i).toNat)
  case atStart => exact ⟨0, [], by omega, rfl, L1'⟩
  case round =>
    obtain ⟨j, rs, hj, rfl, hL⟩ := hrel
    clear L1'
    by_cases hlt : j < m
    · obtain ⟨rec, hrec⟩ : ∃ rec, ks[j]? = some rec := ⟨ks[j]'(by rw [HM.out]; exact hlt), List.getElem?_eq_getElem _⟩
      obtain ⟨b, off, rfl, hb, hc⟩ := HK.out j rec hrec
      have hrs := HKS.out rec (List.mem_of_getElem? hrec)
      have hcw := (hL.bel.cell (p := ⟨b, off + j, none⟩) hb).trans hc
      have HHL : Hid _ := hL
      obtain ⟨L, hLL⟩ : ∃ L, (logOf rs 0).length = L := ⟨_, rfl⟩
      have HLLH : Hid _ := hLL
      have hLe : L ≤ 1048576 := by rw [← hLL]; exact hL.le
      obtain ⟨a8, c8, rfl⟩ := form_of_row hL.b
      obtain ⟨n, hn⟩ : ∃ n, rec.size = n := ⟨_, rfl⟩
      rw [hLL]
      cases hok : layOk L rec with
      | false =>
        have HB : Hid (∀ W : World, W.heap[x]? = some (.cells #[.int .i64 (L : Nat)] 59 (0, 0)) → Calls Try.prog 13 #[.pointer (some ⟨x, 0, none⟩), .string rec] W fun r w' => r = .returned (.tuple #[.slice none 0 0, .int .i64 3]) ∧ w' = W) := fun W h => layM_bad x L rec W h hLe hrs hok
        have hxx := hL.hx
        rw [hLL] at hxx
        have HC := HB.out wr hxx
        have hbig : 262144 < n ∨ 524288 < L := by
          simp only [layOk, Bool.and_eq_false_iff, decide_eq_false_iff_not] at hok
          rw [hn] at hok
          by_cases h : 262144 < n
          · exact Or.inl h
          · right
            rcases hok with h1 | h1
            · omega
            · unfold spanN skipN roomN leftN at h1
              split at h1 <;> split at h1 <;> omega
        clear hL hrec hc hLL hok HB hxx
        have HCH : Hid _ := HC
        clear HC
        have HBG : Hid _ := hbig
        clear hbig
        by_cases hb1 : 262144 < n
        · have d1 : decide (262144 < (n : Int)) = true := decide_eq_true (by omega)
          go_wp2_with fail
          refine Calls.mono HCH.out ?_
          rintro e w2 ⟨rfl, hw2⟩
          subst hw2
          go_wp2_with fail
          go_roundw
          case rel => exact ⟨j + 1, rs, by omega, by go_num, by have := HHL.out; rw [HLLH.out] at this; exact this⟩
          case measure => simp [intOf]; omega
        · have d1 : decide (262144 < (n : Int)) = false := decide_eq_false (by omega)
          have d2 : decide (524288 < (L : Int)) = true := decide_eq_true (by have := HBG.out; omega)
          go_wp2_with fail
          refine Calls.mono HCH.out ?_
          rintro e w2 ⟨rfl, hw2⟩
          subst hw2
          go_wp2_with fail
          go_roundw
          case rel => exact ⟨j + 1, rs, by omega, by go_num, by have := HHL.out; rw [HLLH.out] at this; exact this⟩
          case measure => simp [intOf]; omega
      | true =>
        obtain ⟨X, hX⟩ : ∃ X, layL L rec.data.toList = X := ⟨_, rfl⟩
        have HXX : Hid _ := hX
        obtain ⟨q, hq⟩ : ∃ q, X.length = q := ⟨_, rfl⟩
        have HQ : Hid _ := hq
        have hxx := hL.hx
        rw [hLL] at hxx
        have HC : Hid (Calls Try.prog 13 #[.pointer (some ⟨x, 0, none⟩), .string rec] wr fun r w' => ∃ v, r = .returned (.tuple #[v, .int .i64 0]) ∧ w'.ownsRow wr.heap.size 5 1 v q (bl X) ∧ w'.heap[x]? = some (.cells #[.int .i64 ((L + q : Nat) : Int)] 59 (0, 0)) ∧ Kept x wr w') := by
          have := layM_ok x L rec wr hxx hLe hok
          rw [hX, hq] at this
          exact this
        have hq7 : 7 ≤ q := by rw [← hq, ← hX, layL_len, spanN]; split <;> omega
        have hql : L + q ≤ 1048576 := by
          simp only [layOk, Bool.and_eq_true, decide_eq_true_eq] at hok
          have e1 : q = spanN L rec.size := by rw [← hq, ← hX, layL_len]; rfl
          omega
        have hcnt := log_seven rs 0
        rw [hLL] at hcnt
        obtain ⟨a9, c9, rfl⟩ := form3 hL.e
        obtain ⟨a10, c10, rfl⟩ := form9 hL.t
        have hwx := hL.bel.size
        obtain ⟨N, hN⟩ : ∃ N, L + q = N := ⟨_, rfl⟩
        have HNN : Hid _ := hN
        obtain ⟨R, hR⟩ : ∃ R, rs.length = R := ⟨_, rfl⟩
        have HRR : Hid _ := hR
        rw [hN] at HC hql
        rw [hR] at hcnt ⊢
        have HHC : Hid _ := hc
        have HLW : Hid _ := HHL.out
        rw [hR, hLL] at HLW
        have hRl : R ≤ 1048576 := by omega
        clear hL hrec hc hLL hok hxx hX hq hN hR hcnt
        go_wp2_with fail
        refine Calls.mono HC.out ?_
        rintro e w2 ⟨v, rfl, o2, x2, k2⟩
        obtain ⟨g2, cg2, rfl⟩ := form_pos o2 (by omega)
        have hbx : b ≠ x := by have := HXW.out; omega
        have rb2 : Hid (w2.ownsRow w.heap.size 5 1 (.slice a8 L c8) L (bl (logOf rs 0))) := by
          have := own_kept HHL.out.hx HHL.out.b (by decide) k2
          rw [HLLH.out] at this
          exact this
        have re2 : Hid (w2.ownsRow w.heap.size 3 1 (.slice a9 R c9) R ((recsOf rs 0).map endV)) := by
          have := own_kept HHL.out.hx HHL.out.e (by decide) k2
          rw [HRR.out] at this
          exact this
        have rt2 : Hid (w2.ownsRow w.heap.size 9 1 (.slice a10 R c10) R (rs.map strV)) := by
          have := own_kept HHL.out.hx HHL.out.t (by decide) k2
          rw [HRR.out] at this
          exact this
        have B2 : Hid (Below w.heap.size w w2) := HHL.out.bel.trans (k2.below (by have := HXW.out; omega) hwx)
        have y2 : Hid (BytesAt w2 (some ⟨g2, 0, none⟩) X) := bytes_of_owns o2 HQ.out
        have X2 : Hid _ := x2
        have HSZ2 : Hid (w.heap.size ≤ w2.heap.size) := B2.out.size
        clear o2 x2 k2 HC
        go_wp2_with (at_builtin; refine wpList_append_own _ rfl (.tmp 56) (.tmp 57) 33 rfl w.heap.size 5 i5 (.int .u8 0) 1 1 Try.underlying33 hi5 z50 z51 z52 rfl (by decide) _ _ _ rfl rb2.out ⟨g2, 0, none⟩ q cg2 (bl X) rfl (by rw [bl_len, HQ.out, Nat.mul_one]) (cells_of_bytes y2.out) (bl_one _) (by unfold maxLen; have := HNN.out; omega) (by have := HNN.out; omega) HSZ2.out ?_)
        intro v3 w3 hown3 hg3 _
        rw [HNN.out] at hown3
        obtain ⟨a3, c3, rfl⟩ := form_of_row hown3
        have re3 : Hid (w3.ownsRow w.heap.size 3 1 (.slice a9 R c9) R ((recsOf rs 0).map endV)) := own_keep re2.out rb2.out (by decide) hg3
        have rt3 : Hid (w3.ownsRow w.heap.size 9 1 (.slice a10 R c10) R (rs.map strV)) := own_keep rt2.out rb2.out (by decide) hg3
        have X3 : Hid _ := cell_keep X2.out rb2.out (by decide) hg3
        have B3 : Hid (Below w.heap.size w w3) := B2.out.grown hg3 HSZ2.out (fun i hi => (rb2.out.lt i hi).1)
        have rb3 : Hid _ := hown3
        have hs3 : w.heap.size ≤ w3.heap.size := B3.out.size
        have re3a : Hid (∀ o, (w3.alloc o).ownsRow w.heap.size 3 1 (.slice a9 R c9) R ((recsOf rs 0).map endV)) := fun o => World.ownsRow.alloc re3.out o
        clear hown3 hg3 rb2 re2 rt2 X2 B2 y2
        go_wp2_with (at_builtin; refine wpList_append_own _ rfl (.tmp 59) (.tmp 62) 43 rfl w.heap.size 3 i3 (.int .i64 0) 1 8 Try.underlying43 hi3 z30 z31 z32 rfl (by decide) _ _ _ rfl (re3a.out _) ⟨w3.heap.size, 0, none⟩ 1 1 [.int .i64 (N : Nat)] rfl rfl (cell_one_new _ _ _) (by simp [Value.oneCell']) (by unfold maxLen; omega) (by omega) (by simp; omega) ?_)
        intro v4 w4 hown4 hg4 _
        obtain ⟨a4, c4, rfl⟩ := form3 hown4
        have rb4 : Hid (w4.ownsRow w.heap.size 5 1 (.slice a3 N c3) N (bl (logOf rs 0) ++ bl X)) := own_keep (World.ownsRow.alloc rb3.out _) (re3a.out _) (by decide) hg4
        have rt4 : Hid (w4.ownsRow w.heap.size 9 1 (.slice a10 R c10) R (rs.map strV)) := own_keep (World.ownsRow.alloc rt3.out _) (re3a.out _) (by decide) hg4
        have X4 : Hid _ := cell_keep ((Below.heap_alloc _ _ _ (Array.getElem?_eq_some_iff.1 X3.out).1).trans X3.out) (re3a.out _) (by decide) hg4
        have B4 : Hid (Below w.heap.size w w4) := (B3.out.alloc hs3 _).grown hg4 (by simp; omega) (fun i hi => (World.ownsRow.lt re3.out i hi).1)
        have re4 : Hid _ := hown4
        have hs4 : w.heap.size ≤ w4.heap.size := B4.out.size
        have rt4a : Hid (∀ o, (w4.alloc o).ownsRow w.heap.size 9 1 (.slice a10 R c10) R (rs.map strV)) := fun o => World.ownsRow.alloc rt4.out o
        have hc4 : w4.cell? ⟨b, off + j, none⟩ = some (.string rec) := (B4.out.cell (p := ⟨b, off + j, none⟩) hb).trans HHC.out
        clear hown4 hg4 rb3 re3 rt3 X3 B3 re3a
        go_wp2_with (at_builtin; refine wpList_append_own _ rfl (.tmp 64) (.tmp 69) 22 rfl w.heap.size 9 i9 (.string ByteArray.empty) 1 16 Try.underlying22 hi9 z90 z91 z92 rfl (by decide) _ _ _ rfl (rt4a.out _) ⟨w4.heap.size, 0, none⟩ 1 1 [.string rec] rfl rfl (cell_one_new _ _ _) (by simp [Value.oneCell']) (by unfold maxLen; omega) (by omega) (by simp; omega) ?_)
        intro v5 w5 hown5 hg5 _
        obtain ⟨a5, c5, rfl⟩ := form9 hown5
        have rb5 : Hid (w5.ownsRow w.heap.size 5 1 (.slice a3 N c3) N (bl (logOf rs 0) ++ bl X)) := own_keep (World.ownsRow.alloc rb4.out _) (rt4a.out _) (by decide) hg5
        have re5 : Hid _ := own_keep (World.ownsRow.alloc re4.out _) (rt4a.out _) (by decide) hg5
        have X5 : Hid _ := cell_keep ((Below.heap_alloc _ _ _ (Array.getElem?_eq_some_iff.1 X4.out).1).trans X4.out) (rt4a.out _) (by decide) hg5
        have B5 : Hid (Below w.heap.size w w5) := (B4.out.alloc hs4 _).grown hg5 (by simp; omega) (fun i hi => (World.ownsRow.lt rt4.out i hi).1)
        have L5 : Hid _ := LI.next HLLH.out HXX.out HQ.out HNN.out HRR.out hql X5.out rb5.out re5.out hown5 B5.out
        clear hown5 hg5 rb4 re4 rt4 X4 B4 rt4a hc4 rb5 re5 X5 B5
        go_wp2_with fail
        go_roundw
        case rel => exact ⟨j + 1, rs ++ [rec.data.toList], by omega, by go_num, L5.out⟩
        case measure => simp [intOf]; omega
    · obtain rfl : j = m := by omega
      obtain ⟨a8, c8, rfl⟩ := form_of_row hL.b
      have HHL : Hid _ := hL
      clear hL
      go_wp2_with fail
      (try simp only [Exit.inBlock, Exit.then])
      refine bodyPost_ret (results_tmp4 rfl _ _ _) rfl ?_
      exact ⟨_, _, _, x, rs, rfl, HHL.out⟩
end Go.Proofs.Ytefigcnfcbdecaa
