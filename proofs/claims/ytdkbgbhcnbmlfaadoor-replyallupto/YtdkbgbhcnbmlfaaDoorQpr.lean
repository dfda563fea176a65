/-
  The contract of the twin's Parse.
-/
import Derived.Test.YtdkbgbhcnbmlfaaDoorQrh
namespace Go.Proofs.YtdkbgbhcnbmlfaaDoor
open Go.RowKit
def frm8 (z : Int) : List Frm := [(z, false, false, false), (z, true, false, false), (z, false, true, false), (z, true, true, false), (z, false, false, true), (z, true, false, true), (z, false, true, true), (z, true, true, true)]
def frmL : List Int → List Frm
  | [] => []
  | z :: zs => frm8 z ++ frmL zs
theorem frmL_mem : ∀ (zs : List Int) (f : Frm), f ∈ frmL zs → f.1 ∈ zs
  | [], f, h => absurd h List.not_mem_nil
  | z :: zs, f, h => by
    rcases List.mem_append.1 h with h | h
    · have : f.1 = z := by
        simp [frm8] at h
        rcases h with rfl | rfl | rfl | rfl | rfl | rfl | rfl | rfl <;> rfl
      rw [this]
      exact List.mem_cons_self ..
    · exact List.mem_cons_of_mem _ (frmL_mem zs f h)
theorem frmL_all : ∀ (zs : List Int) (z : Int), z ∈ zs → ∀ a b c : Bool, (z, a, b, c) ∈ frmL zs
  | [], z, h => absurd h List.not_mem_nil
  | y :: zs, z, h => fun a b c => by
    rcases List.mem_cons.1 h with rfl | h
    · refine List.mem_append.2 (Or.inl ?_)
      cases a <;> cases b <;> cases c <;> simp [frm8]
    · exact List.mem_append.2 (Or.inr (frmL_all zs z h a b c))
theorem fnd_all (l : List UInt8) : fndQ l (frmL sts) false = parR l := fnd_par l (fun f hf => frmL_mem sts f hf) (fun z hz a b c => frmL_all sts z hz a b c)
/-- What Parse holds in memory. -/
structure PaS (w W : World) : Prop where
  b : Below w.heap.size w W
  x0 : RpB W w.heap.size (rpl0 0)
  x1 : W.heap[w.heap.size + 1]? = some (.cells (sts.map (fun z => Value.int .i64 z)).toArray 3 (0, 0))
theorem PaS.below {w W W' : World} (h : PaS w W) (b : Below W.heap.size W W') : PaS w W' := ⟨h.b.trans (b.mono h.b.size), h.x0.below b, (b.block _ (lt_of_block h.x1)).trans h.x1⟩
theorem pas_of (w : World) : PaS w ((w.alloc (.cells (rpA (rpl0 0)) 23)).alloc (.cells (sts.map (fun z => Value.int .i64 z)).toArray 3)) := by
  have h0 : RpB (w.alloc (.cells (rpA (rpl0 0)) 23)) w.heap.size (rpl0 0) := block_alloc_at _ _
  have hs : (w.alloc (.cells (rpA (rpl0 0)) 23)).heap.size = w.heap.size + 1 := by simp
  have hb : ∀ (W : World) (o : Obj), Below W.heap.size W (W.alloc o) := fun W o => (Below.refl _ _).alloc (Nat.le_refl _) _
  obtain ⟨A, hA0⟩ : ∃ A, w.alloc (.cells (rpA (rpl0 0)) 23) = A := ⟨_, rfl⟩
  rw [hA0] at h0 hs ⊢
  have hA : Below w.heap.size w A := by rw [← hA0]; exact hb _ _
  have h1 := block_alloc_at A (.cells (sts.map (fun z => Value.int .i64 z)).toArray 3)
  rw [hs] at h1
  exact ⟨hA.trans ((hb A _).mono hA.size), h0.below (hb A _), h1⟩
theorem PaS.nth {w W : World} (h : PaS w W) {i : Nat} (hi : i < 13) : W.cell? ⟨w.heap.size + 1, i, none⟩ = some (.int .i64 (sts.getD i 0)) := by
  refine cell_of_block h.x1 ?_
  have := hi
  match i, hi with
  | 0, _ => rfl
  | 1, _ => rfl
  | 2, _ => rfl
  | 3, _ => rfl
  | 4, _ => rfl
  | 5, _ => rfl
  | 6, _ => rfl
  | 7, _ => rfl
  | 8, _ => rfl
  | 9, _ => rfl
  | 10, _ => rfl
  | 11, _ => rfl
  | 12, _ => rfl
theorem sts_nth {i : Nat} (hi : i < 13) : sts.getD i 0 ∈ sts ∧ sts.drop i = sts.getD i 0 :: sts.drop (i + 1) := by
  match i, hi with
  | 0, _ => decide
  | 1, _ => decide
  | 2, _ => decide
  | 3, _ => decide
  | 4, _ => decide
  | 5, _ => decide
  | 6, _ => decide
  | 7, _ => decide
  | 8, _ => decide
  | 9, _ => decide
  | 10, _ => decide
  | 11, _ => decide
  | 12, _ => decide
def frK (z : Int) (k : Nat) : Frm := (z, k % 2 = 1, k / 2 % 2 = 1, k / 4 % 2 = 1)
theorem frm8_nth (z : Int) {k : Nat} (hk : k < 8) : (frm8 z).drop k = frK z k :: (frm8 z).drop (k + 1) := by
  match k, hk with
  | 0, _ => rfl
  | 1, _ => rfl
  | 2, _ => rfl
  | 3, _ => rfl
  | 4, _ => rfl
  | 5, _ => rfl
  | 6, _ => rfl
  | 7, _ => rfl
set_option maxRecDepth 20000 in
set_option maxHeartbeats 16000000 in
theorem qparse_any (s : ByteArray) (hs : s.size ≤ 140737488355328) (w : World) : Calls Tryd.prog 15 #[.string s] w fun e w' => e = .returned (rqV (parR s.data.toList)) ∧ Below w.heap.size w w' := by
  have HRD : Hid (∀ (z : Int) (a b c : Bool) (W : World), z ∈ sts → _) := fun z a b c W hz => qread_any s z hz a b c hs W
  obtain ⟨l, hl⟩ : ∃ l, s.data.toList = l := ⟨_, rfl⟩
  rw [hl] at HRD ⊢
  clear hl
  obtain ⟨R, hR⟩ : ∃ R, parR l = R := ⟨_, rfl⟩
  have HR : Hid (fndQ l (frmL (sts.drop 0)) false = R) := by rw [Hid, List.drop_zero, ← hR]; exact fnd_all l
  rw [hR]
  clear hR
  obtain ⟨W0, hW0⟩ : ∃ W0, ((w.alloc (.cells (rpA (rpl0 0)) 23)).alloc (.cells (sts.map (fun z => Value.int .i64 z)).toArray 3)) = W0 := ⟨_, rfl⟩
  have HS0 : Hid (PaS w W0) := by rw [Hid, ← hW0]; exact pas_of w
  have HW0 : Hid _ := hW0
  simp only [rpA, rpl0, sts, List.map, show mkB [] = ⟨#[]⟩ from rfl] at hW0
  go_enter Tryd.func15, Tryd.ntmps15
  go_upto_region 3 with fail
  try rw [hW0]
  clear hW0 HW0
  go_loopw [5, 14] (fun b i wr => ∃ (k : Nat) (sh : Bool), k ≤ 13 ∧ i = .int .i64 (k : Nat) ∧ b = .bool sh ∧ Hid (fndQ l (frmL (sts.drop k)) sh = R) ∧ Hid (PaS w wr)) (fun _ i _ => 13 - (intOf i).toNat)
  case atStart => exact ⟨0, false, by omega, rfl, rfl, HR.out, HS0.out⟩
  case round =>
    obtain ⟨k, sh, hk, rfl, rfl, HE, HS⟩ := hrel
    by_cases hlt : k < 13
    · have hltz : (k : Int) < 13 := by omega
      have hc := HS.out.nth hlt
      obtain ⟨hzm, hzd⟩ := sts_nth hlt
      obtain ⟨z, hz⟩ : ∃ z, sts.getD k 0 = z := ⟨_, rfl⟩
      rw [hz] at hc hzm hzd
      have HE2 : Hid (fndQ l ((frm8 z).drop 0 ++ frmL (sts.drop (k + 1))) sh = R) := by rw [Hid, ← HE.out, hzd]; rfl
      have HRZ : Hid (∀ (a b c : Bool) (W : World), _) := fun a b c W => HRD.out z a b c W hzm
      clear hz hzd hzm HE
      go_upto_region 6 with fail
      go_loopw [5, 8] (fun b j wi => ∃ (q : Nat) (si : Bool), q ≤ 8 ∧ j = .int .i64 (q : Nat) ∧ b = .bool si ∧ Hid (fndQ l ((frm8 z).drop q ++ frmL (sts.drop (k + 1))) si = R) ∧ Hid (PaS w wi)) (fun _ j _ => 8 - (intOf j).toNat)
      case atStart => exact ⟨0, sh, by omega, rfl, rfl, HE2.out, HS.out⟩
      case round =>
        obtain ⟨q, si, hq, rfl, rfl, HF, HSi⟩ := hrel
        clear HE2
        obtain rfl | rfl | rfl | rfl | rfl | rfl | rfl | rfl | rfl : q = 0 ∨ q = 1 ∨ q = 2 ∨ q = 3 ∨ q = 4 ∨ q = 5 ∨ q = 6 ∨ q = 7 ∨ q = 8 := by omega
        · as_aux_lemma =>
            have HC : Hid (∀ W : World, _) := fun W => HRZ.out false false false W
            have HN : Hid (fndQ l ((z, false, false, false) :: ((frm8 z).drop 1 ++ frmL (sts.drop (k + 1)))) si = R) := HF.out
            unfold Hid at HN
            rw [fndQ, show rdF l (z, false, false, false) = rdQ z false false false l from rfl] at HN
            obtain ⟨⟨r, n, e⟩, hrq⟩ : ∃ X, rdQ z false false false l = X := ⟨_, rfl⟩
            rw [hrq] at HC HN
            clear hrq HF
            have HNN : Hid ((if e = 0 then (r, n, e) else fndQ l ((frm8 z).drop 1 ++ frmL (sts.drop (k + 1))) (si || decide (e = 20))) = R) := HN
            clear HN
            unfold rqV rpV at HC
            dsimp only at HC
            by_cases he : e = 0
            · subst he
              have HRR : Hid (R = (r, n, 0)) := by rw [Hid, ← HNN.out, if_pos rfl]
              clear HNN
              go_upto_region 9 with (go_at_call 30; refine (HC.out _).mono ?_; rintro e w1 ⟨rfl, b2⟩; have HS1 : Hid (PaS w w1) := HSi.out.below b2; clear b2)
              obtain ⟨W2, hW2⟩ : ∃ W2, w1.alloc (.cells (rpA r) 23) = W2 := ⟨_, rfl⟩
              have HS2 : Hid (PaS w W2) := by rw [Hid, ← hW2]; exact HS1.out.below ((Below.refl _ _).alloc (Nat.le_refl _) _)
              have HX2 : Hid (RpB W2 w1.heap.size r) := by rw [Hid, ← hW2]; exact block_alloc_at _ _
              unfold rpA at hW2
              rw [hW2]
              clear hW2
              obtain ⟨a0, a1, a2, a3⟩ := HX2.out.cells
              obtain ⟨k0, k1, k2, k3⟩ := HS2.out.x0.cells
              have f0 := HS2.out.x0.free 0
              have f1 := HS2.out.x0.free 1
              have f2 := HS2.out.x0.free 2
              have f3 := HS2.out.x0.free 3
              obtain ⟨W9, hW9⟩ : ∃ W9, set4 W2 w.heap.size r = W9 := ⟨_, rfl⟩
              have HX9 : RpB W9 w.heap.size r := by rw [← hW9]; exact HS2.out.x0.set4 _
              have HB9 : Hid (Below w.heap.size w W9) := by
                rw [Hid, ← hW9]
                have q : Keeps (fun _ => False) w (set4 W2 w.heap.size r) := set4_keeps (Keeps.of_below HS2.out.b) (Nat.le_refl _) _
                exact q.below (Nat.le_refl _) (fun k f => f.elim)
              obtain ⟨x0, x1, x2, x3⟩ := HX9.cells
              have HW9 : Hid (set4 W2 w.heap.size r = W9) := hW9
              unfold set4 at HW9
              clear HX9 hW9
              go_wp2_with fail
              rw [HW9.out]
              refine bodyPost_ret (v := rqV (r, n, 0)) ?_ rfl ⟨by rw [HRR.out], HB9.out⟩
              rw [results_cell_tmp2 rfl]
              unfold rqV rpV
              go_simp
            · have hez : (e == 0) = false := beq_eq_false_iff_ne.2 he
              rw [if_neg he] at HNN
              clear he
              go_upto_region 9 with (go_at_call 30; refine (HC.out _).mono ?_; rintro e w1 ⟨rfl, b2⟩; have HS1 : Hid (PaS w w1) := HSi.out.below b2; clear b2)
              obtain ⟨W2, hW2⟩ : ∃ W2, w1.alloc (.cells (rpA r) 23) = W2 := ⟨_, rfl⟩
              have HS2 : Hid (PaS w W2) := by rw [Hid, ← hW2]; exact HS1.out.below ((Below.refl _ _).alloc (Nat.le_refl _) _)
              unfold rpA at hW2
              rw [hW2]
              clear hW2
              cases si with
              | true =>
                go_wp2_with fail
                go_roundw
                case rel => exact ⟨1, true, by omega, rfl, rfl, HNN.out, HS2.out⟩
                case measure => simp [intOf]
              | false =>
                rw [Bool.false_or] at HNN
                by_cases h2 : e = 20
                · have h2z : (e == 20) = true := beq_iff_eq.2 h2
                  rw [decide_eq_true h2] at HNN
                  clear h2
                  go_wp2_with fail
                  go_roundw
                  case rel => exact ⟨1, true, by omega, rfl, rfl, HNN.out, HS2.out⟩
                  case measure => simp [intOf]
                · have h2z : (e == 20) = false := beq_eq_false_iff_ne.2 h2
                  rw [decide_eq_false h2] at HNN
                  clear h2
                  go_wp2_with fail
                  go_roundw
                  case rel => exact ⟨1, false, by omega, rfl, rfl, HNN.out, HS2.out⟩
                  case measure => simp [intOf]
        · as_aux_lemma =>
            have HC : Hid (∀ W : World, _) := fun W => HRZ.out true false false W
            have HN : Hid (fndQ l ((z, true, false, false) :: ((frm8 z).drop 2 ++ frmL (sts.drop (k + 1)))) si = R) := HF.out
            unfold Hid at HN
            rw [fndQ, show rdF l (z, true, false, false) = rdQ z true false false l from rfl] at HN
            obtain ⟨⟨r, n, e⟩, hrq⟩ : ∃ X, rdQ z true false false l = X := ⟨_, rfl⟩
            rw [hrq] at HC HN
            clear hrq HF
            have HNN : Hid ((if e = 0 then (r, n, e) else fndQ l ((frm8 z).drop 2 ++ frmL (sts.drop (k + 1))) (si || decide (e = 20))) = R) := HN
            clear HN
            unfold rqV rpV at HC
            dsimp only at HC
            by_cases he : e = 0
            · subst he
              have HRR : Hid (R = (r, n, 0)) := by rw [Hid, ← HNN.out, if_pos rfl]
              clear HNN
              go_upto_region 9 with (go_at_call 30; refine (HC.out _).mono ?_; rintro e w1 ⟨rfl, b2⟩; have HS1 : Hid (PaS w w1) := HSi.out.below b2; clear b2)
              obtain ⟨W2, hW2⟩ : ∃ W2, w1.alloc (.cells (rpA r) 23) = W2 := ⟨_, rfl⟩
              have HS2 : Hid (PaS w W2) := by rw [Hid, ← hW2]; exact HS1.out.below ((Below.refl _ _).alloc (Nat.le_refl _) _)
              have HX2 : Hid (RpB W2 w1.heap.size r) := by rw [Hid, ← hW2]; exact block_alloc_at _ _
              unfold rpA at hW2
              rw [hW2]
              clear hW2
              obtain ⟨a0, a1, a2, a3⟩ := HX2.out.cells
              obtain ⟨k0, k1, k2, k3⟩ := HS2.out.x0.cells
              have f0 := HS2.out.x0.free 0
              have f1 := HS2.out.x0.free 1
              have f2 := HS2.out.x0.free 2
              have f3 := HS2.out.x0.free 3
              obtain ⟨W9, hW9⟩ : ∃ W9, set4 W2 w.heap.size r = W9 := ⟨_, rfl⟩
              have HX9 : RpB W9 w.heap.size r := by rw [← hW9]; exact HS2.out.x0.set4 _
              have HB9 : Hid (Below w.heap.size w W9) := by
                rw [Hid, ← hW9]
                have q : Keeps (fun _ => False) w (set4 W2 w.heap.size r) := set4_keeps (Keeps.of_below HS2.out.b) (Nat.le_refl _) _
                exact q.below (Nat.le_refl _) (fun k f => f.elim)
              obtain ⟨x0, x1, x2, x3⟩ := HX9.cells
              have HW9 : Hid (set4 W2 w.heap.size r = W9) := hW9
              unfold set4 at HW9
              clear HX9 hW9
              go_wp2_with fail
              rw [HW9.out]
              refine bodyPost_ret (v := rqV (r, n, 0)) ?_ rfl ⟨by rw [HRR.out], HB9.out⟩
              rw [results_cell_tmp2 rfl]
              unfold rqV rpV
              go_simp
            · have hez : (e == 0) = false := beq_eq_false_iff_ne.2 he
              rw [if_neg he] at HNN
              clear he
              go_upto_region 9 with (go_at_call 30; refine (HC.out _).mono ?_; rintro e w1 ⟨rfl, b2⟩; have HS1 : Hid (PaS w w1) := HSi.out.below b2; clear b2)
              obtain ⟨W2, hW2⟩ : ∃ W2, w1.alloc (.cells (rpA r) 23) = W2 := ⟨_, rfl⟩
              have HS2 : Hid (PaS w W2) := by rw [Hid, ← hW2]; exact HS1.out.below ((Below.refl _ _).alloc (Nat.le_refl _) _)
              unfold rpA at hW2
              rw [hW2]
              clear hW2
              cases si with
              | true =>
                go_wp2_with fail
                go_roundw
                case rel => exact ⟨2, true, by omega, rfl, rfl, HNN.out, HS2.out⟩
                case measure => simp [intOf]
              | false =>
                rw [Bool.false_or] at HNN
                by_cases h2 : e = 20
                · have h2z : (e == 20) = true := beq_iff_eq.2 h2
                  rw [decide_eq_true h2] at HNN
                  clear h2
                  go_wp2_with fail
                  go_roundw
                  case rel => exact ⟨2, true, by omega, rfl, rfl, HNN.out, HS2.out⟩
                  case measure => simp [intOf]
                · have h2z : (e == 20) = false := beq_eq_false_iff_ne.2 h2
                  rw [decide_eq_false h2] at HNN
                  clear h2
                  go_wp2_with fail
                  go_roundw
                  case rel => exact ⟨2, false, by omega, rfl, rfl, HNN.out, HS2.out⟩
                  case measure => simp [intOf]
        · as_aux_lemma =>
            have HC : Hid (∀ W : World, _) := fun W => HRZ.out false true false W
            have HN : Hid (fndQ l ((z, false, true, false) :: ((frm8 z).drop 3 ++ frmL (sts.drop (k + 1)))) si = R) := HF.out
            unfold Hid at HN
            rw [fndQ, show rdF l (z, false, true, false) = rdQ z false true false l from rfl] at HN
            obtain ⟨⟨r, n, e⟩, hrq⟩ : ∃ X, rdQ z false true false l = X := ⟨_, rfl⟩
            rw [hrq] at HC HN
            clear hrq HF
            have HNN : Hid ((if e = 0 then (r, n, e) else fndQ l ((frm8 z).drop 3 ++ frmL (sts.drop (k + 1))) (si || decide (e = 20))) = R) := HN
            clear HN
            unfold rqV rpV at HC
            dsimp only at HC
            by_cases he : e = 0
            · subst he
              have HRR : Hid (R = (r, n, 0)) := by rw [Hid, ← HNN.out, if_pos rfl]
              clear HNN
              go_upto_region 9 with (go_at_call 30; refine (HC.out _).mono ?_; rintro e w1 ⟨rfl, b2⟩; have HS1 : Hid (PaS w w1) := HSi.out.below b2; clear b2)
              obtain ⟨W2, hW2⟩ : ∃ W2, w1.alloc (.cells (rpA r) 23) = W2 := ⟨_, rfl⟩
              have HS2 : Hid (PaS w W2) := by rw [Hid, ← hW2]; exact HS1.out.below ((Below.refl _ _).alloc (Nat.le_refl _) _)
              have HX2 : Hid (RpB W2 w1.heap.size r) := by rw [Hid, ← hW2]; exact block_alloc_at _ _
              unfold rpA at hW2
              rw [hW2]
              clear hW2
              obtain ⟨a0, a1, a2, a3⟩ := HX2.out.cells
              obtain ⟨k0, k1, k2, k3⟩ := HS2.out.x0.cells
              have f0 := HS2.out.x0.free 0
              have f1 := HS2.out.x0.free 1
              have f2 := HS2.out.x0.free 2
              have f3 := HS2.out.x0.free 3
              obtain ⟨W9, hW9⟩ : ∃ W9, set4 W2 w.heap.size r = W9 := ⟨_, rfl⟩
              have HX9 : RpB W9 w.heap.size r := by rw [← hW9]; exact HS2.out.x0.set4 _
              have HB9 : Hid (Below w.heap.size w W9) := by
                rw [Hid, ← hW9]
                have q : Keeps (fun _ => False) w (set4 W2 w.heap.size r) := set4_keeps (Keeps.of_below HS2.out.b) (Nat.le_refl _) _
                exact q.below (Nat.le_refl _) (fun k f => f.elim)
              obtain ⟨x0, x1, x2, x3⟩ := HX9.cells
              have HW9 : Hid (set4 W2 w.heap.size r = W9) := hW9
              unfold set4 at HW9
              clear HX9 hW9
              go_wp2_with fail
              rw [HW9.out]
              refine bodyPost_ret (v := rqV (r, n, 0)) ?_ rfl ⟨by rw [HRR.out], HB9.out⟩
              rw [results_cell_tmp2 rfl]
              unfold rqV rpV
              go_simp
            · have hez : (e == 0) = false := beq_eq_false_iff_ne.2 he
              rw [if_neg he] at HNN
              clear he
              go_upto_region 9 with (go_at_call 30; refine (HC.out _).mono ?_; rintro e w1 ⟨rfl, b2⟩; have HS1 : Hid (PaS w w1) := HSi.out.below b2; clear b2)
              obtain ⟨W2, hW2⟩ : ∃ W2, w1.alloc (.cells (rpA r) 23) = W2 := ⟨_, rfl⟩
              have HS2 : Hid (PaS w W2) := by rw [Hid, ← hW2]; exact HS1.out.below ((Below.refl _ _).alloc (Nat.le_refl _) _)
              unfold rpA at hW2
              rw [hW2]
              clear hW2
              cases si with
              | true =>
                go_wp2_with fail
                go_roundw
                case rel => exact ⟨3, true, by omega, rfl, rfl, HNN.out, HS2.out⟩
                case measure => simp [intOf]
              | false =>
                rw [Bool.false_or] at HNN
                by_cases h2 : e = 20
                · have h2z : (e == 20) = true := beq_iff_eq.2 h2
                  rw [decide_eq_true h2] at HNN
                  clear h2
                  go_wp2_with fail
                  go_roundw
                  case rel => exact ⟨3, true, by omega, rfl, rfl, HNN.out, HS2.out⟩
                  case measure => simp [intOf]
                · have h2z : (e == 20) = false := beq_eq_false_iff_ne.2 h2
                  rw [decide_eq_false h2] at HNN
                  clear h2
                  go_wp2_with fail
                  go_roundw
                  case rel => exact ⟨3, false, by omega, rfl, rfl, HNN.out, HS2.out⟩
                  case measure => simp [intOf]
        · as_aux_lemma =>
            have HC : Hid (∀ W : World, _) := fun W => HRZ.out true true false W
            have HN : Hid (fndQ l ((z, true, true, false) :: ((frm8 z).drop 4 ++ frmL (sts.drop (k + 1)))) si = R) := HF.out
            unfold Hid at HN
            rw [fndQ, show rdF l (z, true, true, false) = rdQ z true true false l from rfl] at HN
            obtain ⟨⟨r, n, e⟩, hrq⟩ : ∃ X, rdQ z true true false l = X := ⟨_, rfl⟩
            rw [hrq] at HC HN
            clear hrq HF
            have HNN : Hid ((if e = 0 then (r, n, e) else fndQ l ((frm8 z).drop 4 ++ frmL (sts.drop (k + 1))) (si || decide (e = 20))) = R) := HN
            clear HN
            unfold rqV rpV at HC
            dsimp only at HC
            by_cases he : e = 0
            · subst he
              have HRR : Hid (R = (r, n, 0)) := by rw [Hid, ← HNN.out, if_pos rfl]
              clear HNN
              go_upto_region 9 with (go_at_call 30; refine (HC.out _).mono ?_; rintro e w1 ⟨rfl, b2⟩; have HS1 : Hid (PaS w w1) := HSi.out.below b2; clear b2)
              obtain ⟨W2, hW2⟩ : ∃ W2, w1.alloc (.cells (rpA r) 23) = W2 := ⟨_, rfl⟩
              have HS2 : Hid (PaS w W2) := by rw [Hid, ← hW2]; exact HS1.out.below ((Below.refl _ _).alloc (Nat.le_refl _) _)
              have HX2 : Hid (RpB W2 w1.heap.size r) := by rw [Hid, ← hW2]; exact block_alloc_at _ _
              unfold rpA at hW2
              rw [hW2]
              clear hW2
              obtain ⟨a0, a1, a2, a3⟩ := HX2.out.cells
              obtain ⟨k0, k1, k2, k3⟩ := HS2.out.x0.cells
              have f0 := HS2.out.x0.free 0
              have f1 := HS2.out.x0.free 1
              have f2 := HS2.out.x0.free 2
              have f3 := HS2.out.x0.free 3
              obtain ⟨W9, hW9⟩ : ∃ W9, set4 W2 w.heap.size r = W9 := ⟨_, rfl⟩
              have HX9 : RpB W9 w.heap.size r := by rw [← hW9]; exact HS2.out.x0.set4 _
              have HB9 : Hid (Below w.heap.size w W9) := by
                rw [Hid, ← hW9]
                have q : Keeps (fun _ => False) w (set4 W2 w.heap.size r) := set4_keeps (Keeps.of_below HS2.out.b) (Nat.le_refl _) _
                exact q.below (Nat.le_refl _) (fun k f => f.elim)
              obtain ⟨x0, x1, x2, x3⟩ := HX9.cells
              have HW9 : Hid (set4 W2 w.heap.size r = W9) := hW9
              unfold set4 at HW9
              clear HX9 hW9
              go_wp2_with fail
              rw [HW9.out]
              refine bodyPost_ret (v := rqV (r, n, 0)) ?_ rfl ⟨by rw [HRR.out], HB9.out⟩
              rw [results_cell_tmp2 rfl]
              unfold rqV rpV
              go_simp
            · have hez : (e == 0) = false := beq_eq_false_iff_ne.2 he
              rw [if_neg he] at HNN
              clear he
              go_upto_region 9 with (go_at_call 30; refine (HC.out _).mono ?_; rintro e w1 ⟨rfl, b2⟩; have HS1 : Hid (PaS w w1) := HSi.out.below b2; clear b2)
              obtain ⟨W2, hW2⟩ : ∃ W2, w1.alloc (.cells (rpA r) 23) = W2 := ⟨_, rfl⟩
              have HS2 : Hid (PaS w W2) := by rw [Hid, ← hW2]; exact HS1.out.below ((Below.refl _ _).alloc (Nat.le_refl _) _)
              unfold rpA at hW2
              rw [hW2]
              clear hW2
              cases si with
              | true =>
                go_wp2_with fail
                go_roundw
                case rel => exact ⟨4, true, by omega, rfl, rfl, HNN.out, HS2.out⟩
                case measure => simp [intOf]
              | false =>
                rw [Bool.false_or] at HNN
                by_cases h2 : e = 20
                · have h2z : (e == 20) = true := beq_iff_eq.2 h2
                  rw [decide_eq_true h2] at HNN
                  clear h2
                  go_wp2_with fail
                  go_roundw
                  case rel => exact ⟨4, true, by omega, rfl, rfl, HNN.out, HS2.out⟩
                  case measure => simp [intOf]
                · have h2z : (e == 20) = false := beq_eq_false_iff_ne.2 h2
                  rw [decide_eq_false h2] at HNN
                  clear h2
                  go_wp2_with fail
                  go_roundw
                  case rel => exact ⟨4, false, by omega, rfl, rfl, HNN.out, HS2.out⟩
                  case measure => simp [intOf]
        · as_aux_lemma =>
            have HC : Hid (∀ W : World, _) := fun W => HRZ.out false false true W
            have HN : Hid (fndQ l ((z, false, false, true) :: ((frm8 z).drop 5 ++ frmL (sts.drop (k + 1)))) si = R) := HF.out
            unfold Hid at HN
            rw [fndQ, show rdF l (z, false, false, true) = rdQ z false false true l from rfl] at HN
            obtain ⟨⟨r, n, e⟩, hrq⟩ : ∃ X, rdQ z false false true l = X := ⟨_, rfl⟩
            rw [hrq] at HC HN
            clear hrq HF
            have HNN : Hid ((if e = 0 then (r, n, e) else fndQ l ((frm8 z).drop 5 ++ frmL (sts.drop (k + 1))) (si || decide (e = 20))) = R) := HN
            clear HN
            unfold rqV rpV at HC
            dsimp only at HC
            by_cases he : e = 0
            · subst he
              have HRR : Hid (R = (r, n, 0)) := by rw [Hid, ← HNN.out, if_pos rfl]
              clear HNN
              go_upto_region 9 with (go_at_call 30; refine (HC.out _).mono ?_; rintro e w1 ⟨rfl, b2⟩; have HS1 : Hid (PaS w w1) := HSi.out.below b2; clear b2)
              obtain ⟨W2, hW2⟩ : ∃ W2, w1.alloc (.cells (rpA r) 23) = W2 := ⟨_, rfl⟩
              have HS2 : Hid (PaS w W2) := by rw [Hid, ← hW2]; exact HS1.out.below ((Below.refl _ _).alloc (Nat.le_refl _) _)
              have HX2 : Hid (RpB W2 w1.heap.size r) := by rw [Hid, ← hW2]; exact block_alloc_at _ _
              unfold rpA at hW2
              rw [hW2]
              clear hW2
              obtain ⟨a0, a1, a2, a3⟩ := HX2.out.cells
              obtain ⟨k0, k1, k2, k3⟩ := HS2.out.x0.cells
              have f0 := HS2.out.x0.free 0
              have f1 := HS2.out.x0.free 1
              have f2 := HS2.out.x0.free 2
              have f3 := HS2.out.x0.free 3
              obtain ⟨W9, hW9⟩ : ∃ W9, set4 W2 w.heap.size r = W9 := ⟨_, rfl⟩
              have HX9 : RpB W9 w.heap.size r := by rw [← hW9]; exact HS2.out.x0.set4 _
              have HB9 : Hid (Below w.heap.size w W9) := by
                rw [Hid, ← hW9]
                have q : Keeps (fun _ => False) w (set4 W2 w.heap.size r) := set4_keeps (Keeps.of_below HS2.out.b) (Nat.le_refl _) _
                exact q.below (Nat.le_refl _) (fun k f => f.elim)
              obtain ⟨x0, x1, x2, x3⟩ := HX9.cells
              have HW9 : Hid (set4 W2 w.heap.size r = W9) := hW9
              unfold set4 at HW9
              clear HX9 hW9
              go_wp2_with fail
              rw [HW9.out]
              refine bodyPost_ret (v := rqV (r, n, 0)) ?_ rfl ⟨by rw [HRR.out], HB9.out⟩
              rw [results_cell_tmp2 rfl]
              unfold rqV rpV
              go_simp
            · have hez : (e == 0) = false := beq_eq_false_iff_ne.2 he
              rw [if_neg he] at HNN
              clear he
              go_upto_region 9 with (go_at_call 30; refine (HC.out _).mono ?_; rintro e w1 ⟨rfl, b2⟩; have HS1 : Hid (PaS w w1) := HSi.out.below b2; clear b2)
              obtain ⟨W2, hW2⟩ : ∃ W2, w1.alloc (.cells (rpA r) 23) = W2 := ⟨_, rfl⟩
              have HS2 : Hid (PaS w W2) := by rw [Hid, ← hW2]; exact HS1.out.below ((Below.refl _ _).alloc (Nat.le_refl _) _)
              unfold rpA at hW2
              rw [hW2]
              clear hW2
              cases si with
              | true =>
                go_wp2_with fail
                go_roundw
                case rel => exact ⟨5, true, by omega, rfl, rfl, HNN.out, HS2.out⟩
                case measure => simp [intOf]
              | false =>
                rw [Bool.false_or] at HNN
                by_cases h2 : e = 20
                · have h2z : (e == 20) = true := beq_iff_eq.2 h2
                  rw [decide_eq_true h2] at HNN
                  clear h2
                  go_wp2_with fail
                  go_roundw
                  case rel => exact ⟨5, true, by omega, rfl, rfl, HNN.out, HS2.out⟩
                  case measure => simp [intOf]
                · have h2z : (e == 20) = false := beq_eq_false_iff_ne.2 h2
                  rw [decide_eq_false h2] at HNN
                  clear h2
                  go_wp2_with fail
                  go_roundw
                  case rel => exact ⟨5, false, by omega, rfl, rfl, HNN.out, HS2.out⟩
                  case measure => simp [intOf]
        · as_aux_lemma =>
            have HC : Hid (∀ W : World, _) := fun W => HRZ.out true false true W
            have HN : Hid (fndQ l ((z, true, false, true) :: ((frm8 z).drop 6 ++ frmL (sts.drop (k + 1)))) si = R) := HF.out
            unfold Hid at HN
            rw [fndQ, show rdF l (z, true, false, true) = rdQ z true false true l from rfl] at HN
            obtain ⟨⟨r, n, e⟩, hrq⟩ : ∃ X, rdQ z true false true l = X := ⟨_, rfl⟩
            rw [hrq] at HC HN
            clear hrq HF
            have HNN : Hid ((if e = 0 then (r, n, e) else fndQ l ((frm8 z).drop 6 ++ frmL (sts.drop (k + 1))) (si || decide (e = 20))) = R) := HN
            clear HN
            unfold rqV rpV at HC
            dsimp only at HC
            by_cases he : e = 0
            · subst he
              have HRR : Hid (R = (r, n, 0)) := by rw [Hid, ← HNN.out, if_pos rfl]
              clear HNN
              go_upto_region 9 with (go_at_call 30; refine (HC.out _).mono ?_; rintro e w1 ⟨rfl, b2⟩; have HS1 : Hid (PaS w w1) := HSi.out.below b2; clear b2)
              obtain ⟨W2, hW2⟩ : ∃ W2, w1.alloc (.cells (rpA r) 23) = W2 := ⟨_, rfl⟩
              have HS2 : Hid (PaS w W2) := by rw [Hid, ← hW2]; exact HS1.out.below ((Below.refl _ _).alloc (Nat.le_refl _) _)
              have HX2 : Hid (RpB W2 w1.heap.size r) := by rw [Hid, ← hW2]; exact block_alloc_at _ _
              unfold rpA at hW2
              rw [hW2]
              clear hW2
              obtain ⟨a0, a1, a2, a3⟩ := HX2.out.cells
              obtain ⟨k0, k1, k2, k3⟩ := HS2.out.x0.cells
              have f0 := HS2.out.x0.free 0
              have f1 := HS2.out.x0.free 1
              have f2 := HS2.out.x0.free 2
              have f3 := HS2.out.x0.free 3
              obtain ⟨W9, hW9⟩ : ∃ W9, set4 W2 w.heap.size r = W9 := ⟨_, rfl⟩
              have HX9 : RpB W9 w.heap.size r := by rw [← hW9]; exact HS2.out.x0.set4 _
              have HB9 : Hid (Below w.heap.size w W9) := by
                rw [Hid, ← hW9]
                have q : Keeps (fun _ => False) w (set4 W2 w.heap.size r) := set4_keeps (Keeps.of_below HS2.out.b) (Nat.le_refl _) _
                exact q.below (Nat.le_refl _) (fun k f => f.elim)
              obtain ⟨x0, x1, x2, x3⟩ := HX9.cells
              have HW9 : Hid (set4 W2 w.heap.size r = W9) := hW9
              unfold set4 at HW9
              clear HX9 hW9
              go_wp2_with fail
              rw [HW9.out]
              refine bodyPost_ret (v := rqV (r, n, 0)) ?_ rfl ⟨by rw [HRR.out], HB9.out⟩
              rw [results_cell_tmp2 rfl]
              unfold rqV rpV
              go_simp
            · have hez : (e == 0) = false := beq_eq_false_iff_ne.2 he
              rw [if_neg he] at HNN
              clear he
              go_upto_region 9 with (go_at_call 30; refine (HC.out _).mono ?_; rintro e w1 ⟨rfl, b2⟩; have HS1 : Hid (PaS w w1) := HSi.out.below b2; clear b2)
              obtain ⟨W2, hW2⟩ : ∃ W2, w1.alloc (.cells (rpA r) 23) = W2 := ⟨_, rfl⟩
              have HS2 : Hid (PaS w W2) := by rw [Hid, ← hW2]; exact HS1.out.below ((Below.refl _ _).alloc (Nat.le_refl _) _)
              unfold rpA at hW2
              rw [hW2]
              clear hW2
              cases si with
              | true =>
                go_wp2_with fail
                go_roundw
                case rel => exact ⟨6, true, by omega, rfl, rfl, HNN.out, HS2.out⟩
                case measure => simp [intOf]
              | false =>
                rw [Bool.false_or] at HNN
                by_cases h2 : e = 20
                · have h2z : (e == 20) = true := beq_iff_eq.2 h2
                  rw [decide_eq_true h2] at HNN
                  clear h2
                  go_wp2_with fail
                  go_roundw
                  case rel => exact ⟨6, true, by omega, rfl, rfl, HNN.out, HS2.out⟩
                  case measure => simp [intOf]
                · have h2z : (e == 20) = false := beq_eq_false_iff_ne.2 h2
                  rw [decide_eq_false h2] at HNN
                  clear h2
                  go_wp2_with fail
                  go_roundw
                  case rel => exact ⟨6, false, by omega, rfl, rfl, HNN.out, HS2.out⟩
                  case measure => simp [intOf]
        · as_aux_lemma =>
            have HC : Hid (∀ W : World, _) := fun W => HRZ.out false true true W
            have HN : Hid (fndQ l ((z, false, true, true) :: ((frm8 z).drop 7 ++ frmL (sts.drop (k + 1)))) si = R) := HF.out
            unfold Hid at HN
            rw [fndQ, show rdF l (z, false, true, true) = rdQ z false true true l from rfl] at HN
            obtain ⟨⟨r, n, e⟩, hrq⟩ : ∃ X, rdQ z false true true l = X := ⟨_, rfl⟩
            rw [hrq] at HC HN
            clear hrq HF
            have HNN : Hid ((if e = 0 then (r, n, e) else fndQ l ((frm8 z).drop 7 ++ frmL (sts.drop (k + 1))) (si || decide (e = 20))) = R) := HN
            clear HN
            unfold rqV rpV at HC
            dsimp only at HC
            by_cases he : e = 0
            · subst he
              have HRR : Hid (R = (r, n, 0)) := by rw [Hid, ← HNN.out, if_pos rfl]
              clear HNN
              go_upto_region 9 with (go_at_call 30; refine (HC.out _).mono ?_; rintro e w1 ⟨rfl, b2⟩; have HS1 : Hid (PaS w w1) := HSi.out.below b2; clear b2)
              obtain ⟨W2, hW2⟩ : ∃ W2, w1.alloc (.cells (rpA r) 23) = W2 := ⟨_, rfl⟩
              have HS2 : Hid (PaS w W2) := by rw [Hid, ← hW2]; exact HS1.out.below ((Below.refl _ _).alloc (Nat.le_refl _) _)
              have HX2 : Hid (RpB W2 w1.heap.size r) := by rw [Hid, ← hW2]; exact block_alloc_at _ _
              unfold rpA at hW2
              rw [hW2]
              clear hW2
              obtain ⟨a0, a1, a2, a3⟩ := HX2.out.cells
              obtain ⟨k0, k1, k2, k3⟩ := HS2.out.x0.cells
              have f0 := HS2.out.x0.free 0
              have f1 := HS2.out.x0.free 1
              have f2 := HS2.out.x0.free 2
              have f3 := HS2.out.x0.free 3
              obtain ⟨W9, hW9⟩ : ∃ W9, set4 W2 w.heap.size r = W9 := ⟨_, rfl⟩
              have HX9 : RpB W9 w.heap.size r := by rw [← hW9]; exact HS2.out.x0.set4 _
              have HB9 : Hid (Below w.heap.size w W9) := by
                rw [Hid, ← hW9]
                have q : Keeps (fun _ => False) w (set4 W2 w.heap.size r) := set4_keeps (Keeps.of_below HS2.out.b) (Nat.le_refl _) _
                exact q.below (Nat.le_refl _) (fun k f => f.elim)
              obtain ⟨x0, x1, x2, x3⟩ := HX9.cells
              have HW9 : Hid (set4 W2 w.heap.size r = W9) := hW9
              unfold set4 at HW9
              clear HX9 hW9
              go_wp2_with fail
              rw [HW9.out]
              refine bodyPost_ret (v := rqV (r, n, 0)) ?_ rfl ⟨by rw [HRR.out], HB9.out⟩
              rw [results_cell_tmp2 rfl]
              unfold rqV rpV
              go_simp
            · have hez : (e == 0) = false := beq_eq_false_iff_ne.2 he
              rw [if_neg he] at HNN
              clear he
              go_upto_region 9 with (go_at_call 30; refine (HC.out _).mono ?_; rintro e w1 ⟨rfl, b2⟩; have HS1 : Hid (PaS w w1) := HSi.out.below b2; clear b2)
              obtain ⟨W2, hW2⟩ : ∃ W2, w1.alloc (.cells (rpA r) 23) = W2 := ⟨_, rfl⟩
              have HS2 : Hid (PaS w W2) := by rw [Hid, ← hW2]; exact HS1.out.below ((Below.refl _ _).alloc (Nat.le_refl _) _)
              unfold rpA at hW2
              rw [hW2]
              clear hW2
              cases si with
              | true =>
                go_wp2_with fail
                go_roundw
                case rel => exact ⟨7, true, by omega, rfl, rfl, HNN.out, HS2.out⟩
                case measure => simp [intOf]
              | false =>
                rw [Bool.false_or] at HNN
                by_cases h2 : e = 20
                · have h2z : (e == 20) = true := beq_iff_eq.2 h2
                  rw [decide_eq_true h2] at HNN
                  clear h2
                  go_wp2_with fail
                  go_roundw
                  case rel => exact ⟨7, true, by omega, rfl, rfl, HNN.out, HS2.out⟩
                  case measure => simp [intOf]
                · have h2z : (e == 20) = false := beq_eq_false_iff_ne.2 h2
                  rw [decide_eq_false h2] at HNN
                  clear h2
                  go_wp2_with fail
                  go_roundw
                  case rel => exact ⟨7, false, by omega, rfl, rfl, HNN.out, HS2.out⟩
                  case measure => simp [intOf]
        · as_aux_lemma =>
            have HC : Hid (∀ W : World, _) := fun W => HRZ.out true true true W
            have HN : Hid (fndQ l ((z, true, true, true) :: ((frm8 z).drop 8 ++ frmL (sts.drop (k + 1)))) si = R) := HF.out
            unfold Hid at HN
            rw [fndQ, show rdF l (z, true, true, true) = rdQ z true true true l from rfl] at HN
            obtain ⟨⟨r, n, e⟩, hrq⟩ : ∃ X, rdQ z true true true l = X := ⟨_, rfl⟩
            rw [hrq] at HC HN
            clear hrq HF
            have HNN : Hid ((if e = 0 then (r, n, e) else fndQ l ((frm8 z).drop 8 ++ frmL (sts.drop (k + 1))) (si || decide (e = 20))) = R) := HN
            clear HN
            unfold rqV rpV at HC
            dsimp only at HC
            by_cases he : e = 0
            · subst he
              have HRR : Hid (R = (r, n, 0)) := by rw [Hid, ← HNN.out, if_pos rfl]
              clear HNN
              go_upto_region 9 with (go_at_call 30; refine (HC.out _).mono ?_; rintro e w1 ⟨rfl, b2⟩; have HS1 : Hid (PaS w w1) := HSi.out.below b2; clear b2)
              obtain ⟨W2, hW2⟩ : ∃ W2, w1.alloc (.cells (rpA r) 23) = W2 := ⟨_, rfl⟩
              have HS2 : Hid (PaS w W2) := by rw [Hid, ← hW2]; exact HS1.out.below ((Below.refl _ _).alloc (Nat.le_refl _) _)
              have HX2 : Hid (RpB W2 w1.heap.size r) := by rw [Hid, ← hW2]; exact block_alloc_at _ _
              unfold rpA at hW2
              rw [hW2]
              clear hW2
              obtain ⟨a0, a1, a2, a3⟩ := HX2.out.cells
              obtain ⟨k0, k1, k2, k3⟩ := HS2.out.x0.cells
              have f0 := HS2.out.x0.free 0
              have f1 := HS2.out.x0.free 1
              have f2 := HS2.out.x0.free 2
              have f3 := HS2.out.x0.free 3
              obtain ⟨W9, hW9⟩ : ∃ W9, set4 W2 w.heap.size r = W9 := ⟨_, rfl⟩
              have HX9 : RpB W9 w.heap.size r := by rw [← hW9]; exact HS2.out.x0.set4 _
              have HB9 : Hid (Below w.heap.size w W9) := by
                rw [Hid, ← hW9]
                have q : Keeps (fun _ => False) w (set4 W2 w.heap.size r) := set4_keeps (Keeps.of_below HS2.out.b) (Nat.le_refl _) _
                exact q.below (Nat.le_refl _) (fun k f => f.elim)
              obtain ⟨x0, x1, x2, x3⟩ := HX9.cells
              have HW9 : Hid (set4 W2 w.heap.size r = W9) := hW9
              unfold set4 at HW9
              clear HX9 hW9
              go_wp2_with fail
              rw [HW9.out]
              refine bodyPost_ret (v := rqV (r, n, 0)) ?_ rfl ⟨by rw [HRR.out], HB9.out⟩
              rw [results_cell_tmp2 rfl]
              unfold rqV rpV
              go_simp
            · have hez : (e == 0) = false := beq_eq_false_iff_ne.2 he
              rw [if_neg he] at HNN
              clear he
              go_upto_region 9 with (go_at_call 30; refine (HC.out _).mono ?_; rintro e w1 ⟨rfl, b2⟩; have HS1 : Hid (PaS w w1) := HSi.out.below b2; clear b2)
              obtain ⟨W2, hW2⟩ : ∃ W2, w1.alloc (.cells (rpA r) 23) = W2 := ⟨_, rfl⟩
              have HS2 : Hid (PaS w W2) := by rw [Hid, ← hW2]; exact HS1.out.below ((Below.refl _ _).alloc (Nat.le_refl _) _)
              unfold rpA at hW2
              rw [hW2]
              clear hW2
              cases si with
              | true =>
                go_wp2_with fail
                go_roundw
                case rel => exact ⟨8, true, by omega, rfl, rfl, HNN.out, HS2.out⟩
                case measure => simp [intOf]
              | false =>
                rw [Bool.false_or] at HNN
                by_cases h2 : e = 20
                · have h2z : (e == 20) = true := beq_iff_eq.2 h2
                  rw [decide_eq_true h2] at HNN
                  clear h2
                  go_wp2_with fail
                  go_roundw
                  case rel => exact ⟨8, true, by omega, rfl, rfl, HNN.out, HS2.out⟩
                  case measure => simp [intOf]
                · have h2z : (e == 20) = false := beq_eq_false_iff_ne.2 h2
                  rw [decide_eq_false h2] at HNN
                  clear h2
                  go_wp2_with fail
                  go_roundw
                  case rel => exact ⟨8, false, by omega, rfl, rfl, HNN.out, HS2.out⟩
                  case measure => simp [intOf]
        · have HN : Hid (fndQ l (frmL (sts.drop (k + 1))) si = R) := HF.out
          go_wp2_with fail
          go_roundw
          case rel => exact ⟨k + 1, si, by omega, by go_num, rfl, HN.out, HSi.out⟩
          case measure => simp [intOf]; omega
    · have hkk : k = 13 := by omega
      subst hkk
      have HN : Hid (badQ (if sh = true then 20 else 180) = R) := HE.out
      obtain ⟨k0, k1, k2, k3⟩ := HS.out.x0.zero
      have f0 := HS.out.x0.free 0
      have f1 := HS.out.x0.free 1
      have f2 := HS.out.x0.free 2
      have f3 := HS.out.x0.free 3
      obtain ⟨W9, hW9⟩ : ∃ W9, clr w wr = W9 := ⟨_, rfl⟩
      have HX9 : Hid (RpB W9 w.heap.size (rpl0 0) ∧ Below w.heap.size w W9) := by
        rw [Hid, ← hW9]
        refine ⟨HS.out.x0.set4 (rpl0 0), ?_⟩
        have q : Keeps (fun _ => False) w (set4 wr w.heap.size (rpl0 0)) := set4_keeps (Keeps.of_below HS.out.b) (Nat.le_refl _) _
        exact q.below (Nat.le_refl _) (fun k f => f.elim)
      obtain ⟨x0, x1, x2, x3⟩ := HX9.out.1.zero
      have HW9 : Hid (clr w wr = W9) := hW9
      unfold clr at HW9
      clear hW9 HE
      cases sh with
      | true =>
        go_wp2_with fail
        rw [HW9.out]
        refine bodyPost_ret (v := .tuple #[rpV (rpl0 0), .int .i64 0, .int .i64 20]) ?_ rfl ⟨by rw [← HN.out]; rfl, HX9.out.2⟩
        rw [results_cell_tmp2 rfl]
        unfold rpV
        go_simp
        exact ⟨rfl, rfl, rfl, rfl⟩
      | false =>
        go_wp2_with fail
        rw [HW9.out]
        refine bodyPost_ret (v := .tuple #[rpV (rpl0 0), .int .i64 0, .int .i64 180]) ?_ rfl ⟨by rw [← HN.out]; rfl, HX9.out.2⟩
        rw [results_cell_tmp2 rfl]
        unfold rpV
        go_simp
        exact ⟨rfl, rfl, rfl, rfl⟩
end Go.Proofs.YtdkbgbhcnbmlfaaDoor
