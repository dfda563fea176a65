/-
  tooMany.
-/
import Derived.Test.YtcdagmgbfihbdaaDoorTrm
import Derived.Laws.Cover1
namespace Go.Proofs.YtcdagmgbfihbdaaDoor
open Go.RowKit
def TrmAt (w : World) (a : Option Addr) (l : List Trm) : Prop := ∀ j t, l[j]? = some t → ∃ b off, a = some ⟨b, off, none⟩ ∧ b < w.heap.size ∧ (w.cell? ⟨b, off + j * 9, none⟩ = some (.slice t.aa t.arr.length t.ac) ∧ w.cell? ⟨b, off + j * 9 + 1, none⟩ = some (.slice t.pa t.picks.length t.pc) ∧ w.cell? ⟨b, off + j * 9 + 2, none⟩ = some (.slice t.ta t.ticks.length t.tc) ∧ w.cell? ⟨b, off + j * 9 + 3, none⟩ = some (.slice t.da t.draws.length t.dc) ∧ w.cell? ⟨b, off + j * 9 + 4, none⟩ = some (.slice t.fa t.faults.length t.fc) ∧ w.cell? ⟨b, off + j * 9 + 5, none⟩ = some (.int .i64 t.steps) ∧ w.cell? ⟨b, off + j * 9 + 6, none⟩ = some (.int .i64 t.stop) ∧ w.cell? ⟨b, off + j * 9 + 7, none⟩ = some (.int .i64 t.dir) ∧ w.cell? ⟨b, off + j * 9 + 8, none⟩ = some (.slice t.ka t.keep.length t.kc))
theorem TrmAt.below {W W' : World} {a : Option Addr} {l : List Trm} (h : TrmAt W a l) (k : Below W.heap.size W W') : TrmAt W' a l := fun j v hj => by
  obtain ⟨b, off, e, hb, h0, h1, h2, h3, h4, h5, h6, h7, h8⟩ := h j v hj
  have cc : ∀ {o : Nat} {v : Value}, W.cell? ⟨b, o, none⟩ = some v → W'.cell? ⟨b, o, none⟩ = some v := fun {o v} q => (k.cell (p := ⟨b, o, none⟩) hb).trans q
  exact ⟨b, off, e, Nat.lt_of_lt_of_le hb k.size, cc h0, cc h1, cc h2, cc h3, cc h4, cc h5, cc h6, cc h7, cc h8⟩
theorem max3_any (a b c : Nat) : ∃ m : Nat, (∀ W : World, (Builtin.max_ #[3, 3, 3] 3 #[.int .i64 ((a : Nat) : Int), .int .i64 ((b : Nat) : Int), .int .i64 ((c : Nat) : Int)]).run Tryd.prog W = .ok (.int .i64 ((m : Nat) : Int)) W) ∧ (65536 < m ↔ (65536 < a ∨ 65536 < b ∨ 65536 < c)) := by
  refine ⟨max (max a b) c, fun W => ?_, by omega⟩
  rw [run_max_int3]
  congr 2
  split <;> split <;> omega
def manyT (t : Trm) : Bool := decide (256 < t.arr.length) || decide (64 < t.faults.length) || decide (65536 < t.picks.length) || decide (65536 < t.ticks.length) || decide (65536 < t.draws.length)
def many (nt : Nat) (l : List Trm) : Bool := decide (16 < nt) || decide (8 < l.length) || l.any manyT
set_option maxRecDepth 100000 in
set_option maxHeartbeats 16000000 in
theorem many_any (W : World) (ta : Option Addr) (tc nt : Nat) (o1 o2 o3 o4 o5 o6 o7 cp : Int) (la : Option Addr) (lc n : Nat) (l : List Trm) (hl : l.length = n) (hT : TrmAt W la l) :
    Calls Tryd.prog 24 #[.agg #[.slice ta nt tc, .int .i64 o1, .int .i64 o2, .int .i64 o3, .int .i64 o4, .int .i64 o5, .int .i64 o6, .int .i64 o7, .int .i64 cp], .slice la n lc] W fun e W' => e = .returned (.bool (many nt l)) ∧ Below W.heap.size W W' := by
  obtain ⟨M, hM⟩ : ∃ M, many nt l = M := ⟨_, rfl⟩
  have HM : Hid (many nt l = M) := hM
  have HN : Hid (l.length = n) := hl
  have HT : Hid (TrmAt W la l) := hT
  rw [hM]
  clear hl hT hM
  by_cases h1 : 16 < nt
  · have hz : (16 : Int) < ((nt : Nat) : Int) := by omega
    have hd : decide (16 < nt) = true := decide_eq_true h1
    have HR : Hid (M = true) := by rw [Hid, ← HM.out]; unfold many; rw [hd]; rfl
    clear h1
    go_enter Tryd.func24, Tryd.ntmps24
    go_wp2_with fail
    go_ret
    exact ⟨by rw [HR.out]; rfl, below_new _ _⟩
  · have hz : ¬ (16 : Int) < ((nt : Nat) : Int) := by omega
    have hd : decide (16 < nt) = false := decide_eq_false h1
    by_cases h2 : 8 < n
    · have hz2 : (8 : Int) < ((n : Nat) : Int) := by omega
      have hd2 : decide (8 < n) = true := decide_eq_true h2
      have HR : Hid (M = true) := by rw [Hid, ← HM.out]; unfold many; rw [HN.out, hd2]; simp
      clear h1 h2
      go_enter Tryd.func24, Tryd.ntmps24
      go_wp2_with fail
      go_ret
      exact ⟨by rw [HR.out]; rfl, below_new _ _⟩
    · have hz2 : ¬ (8 : Int) < ((n : Nat) : Int) := by omega
      have hd2 : decide (8 < n) = false := decide_eq_false h2
      have HR : Hid (M = l.any manyT) := by rw [Hid, ← HM.out]; unfold many; rw [HN.out, hd2, hd]; rfl
      have hn8 : n ≤ 8 := by omega
      clear h1 h2
      obtain ⟨W0, hW0⟩ : ∃ V, W.alloc (.cells #[.slice ta nt tc, .int .i64 o1, .int .i64 o2, .int .i64 o3, .int .i64 o4, .int .i64 o5, .int .i64 o6, .int .i64 o7, .int .i64 cp] 33) = V := ⟨_, rfl⟩
      have HB0 : Hid (Below W.heap.size W W0) := by rw [Hid, ← hW0]; exact below_new _ _
      have HW0 : Hid _ := hW0
      clear hW0
      go_enter Tryd.func24, Tryd.ntmps24
      go_wp2_with fail
      rw [HW0.out]
      go_loopw [18] (fun i wr => ∃ k : Nat, k ≤ n ∧ i = .int .i64 ((k : Nat) : Int) ∧ Hid (Below W.heap.size W wr ∧ (l.take k).any manyT = false)) (fun i _ => n - (intOf i).toNat)
      case atStart => exact ⟨0, by omega, rfl, HB0.out, rfl⟩
      case round =>
        obtain ⟨k, hk, rfl, HK⟩ := hrel
        by_cases hlt : k < n
        · have hlz : ((k : Nat) : Int) < ((n : Nat) : Int) := by omega
          obtain ⟨t, hv⟩ : ∃ t, l[k]? = some t := ⟨_, List.getElem?_eq_getElem (by rw [HN.out]; exact hlt)⟩
          have HMT : Hid (manyT t = true → M = true) := fun q => by
            rw [HR.out]
            exact List.any_eq_true.2 ⟨t, List.mem_of_getElem? hv, q⟩
          have HNX : Hid (manyT t = false → (l.take (k + 1)).any manyT = false) := fun q => by
            rw [List.take_add_one, hv, Option.toList, List.any_append, HK.out.2]
            simp [q]
          obtain ⟨tb, off, rfl, _, c0, c1, c2, c3, c4, c5, c6, c7, c8⟩ := (HT.out.below HK.out.1) k t hv
          have HBN : Hid (∀ V, Below wr.heap.size wr V → Below W.heap.size W V) := fun V hV => below_on HK.out.1 hV
          obtain ⟨aa, ac, arr, pa, pc, picks, xa, tc', ticks, da, dc, draws, fa, fc, faults, steps, stop, dir, ka, kc, keep⟩ := t
          simp only at c0 c1 c2 c3 c4 c5 c6 c7 c8
          obtain ⟨na, hna⟩ : ∃ n, arr.length = n := ⟨_, rfl⟩
          obtain ⟨np, hnp⟩ : ∃ n, picks.length = n := ⟨_, rfl⟩
          obtain ⟨nti, hnt⟩ : ∃ n, ticks.length = n := ⟨_, rfl⟩
          obtain ⟨nd, hnd⟩ : ∃ n, draws.length = n := ⟨_, rfl⟩
          obtain ⟨nf, hnf⟩ : ∃ n, faults.length = n := ⟨_, rfl⟩
          unfold manyT at HMT HNX
          simp only at HMT HNX
          rw [hna, hnp, hnt, hnd, hnf] at HMT
          rw [hnp] at c1
          rw [hnt] at c2
          rw [hnd] at c3
          rw [hnf] at c4
          rw [hna] at c0
          clear hv
          by_cases g1 : 256 < na
          · have y1 : (256 : Int) < ((na : Nat) : Int) := by omega
            have z1 : decide (256 < na) = true := decide_eq_true g1
            have HRT : Hid (M = true) := HMT.out (by rw [z1]; rfl)
            clear g1 hna hnp hnt hnd hnf HMT HNX
            go_wp2_with fail
            go_ret
            exact ⟨by rw [HRT.out]; rfl, HBN.out _ (below_new _ _)⟩
          · have y1 : ¬ (256 : Int) < ((na : Nat) : Int) := by omega
            have z1 : decide (256 < na) = false := decide_eq_false g1
            by_cases g2 : 64 < nf
            · have y2 : (64 : Int) < ((nf : Nat) : Int) := by omega
              have z2 : decide (64 < nf) = true := decide_eq_true g2
              have HRT : Hid (M = true) := HMT.out (by rw [z1, z2]; rfl)
              clear g1 g2 hna hnp hnt hnd hnf HMT HNX
              go_wp2_with fail
              go_ret
              exact ⟨by rw [HRT.out]; rfl, HBN.out _ (below_new _ _)⟩
            · have y2 : ¬ (64 : Int) < ((nf : Nat) : Int) := by omega
              have z2 : decide (64 < nf) = false := decide_eq_false g2
              rw [z1, z2] at HMT
              rw [hna, hnp, hnt, hnd, hnf, z1, z2] at HNX
              clear g1 g2 hna hnp hnt hnd hnf
              obtain ⟨mx, hmx, hiff⟩ := max3_any np nti nd
              by_cases g3 : 65536 < mx
              · have y3 : (65536 : Int) < ((mx : Nat) : Int) := by omega
                have HRT : Hid (M = true) := HMT.out (by rcases hiff.1 g3 with q | q | q <;> simp [q])
                clear g3 hiff HMT HNX
                go_wp2_with fail
                go_ret
                exact ⟨by rw [HRT.out]; rfl, HBN.out _ (below_new _ _)⟩
              · have y3 : ¬ (65536 : Int) < ((mx : Nat) : Int) := by omega
                have HNN : Hid ((l.take (k + 1)).any manyT = false) := HNX.out (by
                  have q := fun h => g3 (hiff.2 h)
                  simp only [Bool.false_or, Bool.or_eq_false_iff, decide_eq_false_iff_not]
                  omega)
                have HBF : Hid (∀ V, Below wr.heap.size wr V → Below W.heap.size W V ∧ (l.take (k + 1)).any manyT = false) := fun V hV => ⟨HBN.out V hV, HNN.out⟩
                clear g3 hiff HMT HNX
                go_wp2_with fail
                go_roundw
                case rel => exact ⟨k + 1, by omega, by go_num, HBF.out _ (below_new _ _)⟩
                case measure => simp [intOf]; omega
        · obtain rfl : k = n := by omega
          have hlz : ¬ ((k : Nat) : Int) < ((k : Nat) : Int) := by omega
          have HRF : Hid (M = false) := by
            rw [Hid, HR.out]
            have := HK.out.2
            rw [show l.take k = l from List.take_of_length_le (by rw [HN.out]; exact Nat.le_refl _)] at this
            exact this
          go_wp2_with fail
          go_ret
          exact ⟨by rw [HRF.out]; rfl, HK.out.1⟩
end Go.Proofs.YtcdagmgbfihbdaaDoor
