/-
  The contracts of readPair, and of the twin's pair and split.
-/
import Derived.Test.YtimabpfahhbadaaDoorCwd
import Derived.Laws.ResultCell
namespace Go.Proofs.YtimabpfahhbadaaDoor
open Go.RowKit
theorem results_cell1 {fn : Func} {p : Tmp} {ty : TypeId} (h : fn.results = #[.cell p ty]) (tmps : Array Value) (P : Program) (w : World) :
    (results fn tmps).run P w = ((asAddr (tmps.getD p undef)).run P w).andThen fun a w₁ => (loadVar ty a).run P w₁ := by
  simp only [results, h]
  simp [Sem.run_bind, Result.andThen]
theorem free_of_block {w : World} {b : Nat} {c : Array Value} {t : TypeId} (h : w.heap[b]? = some (.cells c t (0, 0))) (o : Nat) : w.frozen? ⟨b, o, none⟩ = false := by simp [World.frozen?, h]
theorem set_block {W : World} {g : Nat} {c : Array Value} {t : TypeId} (h : W.heap[g]? = some (.cells c t (0, 0))) (i : Nat) (v : Value) : (W.setCell ⟨g, i, none⟩ v).heap[g]? = some (.cells (c.setIfInBounds i v) t (0, 0)) := by
  simp [World.setCell, Array.getElem?_modify, h]
def set2 (W : World) (g : Nat) (v0 v1 : Value) : World := (W.setCell ⟨g, 0, none⟩ v0).setCell ⟨g, 1, none⟩ v1
theorem set2_block {W : World} {g : Nat} {a b : Value} {t : TypeId} (h : W.heap[g]? = some (.cells #[a, b] t (0, 0))) (v0 v1 : Value) : (set2 W g v0 v1).heap[g]? = some (.cells #[v0, v1] t (0, 0)) := by
  have := set_block (set_block h 0 v0) 1 v1
  simpa [set2] using this
theorem set2_below {B : Nat} {a W : World} (h : Below B a W) {g : Nat} (hg : B ≤ g) (v0 v1 : Value) : Below B a (set2 W g v0 v1) :=
  (h.setCell (p := ⟨g, 0, none⟩) hg _).setCell (p := ⟨g, 1, none⟩) hg _
set_option maxRecDepth 20000 in
set_option maxHeartbeats 4000000 in
theorem readPair_any (s : ByteArray) (hs : s.size < 4294967281) (m : Int) (w : World) (hm : w.cell? ⟨0, 0, none⟩ = some (.int .i64 m)) :
    Calls Tryd.prog 21 #[.string s] w fun e w' => e = .returned (.agg #[.string (rdP s).name, .string (rdP s).val]) ∧ Below w.heap.size w w' := by
  have HM : Hid (∀ W, Below w.heap.size w W → W.cell? ⟨0, 0, none⟩ = some (.int .i64 m)) := fun W b => mx_below hm b
  have H1 : Hid (∀ W, Below w.heap.size w W → _) := fun W b => cut_any s 61 hs m W (HM.out W b)
  rw [show (61 : UInt8).toNat = 61 from rfl] at H1
  have e1 : (rdP s).name = (cutP s 61).1 := rfl
  have e2 : (rdP s).val = (cutP s 61).2.1 := rfl
  rw [e1, e2]
  obtain ⟨nm, hnm⟩ : ∃ nm, (cutP s 61).1 = nm := ⟨_, rfl⟩
  obtain ⟨vl, hvl⟩ : ∃ vl, (cutP s 61).2.1 = vl := ⟨_, rfl⟩
  obtain ⟨is, his⟩ : ∃ is, (cutP s 61).2.2 = is := ⟨_, rfl⟩
  rw [hnm, hvl, his] at H1
  rw [hnm, hvl]
  clear hnm hvl his e1 e2 hm
  obtain ⟨W0, hW0⟩ : ∃ W0, w.alloc (.cells #[.string ⟨#[]⟩, .string ⟨#[]⟩] 44) = W0 := ⟨_, rfl⟩
  have HB0 : Hid (Below w.heap.size w W0) := by rw [Hid, ← hW0]; exact (Below.refl _ _).alloc (Nat.le_refl _) _
  have HX0 : Hid (W0.heap[w.heap.size]? = some (.cells #[.string ⟨#[]⟩, .string ⟨#[]⟩] 44 (0, 0))) := by rw [Hid, ← hW0]; exact block_alloc_at _ _
  go_enter Tryd.func21, Tryd.ntmps21
  go_wp2_with fail
  try rw [hW0]
  refine (H1.out _ HB0.out).mono ?_
  rintro e w1 ⟨rfl, q, rfl⟩
  obtain ⟨W1, hW1⟩ : ∃ W1, W0.drewN q = W1 := ⟨_, rfl⟩
  have HB1 : Hid (Below w.heap.size w W1) := by rw [Hid, ← hW1]; exact below_drewN HB0.out q
  have HX1 : Hid (W1.heap[w.heap.size]? = some (.cells #[.string ⟨#[]⟩, .string ⟨#[]⟩] 44 (0, 0))) := by rw [Hid, ← hW1]; exact HX0.out
  rw [hW1]
  have k0 : W1.cell? ⟨w.heap.size, 0, none⟩ = some (.string ⟨#[]⟩) := cell_of_block HX1.out rfl
  have k1 : W1.cell? ⟨w.heap.size, 1, none⟩ = some (.string ⟨#[]⟩) := cell_of_block HX1.out rfl
  have f0 : W1.frozen? ⟨w.heap.size, 0, none⟩ = false := free_of_block HX1.out _
  have f1 : W1.frozen? ⟨w.heap.size, 1, none⟩ = false := free_of_block HX1.out _
  obtain ⟨W2, hW2⟩ : ∃ W2, set2 W1 w.heap.size (.string nm) (.string vl) = W2 := ⟨_, rfl⟩
  have HB2 : Hid (Below w.heap.size w W2) := by rw [Hid, ← hW2]; exact set2_below HB1.out (Nat.le_refl _) _ _
  have HX2 : W2.heap[w.heap.size]? = some (.cells #[.string nm, .string vl] 44 (0, 0)) := by rw [← hW2]; exact set2_block HX1.out _ _
  have x0 : W2.cell? ⟨w.heap.size, 0, none⟩ = some (.string nm) := cell_of_block HX2 rfl
  have x1 : W2.cell? ⟨w.heap.size, 1, none⟩ = some (.string vl) := cell_of_block HX2 rfl
  clear HX2 hW0 hW1
  unfold set2 at hW2
  go_wp2_with fail
  try rw [hW2]
  refine bodyPost_ret (v := .agg #[.string nm, .string vl]) ?_ rfl ⟨rfl, HB2.out⟩
  rw [results_cell1 rfl]
  go_simp
/-- What the twin's pair tells. -/
def pairR (s : ByteArray) : ByteArray × ByteArray × Bool := match ixB s 61 with
  | some k => (s.extract 0 k, s.extract (k + 1) s.size, tokR (s.extract 0 k) && octR (bareB (s.extract (k + 1) s.size)))
  | none => (⟨#[]⟩, ⟨#[]⟩, false)
theorem pairR_ok (s : ByteArray) : (pairR s).2.2 = okS s := by
  unfold pairR okS okP rdP cutP
  cases ixB s 61 <;> rfl
theorem pairR_rd {s : ByteArray} (h : okS s = true) : (pairR s).1 = (rdP s).name ∧ (pairR s).2.1 = (rdP s).val := by
  unfold okS cutP at h
  unfold pairR rdP cutP
  cases hq : ixB s 61 with
  | some k => exact ⟨rfl, rfl⟩
  | none => rw [hq] at h; cases h
set_option maxRecDepth 20000 in
set_option maxHeartbeats 4000000 in
theorem qpair_any (s : ByteArray) (hs : s.size ≤ 140737488355328) (w : World) :
    Calls Tryd.prog 23 #[.string s] w fun e w' => e = .returned (.tuple #[.string (pairR s).1, .string (pairR s).2.1, .bool (pairR s).2.2]) ∧ Below w.heap.size w w' := by
  obtain ⟨T, hT⟩ : ∃ T, pairR s = T := ⟨_, rfl⟩
  have HT : Hid _ := hT
  rw [hT]
  clear hT
  go_enter Tryd.func23, Tryd.ntmps23
  go_wp2_with fail
  go_loopw [5] (fun i wr => ∃ k : Nat, k ≤ s.size ∧ i = .int .i64 k ∧ Hid (∀ j, j < k → byteAt s j ≠ 61) ∧ wr = w) (fun i _ => s.size - (intOf i).toNat)
  case atStart => exact ⟨0, by omega, rfl, fun j hj => by omega, rfl⟩
  case round =>
    obtain ⟨k, hk, rfl, HN, rfl⟩ := hrel
    by_cases hlt : k < s.size
    · have r0 := fun W => run_byte s (i := k) (z := (k : Int)) rfl hlt W
      obtain ⟨x, hx⟩ : ∃ x, byteAt s k = x := ⟨_, rfl⟩
      rw [hx] at r0
      by_cases hxc : x = 61
      · subst hxc
        have HR : Hid (T = (s.extract 0 k, s.extract (k + 1) s.size, tokR (s.extract 0 k) && octR (bareB (s.extract (k + 1) s.size)))) := by rw [Hid, ← HT.out, pairR, ixB_hit hlt hx HN.out]
        have q1 : (k : Int) ≤ (s.size : Int) := by omega
        have q2 : (k : Int) + 1 ≤ (s.size : Int) := by omega
        have q3 : (0 : Int) ≤ (k : Int) := by omega
        have q4 : (0 : Int) ≤ (k : Int) + 1 := by omega
        have z1 : (s.extract 0 k).size ≤ 140737488355328 := by rw [ByteArray.size_extract]; omega
        have z2 : (s.extract (k + 1) s.size).size ≤ 140737488355328 := by rw [ByteArray.size_extract]; omega
        have z3 : (bareB (s.extract (k + 1) s.size)).size ≤ 140737488355328 := Nat.le_trans (bareB_size _) z2
        have H1 : Hid (∀ W : World, _) := fun W => rtoken_any (s.extract 0 k) z1 W
        have H2 : Hid (∀ W : World, _) := fun W => qbare_any (s.extract (k + 1) s.size) z2 W
        have H3 : Hid (∀ W : World, _) := fun W => octets_any (bareB (s.extract (k + 1) s.size)) z3 W
        obtain ⟨t, ht⟩ : ∃ t, tokR (s.extract 0 k) = t := ⟨_, rfl⟩
        obtain ⟨b, hb⟩ : ∃ b, bareB (s.extract (k + 1) s.size) = b := ⟨_, rfl⟩
        obtain ⟨o, ho⟩ : ∃ o, octR b = o := ⟨_, rfl⟩
        rw [ht] at H1
        rw [hb] at H2 H3
        rw [ho] at H3
        rw [ht, hb, ho] at HR
        clear hx z1 z2 z3 ht hb ho
        cases t with
        | false =>
          go_wp2_with fail
          go_quiet (first | (go_at_call 29; exact Calls.quiet_of_same (H1.out _)))
          go_wp2_with fail
          go_ret3
          exact ⟨by rw [HR.out]; rfl, below_drewN (Below.refl _ _) _⟩
        | true =>
          go_wp2_with fail
          go_quiet (first | (go_at_call 29; exact Calls.quiet_of_same (H1.out _)) | (go_at_call 31; exact Calls.quiet_of_same (H2.out _)) | (go_at_call 30; exact Calls.quiet_of_same (H3.out _)))
          go_wp2_with fail
          go_ret3
          exact ⟨by rw [HR.out]; rfl, below_drewN (Below.refl _ _) _⟩
      · have HV : Hid (∀ j, j < k + 1 → byteAt s j ≠ 61) := fun j hj => by
          rcases Nat.lt_succ_iff_lt_or_eq.1 hj with h | rfl
          · exact HN.out j h
          · rw [hx]; exact hxc
        have q0 : ((x : Int) == 61) = false := by simp; omega
        have q1 : ¬ (x : Int) = 61 := by omega
        clear hx hxc
        go_wp2_with fail
        go_roundw
        case rel => exact ⟨k + 1, by omega, by go_num, HV.out, by first | rfl | trivial⟩
        case measure => simp [intOf]; omega
    · obtain rfl : k = s.size := by omega
      have HR : Hid (T = (⟨#[]⟩, ⟨#[]⟩, false)) := by rw [Hid, ← HT.out, pairR, ixB_none HN.out]
      go_wp2_with fail
      go_ret3
      exact ⟨by rw [HR.out]; rfl, Below.refl _ _⟩
end Go.Proofs.YtimabpfahhbadaaDoor
