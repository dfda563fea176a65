/-
  The contracts of cutText and cutPart at a key's bytes: the part with which they begin.
-/
import Derived.Test.YtkebddjndljodaaDoorRefKey
import Derived.Laws.ResultCell
namespace Go.Proofs.YtkebddjndljodaaDoor
open Go.RowKit
theorem results_cell_tmp2 {fn : Func} {p u v : Tmp} {ty : TypeId} (h : fn.results = #[.cell p ty, .tmp u, .tmp v]) (tmps : Array Value) (P : Program) (w : World) :
    (results fn tmps).run P w =
      ((asAddr (tmps.getD p undef)).run P w).andThen fun a w₁ => ((loadVar ty a).run P w₁).andThen fun x w₂ => .ok (.tuple #[x, tmps.getD u undef, tmps.getD v undef]) w₂ := by
  simp only [results, h]
  simp [Sem.run_bind, Result.andThen]
theorem byte_at {S : ByteArray} {i : Nat} {c : UInt8} (h : S.data.toList[i]? = some c) : ∃ hlt : i < S.size, S[i]'hlt = c := by
  obtain ⟨h1, h2⟩ := List.getElem?_eq_some_iff.1 h
  have hz := size_list S
  refine ⟨by omega, ?_⟩
  rw [← h2]
  simp [ByteArray.getElem_eq_getElem_data]
/-- The byte at a place behind some bytes. -/
theorem at_behind {S : ByteArray} {x y : List UInt8} {j : Nat} (hS : S.data.toList = x ++ y) (hj : j = x.length) (k : Nat) : S.data.toList[j + k]? = y[k]? := by
  rw [hS, hj, List.getElem?_append_right (by omega), Nat.add_sub_cancel_left]
theorem box_set {w W : World} {bx : Nat} {xs : Array Value} {v : Value} {cur : List UInt8} (h : RB w W bx xs v cur) (hb : w.heap.size ≤ bx) (u : Value) (o : Nat) : Below w.heap.size w (W.setCell ⟨bx, o, none⟩ u) :=
  h.bel.setCell (p := ⟨bx, o, none⟩) hb u
set_option maxRecDepth 100000 in
set_option maxHeartbeats 4000000 in
theorem cutText_any (t S : ByteArray) (R : List UInt8) (w : World) (hS : S.data.toList = 2 :: (esc t.data.toList ++ 0 :: R)) (hR : R.head? ≠ some 255) (hz : S.size ≤ 1073741824) :
    Calls Tryd.prog 39 #[.string S] w fun r w' => r = .returned (.tuple #[.agg #[.string t, .int .u64 0, .bool false], .int .i64 ((2 + (esc t.data.toList).length : Nat) : Int), .int .i64 0]) ∧ Below w.heap.size w w' := by
  obtain ⟨i0, hi, hz0, hz1, hz2⟩ := info_parts Tryd.info5
  have HS : Hid _ := hS
  have HR : Hid _ := hR
  have HTS : Hid (t.data.toList.length = t.size) := (size_list t).symm
  have HSS : Hid (S.data.toList.length = S.size) := (size_list S).symm
  clear hS hR
  obtain ⟨L, hL⟩ : ∃ L, L = 2 + (esc t.data.toList).length := ⟨_, rfl⟩
  have HL : Hid _ := hL
  rw [← hL]
  clear hL
  go_enter Tryd.func39, Tryd.ntmps39
  go_wp2_with fail
  go_loopw [5, 6] (fun v i wr => ∃ k j : Nat, ∃ cur, k ≤ t.size ∧ j < S.size ∧ i = .int .i64 j ∧ Hid (j = 1 + (esc (t.data.toList.take k)).length) ∧ Hid (cur = t.data.toList.take k) ∧ RB w wr w.heap.size #[.string ⟨#[]⟩, .int .u64 0, .bool false] v cur) (fun _ i _ => S.size - (intOf i).toNat)
  case atStart =>
    refine ⟨0, 1, [], by omega, ?_, rfl, by simp [Hid, esc], rfl, ⟨World.ownsRow_nil _ _ _ _, (Below.refl _ _).alloc (Nat.le_refl _) _, block_alloc_at _ _⟩⟩
    have h1 := congrArg List.length HS.out
    rw [HSS.out] at h1
    simp at h1
    omega
  case round =>
    obtain ⟨k, j, cur, hk, hj, rfl, HJ, HC, r⟩ := hrel
    obtain ⟨a, cap, rfl⟩ := r.form
    have HCL : Hid (cur.length ≤ 1073741824) := by
      rw [Hid, HC.out, List.length_take, HTS.out]
      have h1 := congrArg List.length HS.out
      rw [HSS.out] at h1
      have h2 : t.data.toList.length ≤ (esc t.data.toList).length := by
        generalize t.data.toList = l
        induction l with
        | nil => simp
        | cons c l ih => unfold esc; split <;> simp <;> omega
      rw [HTS.out] at h2
      simp at h1
      omega
    have z1 := r.size
    by_cases hlt : k < t.size
    · obtain ⟨c, hc⟩ : ∃ c, t[k] = c := ⟨_, rfl⟩
      have HT1 : Hid (t.data.toList.take (k + 1) = t.data.toList.take k ++ [c]) := by rw [Hid, take_snoc t k hlt, hc]
      have HSP : Hid (S.data.toList = (2 :: esc (t.data.toList.take k)) ++ (esc [c] ++ (esc (t.data.toList.drop (k + 1)) ++ 0 :: R))) := by
        rw [Hid, HS.out]
        have e : t.data.toList = t.data.toList.take k ++ ([c] ++ t.data.toList.drop (k + 1)) := by
          rw [← List.append_assoc, ← HT1.out, List.take_append_drop]
        conv => lhs; rw [e]
        rw [esc_append, esc_append]
        simp
      have HJ2 : Hid (j = (2 :: esc (t.data.toList.take k)).length) := by rw [Hid, HJ.out]; simp; omega
      have hb0 : S.data.toList[j]? = some c := by
        have := at_behind HSP.out HJ2.out 0
        rw [Nat.add_zero] at this
        rw [this]
        by_cases h0 : c = 0 <;> simp [esc, h0]
      obtain ⟨_, hcS⟩ := byte_at hb0
      clear hc hb0
      by_cases h0 : c = 0
      · have hb1 : S.data.toList[j + 1]? = some 255 := by
          rw [at_behind HSP.out HJ2.out 1, h0]; simp [esc]
        obtain ⟨hj1, hc1⟩ := byte_at hb1
        have HJ3 : Hid (j + 2 = 1 + (esc (t.data.toList.take (k + 1))).length) := by
          rw [Hid, HT1.out, esc_append, List.length_append, HJ.out, h0]; simp [esc]; omega
        have hj2 : j + 2 < S.size := by
          have h1 := congrArg List.length HSP.out
          rw [HSS.out, List.length_append, ← HJ2.out, h0] at h1
          simp [esc] at h1
          omega
        have HC2 : Hid (cur ++ [0] = t.data.toList.take (k + 1)) := by rw [Hid, HT1.out, HC.out, h0]
        rw [h0] at hcS
        clear hb1 h0
        go_wp2_with (at_builtin; refine wpList_append_own _ rfl (.tmp 40) (.tmp 41) 49 rfl w.heap.size 5 i0 (.int .u8 0) 1 1 Tryd.underlying49 hi hz0 hz1 hz2 rfl (by decide) _ _ _ rfl ((r.alloc _).row) ⟨wr.heap.size, 0, none⟩ 1 1 (cellsOf [0]) rfl rfl (one_cell _ _ _) (cellsOf_one _) (by have := HCL.out; unfold maxLen; omega) (by have := HCL.out; omega) (by simp; omega) ?_)
        intro v1 w1 hown1 hg1 _
        have r1 := (r.alloc _).grown hg1 (news := [0]) rfl hown1
        obtain ⟨a1, cap1, rfl⟩ := form_of_row hown1
        have R1 : Hid _ := r1
        clear hown1 hg1 r r1
        go_wp2_with fail
        go_roundw
        case rel => exact ⟨k + 1, j + 2, cur ++ [0], by omega, hj2, by go_num, HJ3.out, HC2.out, R1.out⟩
        case measure => simp [intOf]; omega
      · have hne : ((c.toNat : Int) == 0) = false := by
          rw [beq_eq_false_iff_ne]
          exact fun e => h0 (UInt8.toNat_inj.1 (by simpa using e))
        have HJ3 : Hid (j + 1 = 1 + (esc (t.data.toList.take (k + 1))).length) := by
          rw [Hid, HT1.out, esc_append, List.length_append, HJ.out]; simp [esc, h0]; omega
        have hj2 : j + 1 < S.size := by
          have h1 := congrArg List.length HSP.out
          rw [HSS.out, List.length_append, ← HJ2.out] at h1
          simp [esc, h0] at h1
          omega
        have HC2 : Hid (cur ++ [c] = t.data.toList.take (k + 1)) := by rw [Hid, HT1.out, HC.out]
        clear h0
        go_wp2_with (at_builtin; refine wpList_append_own _ rfl (.tmp 17) (.tmp 21) 49 rfl w.heap.size 5 i0 (.int .u8 0) 1 1 Tryd.underlying49 hi hz0 hz1 hz2 rfl (by decide) _ _ _ rfl ((r.alloc _).row) ⟨wr.heap.size, 0, none⟩ 1 1 (cellsOf [c]) rfl rfl (one_cell _ _ _) (cellsOf_one _) (by have := HCL.out; unfold maxLen; omega) (by have := HCL.out; omega) (by simp; omega) ?_)
        intro v1 w1 hown1 hg1 _
        have r1 := (r.alloc _).grown hg1 (news := [c]) rfl hown1
        obtain ⟨a1, cap1, rfl⟩ := form_of_row hown1
        have R1 : Hid _ := r1
        clear hown1 hg1 r r1
        go_wp2_with fail
        go_roundw
        case rel => exact ⟨k + 1, j + 1, cur ++ [c], by omega, hj2, by go_num, HJ3.out, HC2.out, R1.out⟩
        case measure => simp [intOf]; omega
    · obtain rfl : k = t.size := by omega
      have HC2 : Hid (cur = t.data.toList) := by rw [Hid, HC.out, List.take_of_length_le (by rw [HTS.out]; exact Nat.le_refl _)]
      have HJ2 : Hid (j = (2 :: esc t.data.toList).length) := by
        rw [Hid, HJ.out, List.take_of_length_le (by rw [HTS.out]; exact Nat.le_refl _)]; simp; omega
      have HSP : Hid (S.data.toList = (2 :: esc t.data.toList) ++ (0 :: R)) := by rw [Hid, HS.out]; rfl
      have hb0 : S.data.toList[j]? = some 0 := by
        have := at_behind HSP.out HJ2.out 0
        rw [Nat.add_zero] at this
        rw [this]; rfl
      obtain ⟨_, hcS⟩ := byte_at hb0
      have HLj : Hid (((j : Int) + 1) = (L : Int)) := by rw [Hid]; have h1 := HJ2.out; have h2 := HL.out; simp at h1; omega
      have hconv : (convert 49 9 (.slice a cur.length cap)).run Tryd.prog wr = .ok (.string t) wr := by
        have := conv_row r.row
        rw [show (⟨cur.toArray⟩ : ByteArray) = t from bytes_ext' HC2.out] at this
        exact this
      have f0 : wr.frozen? ⟨w.heap.size, 0, none⟩ = false := free_of_block r.box 0
      have f1 : wr.frozen? ⟨w.heap.size, 1, none⟩ = false := free_of_block r.box 1
      have f2 : wr.frozen? ⟨w.heap.size, 2, none⟩ = false := free_of_block r.box 2
      have b0 : wr.cell? ⟨w.heap.size, 0, none⟩ = some (.string ⟨#[]⟩) := r.cell (j := 0) rfl
      have b1 : wr.cell? ⟨w.heap.size, 1, none⟩ = some (.int .u64 0) := r.cell (j := 1) rfl
      have b2 : wr.cell? ⟨w.heap.size, 2, none⟩ = some (.bool false) := r.cell (j := 2) rfl
      have HB : Hid _ := r.bel
      clear hb0
      by_cases hend : j + 1 = S.size
      · have he : ((j : Int) + 1 == (S.size : Int)) = true := by simp; omega
        go_wp2_with fail
        (try simp only [Exit.inBlock, Exit.then])
        refine bodyPost_ret (v := .tuple #[.agg #[.string t, .int .u64 0, .bool false], .int .i64 ((j : Int) + 1), .int .i64 0]) ?_ rfl ⟨by rw [HLj.out], ?_⟩
        · rw [results_cell_tmp2 rfl]
          go_simp
        · exact ((HB.out.setCell (p := ⟨w.heap.size, 0, none⟩) (Nat.le_refl _) _).setCell (p := ⟨w.heap.size, 1, none⟩) (Nat.le_refl _) _).setCell (p := ⟨w.heap.size, 2, none⟩) (Nat.le_refl _) _
      · have he : ((j : Int) + 1 == (S.size : Int)) = false := by simp; omega
        obtain ⟨d, hd⟩ : ∃ d, R.head? = some d := by
          cases hr : R with
          | nil =>
            have h1 := congrArg List.length HSP.out
            rw [HSS.out, List.length_append, ← HJ2.out, hr] at h1
            simp at h1
            omega
          | cons d l => exact ⟨d, rfl⟩
        have hb1 : S.data.toList[j + 1]? = some d := by
          rw [at_behind HSP.out HJ2.out 1, List.getElem?_cons_succ, ← List.head?_eq_getElem?, hd]
        obtain ⟨hj1, hc1⟩ := byte_at hb1
        have hd2 : ((d.toNat : Int) == 255) = false := by
          rw [beq_eq_false_iff_ne]
          intro e
          refine HR.out ?_
          rw [hd]
          congr 1
          exact UInt8.toNat_inj.1 (by simp; omega)
        clear hb1 hd
        go_wp2_with fail
        (try simp only [Exit.inBlock, Exit.then])
        refine bodyPost_ret (v := .tuple #[.agg #[.string t, .int .u64 0, .bool false], .int .i64 ((j : Int) + 1), .int .i64 0]) ?_ rfl ⟨by rw [HLj.out], ?_⟩
        · rw [results_cell_tmp2 rfl]
          go_simp
        · exact ((HB.out.setCell (p := ⟨w.heap.size, 0, none⟩) (Nat.le_refl _) _).setCell (p := ⟨w.heap.size, 1, none⟩) (Nat.le_refl _) _).setCell (p := ⟨w.heap.size, 2, none⟩) (Nat.le_refl _) _
end Go.Proofs.YtkebddjndljodaaDoor
