/-
  The contract of the twin's length.
-/
import Derived.Test.YthhhoppmbimeiaaDoorLineR
import Derived.Test.YthhhoppmbimeiaaDoorRDigits
namespace Go.Proofs.YthhhoppmbimeiaaDoor
open Go.RowKit
def nmLen : ByteArray := ⟨#[99, 111, 110, 116, 101, 110, 116, 45, 108, 101, 110, 103, 116, 104]⟩
/-- What the first of these texts says of a body's size. -/
def lenT : List ByteArray → Int × Int
  | [] => (0, 0)
  | v :: _ => bodyR v
def lenR (fs : List Fd) : Int × Int := lenT (allF nmLen fs)
theorem digN_all {s : ByteArray} : ∀ {k : Nat}, allN isDig s k = true → ∃ n, digN s k = some n
  | 0, _ => ⟨0, rfl⟩
  | k + 1, h => by
    rw [allN, Bool.and_eq_true] at h
    obtain ⟨n, hn⟩ := digN_all h.1
    exact ⟨_, by rw [digN_step hn, if_pos h.2]⟩
theorem num_short {s : ByteArray} (h : (digR s 8192).2 = 150) (hs : s.size ≤ 18) : numR s = false := by
  cases hq : numR s with
  | false => rfl
  | true =>
    unfold numR at hq
    rw [Bool.and_eq_true, decide_eq_true_eq] at hq
    obtain ⟨h1, h2, h3⟩ := hq
    obtain ⟨n, hn⟩ := digN_all h1
    have hb : digBad s = false := by unfold digBad; rw [decide_eq_false_iff_not]; omega
    rw [digR_good hb, hn] at h
    simp only at h
    split at h <;> simp at h
theorem body_150 {s : ByteArray} (h : (digR s 8192).2 = 150) : bodyR s = if numR s = true then (0, 171) else (0, 170) := by
  unfold bodyR
  rw [if_neg (by omega), h]
  simp
set_option maxRecDepth 20000 in
set_option maxHeartbeats 8000000 in
theorem rlength_any (r : Rq) (B : Nat) (w : World) (h : FA B w r.a r.fs) (hB : B ≤ w.heap.size) (hr : rqOk r) :
    Calls Tryd.prog 26 #[rqV r] w fun e w' => e = .returned (.tuple #[.int .i64 (lenR r.fs).1, .int .i64 (lenR r.fs).2]) ∧ Below w.heap.size w w' := by
  have H : Hid (∀ W : World, FA B W r.a r.fs → B ≤ W.heap.size → _) := fun W h1 h2 => rall_any r B nmLen W h1 h2 hr (by decide)
  have HF : Hid _ := h
  have HO : Hid (∀ v ∈ allF nmLen r.fs, v.size ≤ 140737488355328) := fun v hv => by
    obtain ⟨c, hc, rfl⟩ := allF_mem hv
    exact (hr.2 c hc).2
  have HT : Hid (lenR r.fs = lenT (allF nmLen r.fs)) := rfl
  obtain ⟨T, hT⟩ : ∃ T, lenR r.fs = T := ⟨_, rfl⟩
  rw [hT] at HT ⊢
  clear hT
  obtain ⟨L, hL⟩ : ∃ L, allF nmLen r.fs = L := ⟨_, rfl⟩
  rw [hL] at H HO HT
  clear hL h hr
  obtain ⟨met, tar, a, c, fs, body, shut⟩ := r
  simp only [rqV] at *
  obtain ⟨n, hn⟩ : ∃ n, fs.length = n := ⟨_, rfl⟩
  rw [hn] at H ⊢
  clear hn
  rw [show nmLen = (⟨#[99, 111, 110, 116, 101, 110, 116, 45, 108, 101, 110, 103, 116, 104]⟩ : ByteArray) from rfl] at H
  obtain ⟨W0, hW0⟩ : ∃ W0, w.alloc (.cells #[.string met, .string tar, .slice a n c, .string body, .bool shut] 24) = W0 := ⟨_, rfl⟩
  have HZ : Hid (W0.heap.size = w.heap.size + 1) := by rw [Hid, ← hW0]; simp
  have HB0 : Hid (Below w.heap.size w W0) := by rw [Hid, ← hW0]; exact (Below.refl _ _).alloc (Nat.le_refl _) _
  have HF0 : Hid (FA B W0 a fs) := FA.below HF.out (fun b hb => HB0.out.block b (by omega))
  have hx := block_alloc_at w (.cells #[.string met, .string tar, .slice a n c, .string body, .bool shut] 24)
  rw [hW0] at hx
  have c0 : W0.cell? ⟨w.heap.size, 0, none⟩ = some (.string met) := cell_of_block hx rfl
  have c1 : W0.cell? ⟨w.heap.size, 1, none⟩ = some (.string tar) := cell_of_block hx rfl
  have c2 : W0.cell? ⟨w.heap.size, 2, none⟩ = some (.slice a n c) := cell_of_block hx rfl
  have c3 : W0.cell? ⟨w.heap.size, 3, none⟩ = some (.string body) := cell_of_block hx rfl
  have c4 : W0.cell? ⟨w.heap.size, 4, none⟩ = some (.bool shut) := cell_of_block hx rfl
  clear hx
  go_enter Tryd.func26, Tryd.ntmps26
  go_wp2_with fail
  try rw [hW0]
  clear hW0
  refine (H.out _ HF0.out (by have := HZ.out; omega)).mono ?_
  rintro e w1 ⟨a2, cc, rfl, ho, b1⟩
  have HB1 : Hid (Below w.heap.size w w1) := HB0.out.trans (b1.mono (by have := HZ.out; omega))
  clear b1 c0 c1 c2 c3 c4 H
  cases L with
  | nil =>
    clear ho
    go_wp2_with fail
    go_ret2
    exact ⟨by rw [HT.out]; rfl, HB1.out⟩
  | cons s L =>
    have hs : s.size ≤ 140737488355328 := HO.out s (List.mem_cons_self ..)
    obtain ⟨g, rfl, _, _, hc⟩ := owns_str ho (j := 0) (x := s) rfl
    have HT2 : Hid (T = bodyR s) := HT.out
    simp only [List.length_cons]
    obtain ⟨m, hm⟩ : ∃ m, L.length = m := ⟨_, rfl⟩
    rw [hm]
    have q0 : ((((m + 1 : Nat) : Int)) == 0) = false := by simp; omega
    have q1 : (((m : Int) + 1) == 0) = false := by simp; omega
    have H1 : Hid (∀ W : World, _) := fun W => rdigits_any s 8192 hs W
    clear ho hm HO HT
    rcases digR_cut s 8192 with hd | hd | hd
    · have HR : Hid (T = ((digR s 8192).1, 0)) := by rw [Hid, HT2.out]; unfold bodyR; rw [if_pos hd]
      rw [hd] at H1
      obtain ⟨d, hdd⟩ : ∃ d, (digR s 8192).1 = d := ⟨_, rfl⟩
      rw [hdd] at H1 HR
      clear hd hdd
      go_wp2_with (go_at_call 47; refine (H1.out _).mono ?_; rintro e w' ⟨rfl, rfl⟩)
      go_ret2
      exact ⟨by rw [HR.out]; rfl, HB1.out⟩
    · have HR : Hid (T = (0, 171)) := by rw [Hid, HT2.out]; unfold bodyR; rw [if_neg (by omega), if_pos (Or.inl hd)]
      rw [hd] at H1
      obtain ⟨d, hdd⟩ : ∃ d, (digR s 8192).1 = d := ⟨_, rfl⟩
      rw [hdd] at H1
      clear hd hdd
      go_wp2_with (go_at_call 47; refine (H1.out _).mono ?_; rintro e w' ⟨rfl, rfl⟩)
      go_ret2
      exact ⟨by rw [HR.out]; rfl, HB1.out⟩
    · have HR : Hid (T = if numR s = true then (0, 171) else (0, 170)) := by rw [Hid, HT2.out]; exact body_150 hd
      have HSH : Hid (s.size ≤ 18 → numR s = false) := fun h => num_short hd h
      rw [hd] at H1
      obtain ⟨d, hdd⟩ : ∃ d, (digR s 8192).1 = d := ⟨_, rfl⟩
      rw [hdd] at H1
      clear hd hdd
      by_cases h18 : s.size ≤ 18
      · have z0 : (s.size : Int) ≤ 18 := by omega
        have HR2 : Hid (T = (0, 170)) := by rw [Hid, HR.out, if_neg (by rw [HSH.out h18]; decide)]
        go_wp2_with (go_at_call 47; refine (H1.out _).mono ?_; rintro e w' ⟨rfl, rfl⟩)
        go_ret2
        exact ⟨by rw [HR2.out]; rfl, HB1.out⟩
      · have z0 : ¬ (s.size : Int) ≤ 18 := by omega
        have r1 := fun W => run_byte s (i := 0) (z := 0) rfl (by omega) W
        by_cases h48 : byteAt s 0 = 48
        · have HR2 : Hid (T = (0, 170)) := by rw [Hid, HR.out, if_neg (by unfold numR; rw [decide_eq_false (by omega), Bool.and_false]; decide)]
          rw [h48] at r1
          go_wp2_with (go_at_call 47; refine (H1.out _).mono ?_; rintro e w' ⟨rfl, rfl⟩)
          go_ret2
          exact ⟨by rw [HR2.out]; rfl, HB1.out⟩
        · have HR2 : Hid (T = if allN isDig s s.size = true then (0, 171) else (0, 170)) := by
            rw [Hid, HR.out]
            unfold numR
            rw [decide_eq_true ⟨by omega, h48⟩, Bool.and_true]
          obtain ⟨y, hy⟩ : ∃ y, byteAt s 0 = y := ⟨_, rfl⟩
          rw [hy] at r1 h48
          have q2 : ((y : Int) == 48) = false := by simp; omega
          clear hy h48 HR HSH
          go_wp2_with (go_at_call 47; refine (H1.out _).mono ?_; rintro e w' ⟨rfl, hw⟩; obtain rfl := hw.symm)
          clear r1
          go_loopw [8] (fun i wr => ∃ k : Nat, k ≤ s.size ∧ i = .int .i64 k ∧ Hid (allN isDig s k = true) ∧ wr = w1) (fun i _ => s.size - (intOf i).toNat)
          case atStart => exact ⟨0, by omega, rfl, rfl, rfl⟩
          case round =>
            obtain ⟨k, hk, rfl, HN, rfl⟩ := hrel
            by_cases hlt : k < s.size
            · have r0 := fun W => run_byte s (i := k) (z := (k : Int)) rfl hlt W
              have hnx : allN isDig s (k + 1) = isDig (byteAt s k) := by rw [allN, HN.out, Bool.true_and]
              obtain ⟨x, hx⟩ : ∃ x, byteAt s k = x := ⟨_, rfl⟩
              rw [hx] at r0 hnx
              clear hx
              rcases (by omega : (x < 48) ∨ (48 ≤ x ∧ x ≤ 57) ∨ (57 < x)) with g | g | g
              · rw [show isDig x = false by simp [isDig]; omega] at hnx
                have HV : Hid (T = (0, 170)) := by rw [Hid, HR2.out, allN_false hnx (by omega), if_neg (by decide)]
                have p0 : (x : Int) < 48 := by omega
                clear g hnx
                go_wp2_with fail
                go_ret2
                exact ⟨by rw [HV.out]; rfl, HB1.out⟩
              · rw [show isDig x = true by simp [isDig]; omega] at hnx
                have HV : Hid _ := hnx
                have p0 : ¬ (x : Int) < 48 := by omega
                have p1 : ¬ (57 : Int) < (x : Int) := by omega
                clear g hnx
                go_wp2_with fail
                go_roundw
                case rel => exact ⟨k + 1, by omega, by go_num, HV.out, by first | rfl | trivial⟩
                case measure => simp [intOf]; omega
              · rw [show isDig x = false by simp [isDig]; omega] at hnx
                have HV : Hid (T = (0, 170)) := by rw [Hid, HR2.out, allN_false hnx (by omega), if_neg (by decide)]
                have p0 : ¬ (x : Int) < 48 := by omega
                have p1 : (x : Int) > 57 := by omega
                clear g hnx
                go_wp2_with fail
                go_ret2
                exact ⟨by rw [HV.out]; rfl, HB1.out⟩
            · obtain rfl : k = s.size := by omega
              have HV : Hid (T = (0, 171)) := by rw [Hid, HR2.out, HN.out, if_pos rfl]
              go_wp2_with fail
              go_ret2
              exact ⟨by rw [HV.out]; rfl, HB1.out⟩
end Go.Proofs.YthhhoppmbimeiaaDoor
