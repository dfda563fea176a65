/-
  The contract of ParseSet.
-/
import Derived.Test.YtimabpfahhbadaaDoorRst
import Derived.Test.YtimabpfahhbadaaDoorStw
namespace Go.Proofs.YtimabpfahhbadaaDoor
open Go.RowKit
theorem takeK_z {N : Nat} {c : Ck} (h : ckZ N c) {x : ByteArray} (hx : x.size ≤ N) (k : Nat) : ckZ N (takeK c x k) := by
  obtain ⟨h0, h1, h2, h3⟩ := h
  match k with
  | 0 => exact ⟨h0, h1, hx, h3⟩
  | 1 => exact ⟨h0, h1, h2, h3⟩
  | 2 => exact ⟨h0, h1, h2, h3⟩
  | 3 => exact ⟨h0, h1, h2, h3⟩
  | n + 4 => exact ⟨h0, h1, h2, hx⟩
theorem rdS_z {N : Nat} {c : Ck} {r : List ByteArray} (hc : ckZ N c) (hr : ∀ t ∈ r, t.size ≤ N) : ∀ k, ckZ N (rdS k c r).1 ∧ ∀ t ∈ (rdS k c r).2, t.size ≤ N
  | 0 => ⟨hc, hr⟩
  | k + 1 => by
    obtain ⟨h1, h2⟩ := rdS_z hc hr k
    rw [rdS]
    cases hq : (rdS k c r).2 with
    | nil => exact ⟨h1, fun t ht => by cases ht⟩
    | cons t q =>
      rw [hq] at h2
      rw [stepS]
      split
      · exact ⟨takeK_z h1 (Nat.le_trans (cutW_size _ _) (h2 t (List.mem_cons_self ..))) k, fun x hx => h2 x (List.mem_cons_of_mem _ hx)⟩
      · exact ⟨h1, h2⟩
theorem ck0_z {N : Nat} {n v : ByteArray} (h0 : n.size ≤ N) (h1 : v.size ≤ N) : ckZ N (ck0 n v) := ⟨h0, h1, Nat.zero_le _, Nat.zero_le _⟩
theorem rsR_z {N : Nat} {ts : List ByteArray} (h : ∀ t ∈ ts, t.size ≤ N) : ckZ N (rsR ts) := by
  cases ts with
  | nil => exact ck0_z (Nat.zero_le _) (Nat.zero_le _)
  | cons t r =>
    have h0 := h t (List.mem_cons_self ..)
    have h1 := rdP_size t
    exact (rdS_z (ck0_z (by omega) (by omega)) (fun x hx => h x (List.mem_cons_of_mem _ hx)) 5).1
set_option maxRecDepth 20000 in
set_option maxHeartbeats 16000000 in
theorem parseSet_any (v : ByteArray) (hs : v.size ≤ 1000000000) (m : Int) (w : World) (hm : w.cell? ⟨0, 0, none⟩ = some (.int .i64 m)) (ht : TabP w) :
    Calls Tryd.prog 18 #[.string v] w fun e w' => e = .returned (.tuple #[ckV (psR v).1, .int .i64 (psR v).2]) ∧ Below w.heap.size w w' := by
  have HM : Hid (∀ W, Below w.heap.size w W → W.cell? ⟨0, 0, none⟩ = some (.int .i64 m)) := fun W b => mx_below hm b
  have HTB : Hid (∀ W, Below w.heap.size w W → TabP W) := fun W b => tab_below ht b
  have hpz : ∀ t ∈ parts v, t.size ≤ 1000000000 := split_sizes smb _ v _ hs
  have hlen : (parts v).length ≤ 1000000001 := by
    have h1 := parts_len (sep := smb) (by decide) v
    have h2 := Lib.countB_le smb (by decide) v.size v (Nat.le_refl _)
    rw [show partsOf smb v = parts v from rfl] at h1
    omega
  have H1 : Hid (∀ W, Below w.heap.size w W → _) := fun W b => split_any smb v (by decide) (by omega) m W (HM.out W b)
  have HCZ := rsR_z hpz
  have HG : Hid (setR (rsR (parts v)) = (v, 0) → psR v = (rsR (parts v), 0)) := psR_good
  have HF : Hid (¬ setR (rsR (parts v)) = (v, 0) → psR v = (ckN, 190)) := psR_bad
  have hcut := setR_cut (rsR (parts v))
  rw [show partsOf smb v = parts v from rfl, show smb = (⟨#[59, 32]⟩ : ByteArray) from rfl] at H1
  obtain ⟨t0, r0, hp⟩ := parts_ne v
  rw [hp] at H1 hpz HCZ HG HF hcut hlen
  rw [List.length_cons] at hlen
  have H2 : Hid (∀ (gT : Nat) (W : World), W.heap[gT]? = some (.cells (strV (t0 :: r0)).toArray 9 (0, 0)) → Below w.heap.size w W → _) := fun gT W h1 b => readSet_any t0 r0 gT r0.length m W h1 rfl (by omega) hpz (HM.out W b)
  rw [List.length_cons] at H1
  obtain ⟨n, hn⟩ : ∃ n, r0.length = n := ⟨_, rfl⟩
  rw [hn] at H1 H2
  obtain ⟨C, hC⟩ : ∃ C, rsR (t0 :: r0) = C := ⟨_, rfl⟩
  rw [hC] at H2 HCZ HG HF hcut
  have H3 : Hid (∀ W, Below w.heap.size w W → _) := fun W b => set_any C HCZ W (fun _ => HTB.out W b)
  obtain ⟨R, hR⟩ : ∃ R, setR C = R := ⟨_, rfl⟩
  rw [hR] at H3 HG HF hcut
  obtain ⟨T, hT⟩ : ∃ T, psR v = T := ⟨_, rfl⟩
  rw [hT] at HG HF ⊢
  clear hp hn hC hR hT hm ht hpz HCZ
  obtain ⟨W0, hW0⟩ : ∃ W0, w.alloc (.cells (ckA ckN) 37) = W0 := ⟨_, rfl⟩
  have HB0 : Hid (Below w.heap.size w W0) := by rw [Hid, ← hW0]; exact (Below.refl _ _).alloc (Nat.le_refl _) _
  have HX0 : Hid (CkB W0 w.heap.size ckN) := by rw [Hid, ← hW0]; exact block_alloc_at _ _
  obtain ⟨W1, hW1⟩ : ∃ W1, W0.alloc (.cells (strV (t0 :: r0)).toArray 9) = W1 := ⟨_, rfl⟩
  have HB1 : Hid (Below w.heap.size w W1) := by rw [Hid, ← hW1]; exact HB0.out.alloc HB0.out.size _
  have HX1 : Hid (CkB W1 w.heap.size ckN) := by rw [Hid, ← hW1]; exact HX0.out.alloc _
  have HT1 : Hid (W1.heap[W0.heap.size]? = some (.cells (strV (t0 :: r0)).toArray 9 (0, 0))) := by rw [Hid, ← hW1]; exact block_alloc_at _ _
  unfold ckA ckN ck0 at hW0
  simp only at hW0
  go_enter Tryd.func18, Tryd.ntmps18
  go_wp2_with fail
  try rw [hW0]
  refine (H1.out _ HB0.out).mono ?_
  rintro e w1 ⟨rfl, hw1⟩
  rw [hW1] at hw1
  rw [hw1]
  clear hw1 w1
  go_wp2_with fail
  refine (H2.out _ _ HT1.out HB1.out).mono ?_
  rintro e w2 ⟨rfl, b2⟩
  have HB2 : Hid (Below w.heap.size w w2) := HB1.out.trans (b2.mono HB1.out.size)
  have HX2 : Hid (CkB w2 w.heap.size ckN) := HX1.out.below b2
  obtain ⟨W3, hW3⟩ : ∃ W3, w2.alloc (.cells (ckA C) 37) = W3 := ⟨_, rfl⟩
  have HB3 : Hid (Below w.heap.size w W3) := by rw [Hid, ← hW3]; exact HB2.out.alloc HB2.out.size _
  have HX3 : Hid (CkB W3 w.heap.size ckN) := by rw [Hid, ← hW3]; exact HX2.out.alloc _
  have HC3 : Hid (CkB W3 w2.heap.size C) := by rw [Hid, ← hW3]; exact block_alloc_at _ _
  obtain ⟨c0, c1, c2, c3, c4, c5, c6, c7⟩ := ck_cells HC3.out
  have HWW : Hid (w2.alloc (.cells #[.string C.name, .string C.value, .string C.path, .int .i64 C.age, .bool C.has, .bool C.http, .bool C.sec, .string C.same] 37) = W3) := hW3
  simp only [ckV] at H3 ⊢
  clear hW0 hW1 hW3 b2 H1 H2
  go_wp2_with fail
  try rw [HWW.out]
  go_wp2_with fail
  refine (H3.out _ HB3.out).mono ?_
  rintro e w4 ⟨rfl, b4⟩
  have HB4 : Hid (Below w.heap.size w w4) := HB3.out.trans (b4.mono HB3.out.size)
  have HX4 : Hid (CkB w4 w.heap.size ckN) := HX3.out.below b4
  have HC4 : Hid (CkB w4 w2.heap.size C) := HC3.out.below b4
  clear b4 c0 c1 c2 c3 c4 c5 c6 c7 HWW H3
  obtain ⟨rs, re⟩ := R
  simp only at hcut
  rcases hcut with h0 | h0
  · subst h0
    by_cases hv : rs = v
    · have HRR : Hid (T = (C, 0)) := HG.out (by rw [hv])
      have hne := toList_eq' hv
      clear hv HG HF
      obtain ⟨c0, c1, c2, c3, c4, c5, c6, c7⟩ := ck_cells HC4.out
      obtain ⟨k0, k1, k2, k3, k4, k5, k6, k7⟩ := ck_cells HX4.out
      have f0 := CkB.free HX4.out 0
      have f1 := CkB.free HX4.out 1
      have f2 := CkB.free HX4.out 2
      have f3 := CkB.free HX4.out 3
      have f4 := CkB.free HX4.out 4
      have f5 := CkB.free HX4.out 5
      have f6 := CkB.free HX4.out 6
      have f7 := CkB.free HX4.out 7
      simp only [ckN, ck0] at k0 k1 k2 k3 k4 k5 k6 k7
      obtain ⟨W9, hW9⟩ : ∃ W9, set8 w4 w.heap.size C = W9 := ⟨_, rfl⟩
      have HX9 : CkB W9 w.heap.size C := by rw [← hW9]; exact set8_box HX4.out C
      have HB9 : Hid (Below w.heap.size w W9) := by rw [Hid, ← hW9]; exact set8_below HB4.out (Nat.le_refl _) C
      obtain ⟨x0, x1, x2, x3, x4, x5, x6, x7⟩ := ck_cells HX9
      unfold set8 at hW9
      have HW9 : Hid _ := hW9
      clear HX9 hW9
      go_wp2_with fail
      rw [HW9.out]
      refine bodyPost_ret (v := .tuple #[.agg #[.string C.name, .string C.value, .string C.path, .int .i64 C.age, .bool C.has, .bool C.http, .bool C.sec, .string C.same], .int .i64 0]) ?_ rfl ⟨by rw [HRR.out]; rfl, HB9.out⟩
      rw [results_cell_tmp rfl]
      go_simp
    · have HRR : Hid (T = (ckN, 190)) := HF.out (fun e => hv (congrArg Prod.fst e))
      have hne := toList_ne hv
      clear hv HG HF
      obtain ⟨k0, k1, k2, k3, k4, k5, k6, k7⟩ := ck_cells HX4.out
      have f0 := CkB.free HX4.out 0
      have f1 := CkB.free HX4.out 1
      have f2 := CkB.free HX4.out 2
      have f3 := CkB.free HX4.out 3
      have f4 := CkB.free HX4.out 4
      have f5 := CkB.free HX4.out 5
      have f6 := CkB.free HX4.out 6
      have f7 := CkB.free HX4.out 7
      simp only [ckN, ck0] at k0 k1 k2 k3 k4 k5 k6 k7
      obtain ⟨W9, hW9⟩ : ∃ W9, set8 w4 w.heap.size ckN = W9 := ⟨_, rfl⟩
      have HX9 : CkB W9 w.heap.size ckN := by rw [← hW9]; exact set8_box HX4.out ckN
      have HB9 : Hid (Below w.heap.size w W9) := by rw [Hid, ← hW9]; exact set8_below HB4.out (Nat.le_refl _) ckN
      obtain ⟨x0, x1, x2, x3, x4, x5, x6, x7⟩ := ck_cells HX9
      unfold set8 at hW9
      simp only [ckN, ck0] at hW9 x0 x1 x2 x3 x4 x5 x6 x7
      have HW9 : Hid _ := hW9
      clear HX9 hW9
      go_wp2_with fail
      rw [HW9.out]
      refine bodyPost_ret (v := .tuple #[.agg #[.string ⟨#[]⟩, .string ⟨#[]⟩, .string ⟨#[]⟩, .int .i64 0, .bool false, .bool false, .bool false, .string ⟨#[]⟩], .int .i64 190]) ?_ rfl ⟨by rw [HRR.out]; rfl, HB9.out⟩
      rw [results_cell_tmp rfl]
      go_simp
      try rfl
  · obtain ⟨rfl, rfl⟩ : rs = ⟨#[]⟩ ∧ re = 190 := by cases h0; exact ⟨rfl, rfl⟩
    have HRR : Hid (T = (ckN, 190)) := HF.out (fun e => by have := congrArg Prod.snd e; cases this)
    clear h0 HG HF
    obtain ⟨k0, k1, k2, k3, k4, k5, k6, k7⟩ := ck_cells HX4.out
    have f0 := CkB.free HX4.out 0
    have f1 := CkB.free HX4.out 1
    have f2 := CkB.free HX4.out 2
    have f3 := CkB.free HX4.out 3
    have f4 := CkB.free HX4.out 4
    have f5 := CkB.free HX4.out 5
    have f6 := CkB.free HX4.out 6
    have f7 := CkB.free HX4.out 7
    simp only [ckN, ck0] at k0 k1 k2 k3 k4 k5 k6 k7
    obtain ⟨W9, hW9⟩ : ∃ W9, set8 w4 w.heap.size ckN = W9 := ⟨_, rfl⟩
    have HX9 : CkB W9 w.heap.size ckN := by rw [← hW9]; exact set8_box HX4.out ckN
    have HB9 : Hid (Below w.heap.size w W9) := by rw [Hid, ← hW9]; exact set8_below HB4.out (Nat.le_refl _) ckN
    obtain ⟨x0, x1, x2, x3, x4, x5, x6, x7⟩ := ck_cells HX9
    unfold set8 at hW9
    simp only [ckN, ck0] at hW9 x0 x1 x2 x3 x4 x5 x6 x7
    have HW9 : Hid _ := hW9
    clear HX9 hW9
    go_wp2_with fail
    rw [HW9.out]
    refine bodyPost_ret (v := .tuple #[.agg #[.string ⟨#[]⟩, .string ⟨#[]⟩, .string ⟨#[]⟩, .int .i64 0, .bool false, .bool false, .bool false, .string ⟨#[]⟩], .int .i64 190]) ?_ rfl ⟨by rw [HRR.out]; rfl, HB9.out⟩
    rw [results_cell_tmp rfl]
    go_simp
    try rfl
end Go.Proofs.YtimabpfahhbadaaDoor
