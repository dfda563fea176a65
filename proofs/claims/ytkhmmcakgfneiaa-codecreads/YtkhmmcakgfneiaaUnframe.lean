/-
  The contracts of codec.Unframe and of its twin: both answer what 'unf' says of the text.
-/
import Derived.Test.YtkhmmcakgfneiaaCut
namespace Go.Proofs.Ytkhmmcakgfneiaa
open Go.RowKit
/-- A text's third and fourth byte, the number behind them, the number behind the body. -/
def fk (s : ByteArray) : Nat := beNat (s.extract 2 3).data.toList
def fz (s : ByteArray) : Nat := beNat (s.extract 3 4).data.toList
def fn (s : ByteArray) : Nat := beNat (s.extract 4 8).data.toList
def fsum (s : ByteArray) : Nat := beNat (s.extract (8 + fn s) (12 + fn s)).data.toList
def fcrc (s : ByteArray) : Nat := Cx.crc (s.extract 0 (8 + fn s)).data.toList
/-- What Unframe answers: the kind, the body, the size, the error. -/
def unf (s : ByteArray) : Nat × ByteArray × Nat × Int :=
  if s.size < 8 then (0, ByteArray.empty, 0, 20) else
  if ¬ (s.extract 0 2).toList = [68, 70] ∨ ¬ fz s = 0 ∨ 1048576 < fn s then (0, ByteArray.empty, 0, 21) else
  if s.size < 12 + fn s then (0, ByteArray.empty, 0, 20) else
  if ¬ fsum s = fcrc s then (0, ByteArray.empty, 0, 23) else (fk s, s.extract 8 (8 + fn s), 12 + fn s, 0)
theorem unf_short {s : ByteArray} (h : s.size < 8) : unf s = (0, ByteArray.empty, 0, 20) := by simp [unf, h]
theorem unf_form {s : ByteArray} (h : ¬ s.size < 8) (h' : ¬ (s.extract 0 2).toList = [68, 70] ∨ ¬ fz s = 0 ∨ 1048576 < fn s) : unf s = (0, ByteArray.empty, 0, 21) := by
  rw [unf, if_neg h, if_pos h']
theorem unf_cut {s : ByteArray} (h : ¬ s.size < 8) (h' : ¬ (¬ (s.extract 0 2).toList = [68, 70] ∨ ¬ fz s = 0 ∨ 1048576 < fn s)) (h3 : s.size < 12 + fn s) : unf s = (0, ByteArray.empty, 0, 20) := by
  rw [unf, if_neg h, if_neg h', if_pos h3]
theorem unf_sum {s : ByteArray} (h : ¬ s.size < 8) (h' : ¬ (¬ (s.extract 0 2).toList = [68, 70] ∨ ¬ fz s = 0 ∨ 1048576 < fn s)) (h3 : ¬ s.size < 12 + fn s) (h4 : ¬ fsum s = fcrc s) : unf s = (0, ByteArray.empty, 0, 23) := by
  rw [unf, if_neg h, if_neg h', if_neg h3, if_pos h4]
theorem unf_ok {s : ByteArray} (h : ¬ s.size < 8) (h' : ¬ (¬ (s.extract 0 2).toList = [68, 70] ∨ ¬ fz s = 0 ∨ 1048576 < fn s)) (h3 : ¬ s.size < 12 + fn s) (h4 : fsum s = fcrc s) : unf s = (fk s, s.extract 8 (8 + fn s), 12 + fn s, 0) := by
  rw [unf, if_neg h, if_neg h', if_neg h3, if_neg (by simpa using h4)]
theorem unf_eq {s : ByteArray} {k z k' z' : Nat} {b b' : ByteArray} {e e' : Int} (h : unf s = (k, b, z, e)) (h' : unf s = (k', b', z', e')) :
    Ending.returned (.tuple #[.int .u8 (k' : Int), .string b', .int .i64 (z' : Int), .int .i64 e']) = .returned (.tuple #[.int .u8 (k : Int), .string b, .int .i64 (z : Int), .int .i64 e]) := by
  rw [h] at h'
  simp only [Prod.mk.injEq] at h'
  obtain ⟨rfl, rfl, rfl, rfl⟩ := h'
  rfl
theorem unf_err {s : ByteArray} {k z : Nat} {b : ByteArray} {e f : Int} (h : unf s = (k, b, z, e)) (h' : unf s = (0, ByteArray.empty, 0, f)) :
    Ending.returned (.tuple #[.int .u8 0, .string ⟨#[]⟩, .int .i64 0, .int .i64 f]) = .returned (.tuple #[.int .u8 (k : Int), .string b, .int .i64 (z : Int), .int .i64 e]) := unf_eq h h'
theorem unf_done {s : ByteArray} {k z k' z' : Nat} {b b' : ByteArray} {e e' x : Int} (h : unf s = (k, b, z, e)) (h' : unf s = (k', b', z', e')) (hx : x = (z' : Int)) :
    Ending.returned (.tuple #[.int .u8 (k' : Int), .string b', .int .i64 x, .int .i64 e']) = .returned (.tuple #[.int .u8 (k : Int), .string b, .int .i64 (z : Int), .int .i64 e]) := by
  rw [hx]
  exact unf_eq h h'
theorem results_tmp4 {fn : Func} {t u v x : Tmp} (h : fn.results = #[.tmp t, .tmp u, .tmp v, .tmp x]) (tmps : Array Value) (P : Program) (w : World) :
    (results fn tmps).run P w = .ok (.tuple #[tmps.getD t undef, tmps.getD u undef, tmps.getD v undef, tmps.getD x undef]) w := by
  simp [results, h, go_sem]
theorem fn_lt {s : ByteArray} (h : ¬ s.size < 8) : fn s < 4294967296 := beNat4_lt (by omega) rfl
theorem fk_lt {s : ByteArray} (h : ¬ s.size < 8) : fk s < 256 := by
  unfold fk
  rw [ext_one (a := 2) (by omega), beNat_one]
  exact s[2].toNat_lt

set_option maxHeartbeats 1000000 in
theorem unframe_any (s : ByteArray) (w : World) (hs : s.size ≤ maxLen) :
    Calls Try.prog 23 #[.string s] w fun r w' => r = .returned (.tuple #[.int .u8 ((unf s).1 : Nat), .string (unf s).2.1, .int .i64 ((unf s).2.2.1 : Nat), .int .i64 (unf s).2.2.2]) ∧ Below w.heap.size w w' := by
  obtain ⟨k, b, z, e0, hu⟩ : ∃ k b z e, unf s = (k, b, z, e) := ⟨_, _, _, _, rfl⟩
  rw [hu]
  have HU : Hid _ := hu
  clear hu
  by_cases h8 : s.size < 8
  · have HF : Hid _ := unf_short h8
    go_enter Try.func23, Try.ntmps23
    go_wp2
    refine bodyPost_ret (results_tmp4 rfl _ _ _) rfl ?_
    exact ⟨unf_err HU.out HF.out, Below.refl _ _⟩
  have hfn := fn_lt h8
  have HZ : Hid (s.size ≤ maxLen) := hs
  unfold maxLen at hs
  go_enter Try.func23, Try.ntmps23
  go_wp2_with fail
  refine (newReader_any s _).mono ?_
  rintro e w1 ⟨rfl, h1, k1⟩
  rw [← ext_all s] at h1
  go_wp2_with fail
  refine (raw_any _ _ _ 2 _ h1 (by rw [ext_all]; exact HZ.out) (by decide)).mono ?_
  rintro e w2 ⟨rfl, h2, k2⟩
  rw [show rRaw (s.extract 0 s.size) 0 2 = rTake (s.extract 0 s.size) 0 2 from rfl, rTake_from (by omega)] at h2 ⊢
  go_wp2_with fail
  refine (u8_any _ _ _ _ h2 (Nat.le_trans (ext_le _ _ _) HZ.out)).mono ?_
  rintro e w3 ⟨rfl, h3, k3⟩
  rw [rTake_from (by omega)] at h3 ⊢
  rw [show beNat (s.extract (0 + 2) (0 + 2 + 1), s.extract (0 + 2 + 1) s.size, (0 : Int)).1.data.toList = fk s from rfl]
  go_wp2_with fail
  refine (u8_any _ _ _ _ h3 (Nat.le_trans (ext_le _ _ _) HZ.out)).mono ?_
  rintro e w4 ⟨rfl, h4, k4⟩
  rw [rTake_from (by omega)] at h4 ⊢
  rw [show beNat (s.extract (0 + 2 + 1) (0 + 2 + 1 + 1), s.extract (0 + 2 + 1 + 1) s.size, (0 : Int)).1.data.toList = fz s from rfl]
  go_wp2_with fail
  refine (u32_any _ _ _ _ h4 (Nat.le_trans (ext_le _ _ _) HZ.out)).mono ?_
  rintro e w5 ⟨rfl, h5, k5⟩
  rw [rTake_from (by omega)] at h5 ⊢
  rw [show beNat (s.extract (0 + 2 + 1 + 1) (0 + 2 + 1 + 1 + 4), s.extract (0 + 2 + 1 + 1 + 4) s.size, (0 : Int)).1.data.toList = fn s from rfl]
  have B1 := k1.below (Nat.le_refl _) (fun _ f => f.elim)
  have B5 : Below w.heap.size w w5 := B1.trans ((k2.below k1.size (by rintro k rfl; exact Nat.le_refl _)).trans ((k3.below (Nat.le_trans k1.size k2.size) (by rintro k rfl; exact Nat.le_refl _)).trans
    ((k4.below (Nat.le_trans k1.size (Nat.le_trans k2.size k3.size)) (by rintro k rfl; exact Nat.le_refl _)).trans (k5.below (Nat.le_trans k1.size (Nat.le_trans k2.size (Nat.le_trans k3.size k4.size))) (by rintro k rfl; exact Nat.le_refl _)))))
  clear h1 h2 h3 h4 k1 k2 k3 k4 k5 B1
  by_cases hm : ¬ (s.extract 0 2).toList = [68, 70]
  · have HF : Hid _ := unf_form h8 (Or.inl hm)
    go_wp2_with fail
    refine bodyPost_ret (results_tmp4 rfl _ _ _) rfl ?_
    exact ⟨unf_err HU.out HF.out, B5⟩
  replace hm : (s.extract 0 2).toList = [68, 70] := by simpa using hm
  by_cases hz : ¬ fz s = 0
  · have HF : Hid _ := unf_form h8 (Or.inr (Or.inl hz))
    have hz' : ((fz s : Int) != 0) = true := by simpa using hz
    go_wp2_with fail
    refine bodyPost_ret (results_tmp4 rfl _ _ _) rfl ?_
    exact ⟨unf_err HU.out HF.out, B5⟩
  replace hz : fz s = 0 := by simpa using hz
  by_cases hn : 1048576 < fn s
  · have HF : Hid _ := unf_form h8 (Or.inr (Or.inr hn))
    go_wp2_with fail
    refine bodyPost_ret (results_tmp4 rfl _ _ _) rfl ?_
    exact ⟨unf_err HU.out HF.out, B5⟩
  have HC : Hid (¬ (¬ (s.extract 0 2).toList = [68, 70] ∨ ¬ fz s = 0 ∨ 1048576 < fn s)) := by
    intro q
    rcases q with q | q | q
    · exact q hm
    · exact q hz
    · exact hn q
  have HR : Hid (rRaw (s.extract (0 + 2 + 1 + 1 + 4) s.size) 0 (fn s : Int) = rTake (s.extract 8 s.size) 0 (fn s)) := by
    rw [Hid, rRaw, if_neg (by omega), Int.toNat_natCast]
  have hB : w.heap.size ≤ w5.heap.size := B5.size
  go_wp2_with fail
  refine (raw_any _ _ _ _ _ h5 (Nat.le_trans (ext_le _ _ _) HZ.out) (by omega)).mono ?_
  rintro e w6 ⟨rfl, h6, k6⟩
  rw [HR.out] at h6 ⊢
  have B6 := B5.trans (k6.below hB (by rintro k rfl; exact Nat.le_refl _))
  clear h5 k6 HR
  by_cases ha : s.size < 8 + fn s
  · have HF : Hid _ := unf_cut h8 HC.out (by omega)
    rw [rTake_short_from ha (by omega)] at h6 ⊢
    go_wp2_with fail
    refine (u32_any _ _ _ _ h6 (by decide)).mono ?_
    rintro e w7 ⟨rfl, h7, k7⟩
    rw [rTake_stuck 4 (by decide)] at h7 ⊢
    have B7 := B6.trans (k7.below B6.size (by rintro k rfl; exact Nat.le_refl _))
    go_wp2_with fail
    refine (err_any _ _ _ _ h7).mono ?_
    rintro e w8 ⟨rfl, rfl⟩
    go_wp2_with fail
    refine bodyPost_ret (results_tmp4 rfl _ _ _) rfl ?_
    exact ⟨unf_err HU.out HF.out, B7⟩
  rw [rTake_from (by omega)] at h6 ⊢
  go_wp2_with fail
  refine (u32_any _ _ _ _ h6 (Nat.le_trans (ext_le _ _ _) HZ.out)).mono ?_
  rintro e w7 ⟨rfl, h7, k7⟩
  have B7 := B6.trans (k7.below B6.size (by rintro k rfl; exact Nat.le_refl _))
  by_cases hb : s.size < 12 + fn s
  · have HF : Hid _ := unf_cut h8 HC.out hb
    rw [rTake_short_from (by omega) (by omega)] at h7 ⊢
    go_wp2_with fail
    refine (err_any _ _ _ _ h7).mono ?_
    rintro e w8 ⟨rfl, rfl⟩
    go_wp2_with fail
    refine bodyPost_ret (results_tmp4 rfl _ _ _) rfl ?_
    exact ⟨unf_err HU.out HF.out, B7⟩
  rw [rTake_from (by omega)] at h7 ⊢
  have HS : Hid (beNat (s.extract (8 + fn s) (8 + fn s + 4), s.extract (8 + fn s + 4) s.size, (0 : Int)).1.data.toList = fsum s) := by
    rw [Hid, fsum, show 12 + fn s = 8 + fn s + 4 by omega]
  rw [HS.out]
  have hbl : (s.extract 8 (8 + fn s)).size = fn s := by rw [ext_size (by omega)]; omega
  go_wp2_with fail
  refine (err_any _ _ _ _ h7).mono ?_
  rintro e w8 ⟨rfl, rfl⟩
  go_wp2_with fail
  refine (crc_any _ _ (Nat.le_trans (ext_le _ _ _) HZ.out)).mono ?_
  rintro e w9 ⟨rfl, rfl⟩
  rw [show Cx.crc (s.extract 0 (8 + fn s)).data.toList = fcrc s from rfl]
  by_cases hc : fsum s = fcrc s
  · have HF : Hid _ := unf_ok h8 HC.out hb hc
    have hc' : ((fsum s : Int) != (fcrc s : Int)) = false := by simp [hc]
    have HI : Hid _ := hc
    clear hc
    go_wp2_with fail
    refine bodyPost_ret (results_tmp4 rfl _ _ _) rfl ?_
    exact ⟨unf_done HU.out HF.out (by omega), B7⟩
  · have HF : Hid _ := unf_sum h8 HC.out hb hc
    have hc' : ((fsum s : Int) != (fcrc s : Int)) = true := by simp; omega
    have HI : Hid _ := hc
    clear hc
    go_wp2_with fail
    refine bodyPost_ret (results_tmp4 rfl _ _ _) rfl ?_
    exact ⟨unf_err HU.out HF.out, B7⟩

end Go.Proofs.Ytkhmmcakgfneiaa
