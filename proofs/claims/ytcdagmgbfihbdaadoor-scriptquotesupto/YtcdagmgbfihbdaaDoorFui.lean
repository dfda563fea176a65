/-
  strconv.FormatUint in tens.
-/
import Derived.Test.YtcdagmgbfihbdaaDoorAwk
import Derived.Lib.ItoaMem
namespace Go.Proofs.YtcdagmgbfihbdaaDoor
open Go.RowKit Go.Sort Go.Lib
set_option maxHeartbeats 6400000 in
set_option maxRecDepth 100000 in
theorem iformat_any (u : Nat) (hu64 : u < 18446744073709551616) (w : World) (htab : TabP w) :
    Calls Tryd.prog 80 #[.int .u64 ((u : Nat) : Int), .int .i64 10] w fun e w' => e = .returned (.string (bOf (Lib.decDigits u))) ∧ Below w.heap.size w w' := by
  by_cases hs : u < 100
  · have hz : ((u : Nat) : Int) < 100 := by omega
    have HSM : Hid (∀ W : World, _) := fun W => Tryd.internal_strconv_small u hs W
    clear hs
    go_enter Tryd.func80, Tryd.ntmps80
    go_wp2_with fail
    refine (HSM.out _).mono ?_
    rintro e w1 ⟨rfl, hw1⟩
    rw [hw1]
    clear hw1 w1
    go_wp2_with fail
    go_ret
    exact ⟨rfl, Below.refl _ _⟩
  · have hz : ¬ ((u : Nat) : Int) < 100 := by omega
    have hu1 : 1 ≤ u := by omega
    have hnd20 : Lib.nDigits u ≤ 20 := nDig_le 19 u (by omega)
    have hal : Tryd.prog.arrayLen 132 = 24 := by simp [Program.arrayLen, Tryd.underlying132]
    have hsl : ∀ W, (Instr.sliceAt 132 (.pointer (some ⟨w.heap.size, 0, none⟩)) none (some (.int .i64 ((Lib.nDigits u : Nat) : Int))) none).run Tryd.prog W = .ok (.slice (some ⟨w.heap.size, 0, none⟩) (Lib.nDigits u) 24) W := fun W => by
      rw [run_sliceAt_array_h W 132 ⟨w.heap.size, 0, none⟩ (by simp [Program.arrayLen, Program.elem, Tryd.underlying132]) .i64 ((Lib.nDigits u : Nat) : Int) (by omega) (by rw [hal]; omega)]
      go_simp
    have hH0 := Lib.holds_zero0 w 132 (Lib.nDigits u) (by omega)
    have hfmt := Tryd.internal_strconv_formatBase10 w.heap.size 0 24 u (Array.replicate (Lib.nDigits u) 0) (w.alloc (.cells Lib.zeros24 132)) hH0 (by rw [Array.size_replicate]; exact Lib.lt_pow_nDigits u) hu64 (by rw [Array.size_replicate]; omega)
    rw [Array.size_replicate] at hfmt
    have HFM : Hid _ := hfmt
    have HH0 : Hid _ := hH0
    have HND : Hid (∀ W, Lib.TabIs Tryd.prog W "internal/strconv.uint64pow10" .u64 Lib.pow10Tab → Calls Tryd.prog 75 #[.int .u64 ((u : Nat) : Int)] W fun e w' => e = .returned (.int .i64 ((Lib.nDigits u : Nat) : Int)) ∧ w' = W) := fun W h => Tryd.internal_strconv_numDigits u hu1 hu64 W h
    have HTA : Hid (Lib.TabIs Tryd.prog (w.alloc (.cells Lib.zeros24 132)) "internal/strconv.uint64pow10" .u64 Lib.pow10Tab) := Lib.tabIs_alloc htab _
    obtain ⟨nd, hnd⟩ : ∃ q, Lib.nDigits u = q := ⟨_, rfl⟩
    have HNDD : Hid (Lib.nDigits u = nd) := hnd
    rw [hnd] at hsl HFM HND hnd20
    clear hal hH0 hfmt hnd htab hs
    go_enter Tryd.func80, Tryd.ntmps80
    go_wp2_with fail
    refine Calls.mono (HND.out _ HTA.out) ?_
    rintro e w1 ⟨rfl, hw1⟩
    rw [hw1]
    clear hw1 w1
    go_wp2_with fail
    refine Calls.mono HFM.out ?_
    rintro e w2 ⟨rfl, k, v', dk, hw2, hF⟩
    have hcv : (convert 46 9 (.slice (some ⟨w.heap.size, 0, none⟩) nd 24)).run Tryd.prog w2 = .ok (.string (bOf (Lib.decDigits u))) w2 := by
      have h := run_convert_bytes_back (P := Tryd.prog) w2 46 9 5 ⟨w.heap.size, 0, none⟩ 24 (Lib.decDigits u) Tryd.underlying46 Tryd.underlying5 Tryd.underlying9 (fun j hj => by
        rw [Lib.row_is_numeral (by rw [HNDD.out]; exact hF) j hj, Lib.add_plain, hw2, World.cell?_drewN]
        exact cell?_putRow (fun (b : UInt8) => Value.int .u8 (b.toNat : Int)) _ w.heap.size 0 _ dk HH0.out (by rw [hF.size, Array.size_replicate, HNDD.out]) j (by rw [hF.size]; rw [Lib.decDigits_length, HNDD.out] at hj; exact hj))
      rw [Lib.decDigits_length, HNDD.out] at h
      exact h
    have HBE : Hid (Below w.heap.size w w2) := by
      obtain ⟨os, eo⟩ := Lib.fin_at w (.cells Lib.zeros24 132) dk k 0
      rw [Hid, hw2, eo]
      exact Lib.below_grow w.heap.size w (Nat.le_refl _) k os
    clear hw2 hF HFM HND HTA HH0
    go_wp2_with fail
    go_ret
    exact ⟨rfl, HBE.out⟩
theorem fuint : FUint := by
  intro u W hu hT
  have HI : Hid (∀ _ : Unit, _) := fun _ => iformat_any u hu W hT
  clear hu hT
  go_enter Tryd.func69, Tryd.ntmps69
  go_wp2_with fail
  refine (HI.out ()).mono ?_
  rintro e w1 ⟨rfl, hb⟩
  have HB : Hid _ := hb
  clear hb
  go_wp2_with fail
  go_ret
  exact ⟨rfl, HB.out⟩
end Go.Proofs.YtcdagmgbfihbdaaDoor
