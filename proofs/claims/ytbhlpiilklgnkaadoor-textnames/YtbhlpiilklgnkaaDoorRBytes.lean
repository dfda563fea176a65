/-
  The contract of the twin's bytes: the UTF-8 of a rune.
-/
import Derived.Test.YtbhlpiilklgnkaaDoorDecMath
import Derived.Test.YtbhlpiilklgnkaaDoorRRune
namespace Go.Proofs.YtbhlpiilklgnkaaDoor
open Go.RowKit
theorem conv_news (W : World) (l : List UInt8) (vs : List Value) (hv : vs = cellsOf l) (t : TypeId) (n : Nat) (hn : n = l.length) (c : Nat) : (convert 38 9 (.slice (some ⟨W.heap.size, 0, none⟩) n c)).run Tryd.prog (W.alloc (.cells vs.toArray t)) = .ok (.string ⟨l.toArray⟩) (W.alloc (.cells vs.toArray t)) := by
  subst hn
  subst hv
  exact run_convert_bytes_back _ 38 9 5 _ _ l Tryd.underlying38 Tryd.underlying5 Tryd.underlying9 (fun j hj => new_cells W (cellsOf l) t j _ (by simp [cellsOf, hj]))
theorem cell_u8 {x : Nat} (h : x < 256) : Value.int .u8 ((UInt8.ofNat x).toNat : Int) = .int .u8 (x : Int) := by rw [UInt8.toNat_ofNat', Nat.mod_eq_of_lt h]
set_option maxRecDepth 20000 in
set_option maxHeartbeats 2000000 in
theorem rbytes_any (n : Nat) (h : isRn (n : Int) = true) (w : World) : Calls Tryd.prog 43 #[.int .i64 (n : Int)] w fun e w' => e = .returned (.string (Utf8.encode (n : Int))) ∧ Below w.heap.size w w' := by
  have hr := h
  simp only [isRn, decide_eq_true_eq] at hr
  have HB : Hid (∀ o, Below w.heap.size w (w.alloc o)) := fun o => (Below.refl _ w).alloc (Nat.le_refl _) o
  by_cases c1 : n < 128
  · rw [enc1 h c1]
    have hcv : ∀ W : World, (convert 38 9 (.slice (some ⟨W.heap.size, 0, none⟩) 1 1)).run Tryd.prog (W.alloc (.cells #[.int .u8 (n : Int)] 5)) = _ := fun W => conv_news W [UInt8.ofNat n] [.int .u8 (n : Int)] (by rw [← cell_u8 (by omega)]; rfl) 5 1 rfl 1
    have k1 : (n : Int) < 128 := by omega
    have k2 : (0 : Int) ≤ (n : Int) := by omega
    have k3 : (n : Int) < 256 := by omega
    clear h hr c1
    go_enter Tryd.func43, Tryd.ntmps43
    go_wp2_with fail
    go_ret
    exact ⟨rfl, HB.out _⟩
  by_cases c2 : n < 2048
  · rw [enc2 h c1 c2]
    obtain ⟨q1, hq1⟩ : ∃ q, n / 64 = q := ⟨_, rfl⟩
    obtain ⟨q2, hq2⟩ : ∃ q, n % 64 = q := ⟨_, rfl⟩
    have e1 : (n : Int).tdiv 64 = (q1 : Int) := by rw [Int.tdiv_eq_ediv_of_nonneg (by omega)]; omega
    have e2 : (n : Int).tmod 64 = (q2 : Int) := by rw [Int.tmod_eq_emod_of_nonneg (by omega)]; omega
    have e3 : (n : Int) / 64 = (q1 : Int) := by omega
    have e4 : (n : Int) % 64 = (q2 : Int) := by omega
    rw [hq1, hq2]
    have hcv : ∀ W : World, (convert 38 9 (.slice (some ⟨W.heap.size, 0, none⟩) 2 2)).run Tryd.prog (W.alloc (.cells #[.int .u8 (192 + (q1 : Int)), .int .u8 (128 + (q2 : Int))] 5)) = _ := fun W => conv_news W [UInt8.ofNat (192 + q1), UInt8.ofNat (128 + q2)] [.int .u8 (192 + (q1 : Int)), .int .u8 (128 + (q2 : Int))] (by
      have a := cell_u8 (x := 192 + q1) (by omega)
      have b := cell_u8 (x := 128 + q2) (by omega)
      simp only [Int.natCast_add] at a b
      simp only [cellsOf, List.map_cons, List.map_nil, a, b]
      rfl) 5 2 rfl 2
    have k1 : ¬ (n : Int) < 128 := by omega
    have k2 : (n : Int) < 2048 := by omega
    have k3 : (q1 : Int) < 32 := by omega
    have k4 : (q2 : Int) < 64 := by omega
    have k5 : (0 : Int) ≤ (q1 : Int) := by omega
    have k6 : (0 : Int) ≤ (q2 : Int) := by omega
    clear h hr c1 c2 hq1 hq2
    go_enter Tryd.func43, Tryd.ntmps43
    go_wp2_with fail
    go_ret
    exact ⟨rfl, HB.out _⟩
  by_cases c3 : n < 65536
  · rw [enc3 h c2 c3]
    obtain ⟨q1, hq1⟩ : ∃ q, n / 4096 = q := ⟨_, rfl⟩
    obtain ⟨p2, hp2⟩ : ∃ q, n / 64 = q := ⟨_, rfl⟩
    obtain ⟨q2, hq2⟩ : ∃ q, p2 % 64 = q := ⟨_, rfl⟩
    obtain ⟨q3, hq3⟩ : ∃ q, n % 64 = q := ⟨_, rfl⟩
    have e1 : (n : Int).tdiv 4096 = (q1 : Int) := by rw [Int.tdiv_eq_ediv_of_nonneg (by omega)]; omega
    have e2 : (n : Int).tdiv 64 = (p2 : Int) := by rw [Int.tdiv_eq_ediv_of_nonneg (by omega)]; omega
    have e3 : (p2 : Int).tmod 64 = (q2 : Int) := by rw [Int.tmod_eq_emod_of_nonneg (by omega)]; omega
    have e4 : (n : Int).tmod 64 = (q3 : Int) := by rw [Int.tmod_eq_emod_of_nonneg (by omega)]; omega
    have e5 : (n : Int) / 4096 = (q1 : Int) := by omega
    have e6 : (n : Int) / 64 = (p2 : Int) := by omega
    have e7 : (p2 : Int) % 64 = (q2 : Int) := by omega
    have e8 : (n : Int) % 64 = (q3 : Int) := by omega
    rw [hp2, hq1, hq2, hq3]
    have hcv : ∀ W : World, (convert 38 9 (.slice (some ⟨W.heap.size, 0, none⟩) 3 3)).run Tryd.prog (W.alloc (.cells #[.int .u8 (224 + (q1 : Int)), .int .u8 (128 + (q2 : Int)), .int .u8 (128 + (q3 : Int))] 5)) = _ := fun W => conv_news W [UInt8.ofNat (224 + q1), UInt8.ofNat (128 + q2), UInt8.ofNat (128 + q3)] [.int .u8 (224 + (q1 : Int)), .int .u8 (128 + (q2 : Int)), .int .u8 (128 + (q3 : Int))] (by
      have a := cell_u8 (x := 224 + q1) (by omega)
      have b := cell_u8 (x := 128 + q2) (by omega)
      have c := cell_u8 (x := 128 + q3) (by omega)
      simp only [Int.natCast_add] at a b c
      simp only [cellsOf, List.map_cons, List.map_nil, a, b, c]
      rfl) 5 3 rfl 3
    have k1 : ¬ (n : Int) < 128 := by omega
    have k2 : ¬ (n : Int) < 2048 := by omega
    have k2' : (n : Int) < 65536 := by omega
    have k3 : (q1 : Int) < 16 := by omega
    have k4 : (q2 : Int) < 64 := by omega
    have k5 : (0 : Int) ≤ (q1 : Int) := by omega
    have k6 : (0 : Int) ≤ (q2 : Int) := by omega
    have k7 : (q3 : Int) < 64 := by omega
    have k8 : (0 : Int) ≤ (q3 : Int) := by omega
    have k9 : (0 : Int) ≤ (p2 : Int) := by omega
    have k10 : (p2 : Int) < 1024 := by omega
    clear h hr c1 c2 c3 hq1 hq2 hq3 hp2
    go_enter Tryd.func43, Tryd.ntmps43
    go_wp2_with fail
    go_ret
    exact ⟨rfl, HB.out _⟩
  · rw [enc4 h c3]
    obtain ⟨q1, hq1⟩ : ∃ q, n / 262144 = q := ⟨_, rfl⟩
    obtain ⟨p2, hp2⟩ : ∃ q, n / 4096 = q := ⟨_, rfl⟩
    obtain ⟨q2, hq2⟩ : ∃ q, p2 % 64 = q := ⟨_, rfl⟩
    obtain ⟨p3, hp3⟩ : ∃ q, n / 64 = q := ⟨_, rfl⟩
    obtain ⟨q3, hq3⟩ : ∃ q, p3 % 64 = q := ⟨_, rfl⟩
    obtain ⟨q4, hq4⟩ : ∃ q, n % 64 = q := ⟨_, rfl⟩
    have e1 : (n : Int).tdiv 262144 = (q1 : Int) := by rw [Int.tdiv_eq_ediv_of_nonneg (by omega)]; omega
    have e2 : (n : Int).tdiv 4096 = (p2 : Int) := by rw [Int.tdiv_eq_ediv_of_nonneg (by omega)]; omega
    have e3 : (p2 : Int).tmod 64 = (q2 : Int) := by rw [Int.tmod_eq_emod_of_nonneg (by omega)]; omega
    have e4 : (n : Int).tdiv 64 = (p3 : Int) := by rw [Int.tdiv_eq_ediv_of_nonneg (by omega)]; omega
    have e5 : (p3 : Int).tmod 64 = (q3 : Int) := by rw [Int.tmod_eq_emod_of_nonneg (by omega)]; omega
    have e6 : (n : Int).tmod 64 = (q4 : Int) := by rw [Int.tmod_eq_emod_of_nonneg (by omega)]; omega
    have f1 : (n : Int) / 262144 = (q1 : Int) := by omega
    have f2 : (n : Int) / 4096 = (p2 : Int) := by omega
    have f3 : (p2 : Int) % 64 = (q2 : Int) := by omega
    have f4 : (n : Int) / 64 = (p3 : Int) := by omega
    have f5 : (p3 : Int) % 64 = (q3 : Int) := by omega
    have f6 : (n : Int) % 64 = (q4 : Int) := by omega
    rw [hp2, hp3, hq1, hq2, hq3, hq4]
    have hcv : ∀ W : World, (convert 38 9 (.slice (some ⟨W.heap.size, 0, none⟩) 4 4)).run Tryd.prog (W.alloc (.cells #[.int .u8 (240 + (q1 : Int)), .int .u8 (128 + (q2 : Int)), .int .u8 (128 + (q3 : Int)), .int .u8 (128 + (q4 : Int))] 5)) = _ := fun W => conv_news W [UInt8.ofNat (240 + q1), UInt8.ofNat (128 + q2), UInt8.ofNat (128 + q3), UInt8.ofNat (128 + q4)] [.int .u8 (240 + (q1 : Int)), .int .u8 (128 + (q2 : Int)), .int .u8 (128 + (q3 : Int)), .int .u8 (128 + (q4 : Int))] (by
      have a := cell_u8 (x := 240 + q1) (by omega)
      have b := cell_u8 (x := 128 + q2) (by omega)
      have c := cell_u8 (x := 128 + q3) (by omega)
      have d := cell_u8 (x := 128 + q4) (by omega)
      simp only [Int.natCast_add] at a b c d
      simp only [cellsOf, List.map_cons, List.map_nil, a, b, c, d]
      rfl) 5 4 rfl 4
    have k1 : ¬ (n : Int) < 128 := by omega
    have k2 : ¬ (n : Int) < 2048 := by omega
    have k2' : ¬ (n : Int) < 65536 := by omega
    have k3 : (q1 : Int) < 8 := by omega
    have k4 : (q2 : Int) < 64 := by omega
    have k5 : (0 : Int) ≤ (q1 : Int) := by omega
    have k6 : (0 : Int) ≤ (q2 : Int) := by omega
    have k7 : (q3 : Int) < 64 := by omega
    have k8 : (0 : Int) ≤ (q3 : Int) := by omega
    have k9 : (0 : Int) ≤ (p2 : Int) := by omega
    have k10 : (p2 : Int) < 2048 := by omega
    have k11 : (0 : Int) ≤ (p3 : Int) := by omega
    have k12 : (p3 : Int) < 131072 := by omega
    have k13 : (q4 : Int) < 64 := by omega
    have k14 : (0 : Int) ≤ (q4 : Int) := by omega
    clear h hr c1 c2 c3 hq1 hq2 hq3 hp2 hp3 hq4
    go_enter Tryd.func43, Tryd.ntmps43
    go_wp2_with fail
    go_ret
    exact ⟨rfl, HB.out _⟩
end Go.Proofs.YtbhlpiilklgnkaaDoor
