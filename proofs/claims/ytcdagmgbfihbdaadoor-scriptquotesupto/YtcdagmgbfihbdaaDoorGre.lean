/-
  The twin's digits: Great, Number.
-/
import Derived.Test.YtcdagmgbfihbdaaDoorPrn
import Derived.Laws.Tables
import Derived.Lib.ItoaNum
namespace Go.Proofs.YtcdagmgbfihbdaaDoor
open Go.RowKit
theorem row_one (W : World) (x : UInt8) : (W.alloc (.cells #[.int .u8 (x.toNat : Int)] 5)).cell? ⟨W.heap.size, 0, none⟩ = some (.int .u8 (x.toNat : Int)) := cell_of_block (block_alloc_at _ _) rfl
theorem conv_one {W : World} {g c : Nat} {x : UInt8} (h : W.cell? ⟨g, 0, none⟩ = some (.int .u8 (x.toNat : Int))) : (convert 46 9 (.slice (some ⟨g, 0, none⟩) 1 c)).run Tryd.prog W = .ok (.string (bOf [x])) W := by
  refine run_convert_bytes_back W 46 9 5 _ _ [x] Tryd.underlying46 Tryd.underlying5 Tryd.underlying9 (fun j hj => ?_)
  match j, hj with
  | 0, _ => exact h
theorem u8_dig {u : Nat} (h : u < 10) : ((UInt8.ofNat (48 + u)).toNat : Int) = 48 + (u : Int) := by
  rw [UInt8.toNat_ofNat_of_lt' (by show 48 + u < 256; omega)]
  omega
theorem bOf_app1 (x : UInt8) (l : List UInt8) : bOf [x] ++ bOf l = bOf (x :: l) := bOf_app [x] l
theorem dig_len {u : Nat} (h : u < 18446744073709551616) : (Lib.decDigits u).length ≤ 20 := by
  rw [Lib.decDigits_length]
  exact nDig_le 19 u (by omega)
theorem dig_more {u : Nat} (h : 9 < u) : Lib.decDigits u = Lib.decDigits (u / 10) ++ [UInt8.ofNat (48 + u % 10)] := by
  rw [Lib.decDigits, dif_neg (by omega)]
set_option maxRecDepth 20000 in
set_option maxHeartbeats 4000000 in
theorem great_any (u0 : Nat) (hu0 : u0 < 18446744073709551616) (w : World) : Calls Tryd.prog 38 #[.int .u64 (u0 : Int)] w fun e w' => e = .returned (.string (bOf (Lib.decDigits u0))) ∧ Below w.heap.size w w' := by
  have HL0 : Hid _ := dig_len hu0
  have HU0 : Hid _ := hu0
  obtain ⟨R, hR⟩ : ∃ R, Lib.decDigits u0 = R := ⟨_, rfl⟩
  have HR : Hid _ := hR
  rw [hR] at HL0
  have H00 : Hid _ := HR.out
  rw [hR]
  clear hu0 hR
  go_enter Tryd.func38, Tryd.ntmps38
  go_wp2_with fail
  go_loopw [0, 3] (fun n s wr => ∃ (u : Nat) (x : List UInt8), n = .int .u64 (u : Int) ∧ s = .string (bOf x) ∧ u < 18446744073709551616 ∧ Hid (Lib.decDigits u ++ x = R) ∧ Hid (Below w.heap.size w wr)) (fun n _ _ => (intOf n).toNat)
  case atStart => exact ⟨u0, [], rfl, rfl, HU0.out, by rw [Hid, List.append_nil]; exact HR.out, Below.refl _ _⟩
  case round =>
    obtain ⟨u, x, rfl, rfl, hu, HX, HB⟩ := hrel
    have hxl : x.length ≤ 20 := by
      have h1 := congrArg List.length HX.out
      have h2 := HL0.out
      rw [List.length_append] at h1
      omega
    have hxs : (bOf x).size = x.length := bOf_size x
    by_cases h9 : 9 < u
    · have q0 : (9 : Int) < (u : Int) := by omega
      have q1 := u8_dig (u := u % 10) (by omega)
      have HM : Hid _ := dig_more h9
      obtain ⟨y, hy⟩ : ∃ y, UInt8.ofNat (48 + u % 10) = y := ⟨_, rfl⟩
      rw [hy] at q1 HM
      have e1 : (u : Int).tdiv 10 = ((u / 10 : Nat) : Int) := by rw [Int.tdiv_eq_ediv_of_nonneg (by omega)]; omega
      have e2 : (u : Int).tmod 10 = ((u % 10 : Nat) : Int) := by rw [Int.tmod_eq_emod_of_nonneg (by omega)]; omega
      have qw : IntKind.u8.wrap (48 + ((u % 10 : Nat) : Int)) = (y.toNat : Int) := by rw [q1, IntKind.wrap_u8]; omega
      have qv : IntKind.u64.wrap (48 + ((u % 10 : Nat) : Int)) = 48 + ((u % 10 : Nat) : Int) := by rw [IntKind.wrap_u64]; omega
      have hwd : IntKind.u64.wrap ((u / 10 : Nat) : Int) = ((u / 10 : Nat) : Int) := by rw [IntKind.wrap_u64]; omega
      have hwr : IntKind.u64.wrap ((u % 10 : Nat) : Int) = ((u % 10 : Nat) : Int) := by rw [IntKind.wrap_u64]; omega
      have hcv := conv_one (c := 1) (row_one wr y)
      have hys : (bOf [y]).size = 1 := rfl
      have hcat : ¬ 9223372036854775807 < (bOf [y]).size + (bOf x).size := by omega
      have hlt : u / 10 < u := by omega
      have h64 : u / 10 < 18446744073709551616 := by omega
      obtain ⟨d, hd⟩ : ∃ d, u / 10 = d := ⟨_, rfl⟩
      obtain ⟨r, hr⟩ : ∃ r, u % 10 = r := ⟨_, rfl⟩
      rw [hd] at e1 hwd HM hlt h64
      rw [hr] at e2 qw qv hwr
      clear q1 hy hd hr hys
      go_wp2_with fail
      go_roundw
      case rel => exact ⟨d, y :: x, rfl, by rw [bOf_app1], h64, by rw [Hid, ← HX.out, HM.out, List.append_assoc]; rfl, HB.out.alloc HB.out.size _⟩
      case measure => simp [intOf]; omega
    · have q0 : ¬ (9 : Int) < (u : Int) := by omega
      have q1 := u8_dig (u := u) (by omega)
      have HM : Hid _ := Lib.decDigits_one (i := u) (by omega)
      obtain ⟨y, hy⟩ : ∃ y, UInt8.ofNat (48 + u) = y := ⟨_, rfl⟩
      rw [hy] at q1 HM
      have qw : IntKind.u8.wrap (48 + (u : Int)) = (y.toNat : Int) := by rw [q1, IntKind.wrap_u8]; omega
      have qv : IntKind.u64.wrap (48 + (u : Int)) = 48 + (u : Int) := by rw [IntKind.wrap_u64]; omega
      have hcv := conv_one (c := 1) (row_one wr y)
      have hys : (bOf [y]).size = 1 := rfl
      have hcat : ¬ 9223372036854775807 < (bOf [y]).size + (bOf x).size := by omega
      clear q1 hy hys
      go_wp2_with fail
      go_ret
      exact ⟨by rw [bOf_app1, ← HX.out, HM.out]; rfl, HB.out.alloc HB.out.size _⟩
set_option maxRecDepth 20000 in
set_option maxHeartbeats 4000000 in
theorem qnumber_any (n : Nat) (hn : n < 9223372036854775808) (w : World) : Calls Tryd.prog 28 #[.int .i64 (n : Int)] w fun e w' => e = .returned (.string (bOf (Lib.decDigits n))) ∧ Below w.heap.size w w' := by
  have HG : Hid (∀ _ : Unit, _) := fun _ => great_any n (by omega) w
  have q0 : ¬ (n : Int) < 0 := by omega
  have qw : IntKind.u64.wrap (n : Int) = (n : Int) := by rw [IntKind.wrap_u64]; omega
  go_enter Tryd.func28, Tryd.ntmps28
  go_wp2_with fail
  refine (HG.out ()).mono ?_
  rintro e w1 ⟨rfl, b1⟩
  have HB1 : Hid _ := b1
  clear b1
  go_wp2_with fail
  go_ret
  exact ⟨rfl, HB1.out⟩
end Go.Proofs.YtcdagmgbfihbdaaDoor
