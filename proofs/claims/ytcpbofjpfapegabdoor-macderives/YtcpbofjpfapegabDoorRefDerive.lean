/-
  The contract of the twin's Derive.
-/
import Derived.Test.YtcpbofjpfapegabDoorDerive
namespace Go.Proofs.YtcpbofjpfapegabDoor
open Go.RowKit
theorem beq_of_ne {a b : ByteArray} (h : a ≠ b) : (a.toList == b.toList) = false := by
  rw [ByteArray.toList_eq, ByteArray.toList_eq]
  cases hq : (a.data.toList == b.data.toList) with
  | false => rfl
  | true => exact absurd (bytes_ext' (beq_iff_eq.1 hq)) h
set_option maxRecDepth 20000 in
set_option maxHeartbeats 4000000 in
theorem refDerive_any (key salt info : ByteArray) (n : Nat) (w : World) (hn : n ≤ 8160) (hk : key.size ≤ 140737488351232) (hs : salt.size ≤ 140737488351232) (hi : info.size ≤ 140737488351232) :
    Calls Tryd.prog 11 #[.string key, .string salt, .string info, .int .i64 n] w fun e w' => e = .returned (.tuple #[.string ⟨(deriveB (pOf salt key) info n).toArray⟩, .bool true]) ∧ Below w.heap.size w w' := by
  obtain ⟨p, hp⟩ : ∃ p : ByteArray, p = pOf salt key := ⟨_, rfl⟩
  have hps : p.size = 32 := by rw [hp, pOf, mk_size, macK_len]
  by_cases hse : salt = ⟨#[]⟩
  · subst hse
    have HP0 : Hid (∀ W : World, Calls Tryd.prog 20 #[.string ⟨(List.replicate 32 (0 : UInt8)).toArray⟩, .string key] W fun e w' => e = .returned (.string p) ∧ Below W.heap.size W w') := by
      rw [Hid, hp, ← pOf_zero]; exact fun W => refMac_any _ key W (by rw [mk_size]; decide) (by omega)
    rw [← hp]
    clear hp
    have hmk : ∀ W : World, (Instr.makeSlice 32 (.int .i64 32) (.int .i64 32)).run Tryd.prog W = .ok (.slice (some ⟨W.heap.size, 0, none⟩) 32 32) (W.alloc (.cells (bcells (fun _ => 0) 32).toArray 5)) := fun W => by
      rw [← made_zeros]
      exact run_make_row' 32 5 (.int .u8 0) 1 Tryd.underlying32 info5 rfl .i64 .i64 32 (by omega) (by omega) W
    have hcv0 : ∀ W : World, (convert 32 9 (.slice (some ⟨W.heap.size, 0, none⟩) 32 32)).run Tryd.prog (W.alloc (.cells (bcells (fun _ => 0) 32).toArray 5)) = .ok (.string ⟨(List.replicate 32 (0 : UInt8)).toArray⟩) (W.alloc (.cells (bcells (fun _ => 0) 32).toArray 5)) := fun W => zeros_conv _ _ _ _ 5 (block_alloc_at _ _)
    go_enter Tryd.func11, Tryd.ntmps11
    go_wp2_with fail
    refine (HP0.out _).mono ?_
    rintro e0 w0 ⟨rfl, C0⟩
    have B0 : Below w.heap.size w w0 := ((Below.refl _ w).alloc (Nat.le_refl _) _).trans (C0.mono (by simp))
    clear C0 hmk hcv0 HP0
    go_wp2_with fail
    go_loopw [11, 12, 13] (fun al t i wr => ∃ (j : Nat) (cur tt : ByteArray), al = .string cur ∧ t = .string tt ∧ i = .int .i64 ((j + 1 : Nat) : Int) ∧ Hid (tt = dT p info j) ∧ Hid (cur.data.toList = dAll p info j) ∧ Hid (cur.size = 32 * j) ∧ Hid (32 * j < n + 32) ∧ tt.size ≤ 32 ∧ Below w.heap.size w wr) (fun _ _ i _ => 400 - (intOf i).toNat)
    case atStart => exact ⟨0, ⟨#[]⟩, ⟨#[]⟩, rfl, rfl, rfl, rfl, rfl, rfl, by rw [Hid]; omega, by decide, B0⟩
    case round =>
      clear B0
      obtain ⟨j, cur, tt, rfl, rfl, rfl, HTT, HC, HL, HJ, hts, hb⟩ := hrel
      have hsz := hb.size
      by_cases hlt : cur.size < n
      · obtain ⟨x, hx⟩ : ∃ x, j + 1 = x := ⟨_, rfl⟩
        rw [hx]
        have hx2 : x ≤ 255 := by have := HL.out; omega
        have hx3 : IntKind.u8.wrap (x : Int) = (x : Int) := by rw [IntKind.wrap_u8]; omega
        obtain ⟨c, hc⟩ : ∃ c, UInt8.ofNat x = c := ⟨_, rfl⟩
        have hcx : (x : Int) = (c.toNat : Int) := by rw [← hc, UInt8.toNat_ofNat', Nat.mod_eq_of_lt (by omega)]
        have hcv := fun W => one_conv c (x : Int) hcx W
        obtain ⟨t2, ht2⟩ : ∃ t2 : ByteArray, t2 = dT p info (j + 1) := ⟨_, rfl⟩
        have ht2s : t2.size = 32 := by rw [ht2, dT_size']
        have HP1 : Hid (∀ W : World, Calls Tryd.prog 20 #[.string p, .string (tt ++ info ++ ⟨#[c]⟩)] W fun e W' => e = .returned (.string t2) ∧ Below W.heap.size W W') := by
          rw [Hid, ht2, dT, hx, hc, ← HTT.out]
          exact fun W => refMac_any p _ W (by omega) (by simp only [ByteArray.size_append]; show tt.size + info.size + 1 ≤ _; omega)
        have HC2 : Hid ((cur ++ t2).data.toList = dAll p info (j + 1)) := by rw [Hid, dAll, ← ht2, ByteArray.data_append, Array.toList_append, HC.out]
        have HL2 : Hid ((cur ++ t2).size = 32 * (j + 1)) := by rw [Hid, ByteArray.size_append, ht2s, HL.out]; omega
        have HT2 : Hid _ := ht2
        have HX : Hid _ := hx
        have hc1s : (⟨#[c]⟩ : ByteArray).size = 1 := rfl
        clear ht2 hx hc hcx
        go_wp2_with fail
        refine (HP1.out _).mono ?_
        rintro e1 w1 ⟨rfl, B1⟩
        have HB : Hid (Below w.heap.size w w1) := (hb.alloc hsz _).trans (B1.mono (by simp; omega))
        clear B1 hb hsz hcv HP1
        go_wp2_with fail
        go_roundw
        case rel => exact ⟨j + 1, cur ++ t2, t2, rfl, rfl, val_int (by have := HX.out; omega), HT2.out, HC2.out, HL2.out, by have := HL.out; rw [Hid]; omega, by omega, HB.out⟩
        case measure => have := HX.out; simp [intOf]; omega
      · have HD : Hid (cur.extract 0 n = ⟨(deriveB p info n).toArray⟩) := by
          have h1 := HL.out
          have h2 := HJ.out
          apply bytes_ext'
          rw [ByteArray.data_extract, Array.toList_extract, List.extract_eq_take_drop, HC.out]
          show List.take (n - 0) (List.drop 0 (dAll p info j)) = deriveB p info n
          rw [deriveB, show (n + 31) / 32 = j by omega]
          rfl
        have hjx : j + 1 ≤ 256 := by have := HJ.out; omega
        have hle : n ≤ cur.size := by omega
        go_wp2_with fail
        go_ret2
        exact ⟨by rw [← HD.out]; rfl, hb⟩
  · have hse2 := beq_of_ne hse
    have hse3 : (salt.toList == []) = false := by
      rw [show (⟨#[]⟩ : ByteArray).toList = [] by rw [ByteArray.toList_eq]] at hse2
      exact hse2
    have HP0 : Hid (Calls Tryd.prog 20 #[.string salt, .string key] w fun e w' => e = .returned (.string p) ∧ Below w.heap.size w w') := by
      rw [Hid, hp]; exact refMac_any salt key w hs (by omega)
    rw [← hp]
    clear hp hse
    go_enter Tryd.func11, Tryd.ntmps11
    go_wp2_with fail
    refine HP0.out.mono ?_
    rintro e0 w0 ⟨rfl, B0⟩
    clear HP0
    go_wp2_with fail
    go_loopw [11, 12, 13] (fun al t i wr => ∃ (j : Nat) (cur tt : ByteArray), al = .string cur ∧ t = .string tt ∧ i = .int .i64 ((j + 1 : Nat) : Int) ∧ Hid (tt = dT p info j) ∧ Hid (cur.data.toList = dAll p info j) ∧ Hid (cur.size = 32 * j) ∧ Hid (32 * j < n + 32) ∧ tt.size ≤ 32 ∧ Below w.heap.size w wr) (fun _ _ i _ => 400 - (intOf i).toNat)
    case atStart => exact ⟨0, ⟨#[]⟩, ⟨#[]⟩, rfl, rfl, rfl, rfl, rfl, rfl, by rw [Hid]; omega, by decide, B0⟩
    case round =>
      clear B0
      obtain ⟨j, cur, tt, rfl, rfl, rfl, HTT, HC, HL, HJ, hts, hb⟩ := hrel
      have hsz := hb.size
      by_cases hlt : cur.size < n
      · obtain ⟨x, hx⟩ : ∃ x, j + 1 = x := ⟨_, rfl⟩
        rw [hx]
        have hx2 : x ≤ 255 := by have := HL.out; omega
        have hx3 : IntKind.u8.wrap (x : Int) = (x : Int) := by rw [IntKind.wrap_u8]; omega
        obtain ⟨c, hc⟩ : ∃ c, UInt8.ofNat x = c := ⟨_, rfl⟩
        have hcx : (x : Int) = (c.toNat : Int) := by rw [← hc, UInt8.toNat_ofNat', Nat.mod_eq_of_lt (by omega)]
        have hcv := fun W => one_conv c (x : Int) hcx W
        obtain ⟨t2, ht2⟩ : ∃ t2 : ByteArray, t2 = dT p info (j + 1) := ⟨_, rfl⟩
        have ht2s : t2.size = 32 := by rw [ht2, dT_size']
        have HP1 : Hid (∀ W : World, Calls Tryd.prog 20 #[.string p, .string (tt ++ info ++ ⟨#[c]⟩)] W fun e W' => e = .returned (.string t2) ∧ Below W.heap.size W W') := by
          rw [Hid, ht2, dT, hx, hc, ← HTT.out]
          exact fun W => refMac_any p _ W (by omega) (by simp only [ByteArray.size_append]; show tt.size + info.size + 1 ≤ _; omega)
        have HC2 : Hid ((cur ++ t2).data.toList = dAll p info (j + 1)) := by rw [Hid, dAll, ← ht2, ByteArray.data_append, Array.toList_append, HC.out]
        have HL2 : Hid ((cur ++ t2).size = 32 * (j + 1)) := by rw [Hid, ByteArray.size_append, ht2s, HL.out]; omega
        have HT2 : Hid _ := ht2
        have HX : Hid _ := hx
        have hc1s : (⟨#[c]⟩ : ByteArray).size = 1 := rfl
        clear ht2 hx hc hcx
        go_wp2_with fail
        refine (HP1.out _).mono ?_
        rintro e1 w1 ⟨rfl, B1⟩
        have HB : Hid (Below w.heap.size w w1) := (hb.alloc hsz _).trans (B1.mono (by simp; omega))
        clear B1 hb hsz hcv HP1
        go_wp2_with fail
        go_roundw
        case rel => exact ⟨j + 1, cur ++ t2, t2, rfl, rfl, val_int (by have := HX.out; omega), HT2.out, HC2.out, HL2.out, by have := HL.out; rw [Hid]; omega, by omega, HB.out⟩
        case measure => have := HX.out; simp [intOf]; omega
      · have HD : Hid (cur.extract 0 n = ⟨(deriveB p info n).toArray⟩) := by
          have h1 := HL.out
          have h2 := HJ.out
          apply bytes_ext'
          rw [ByteArray.data_extract, Array.toList_extract, List.extract_eq_take_drop, HC.out]
          show List.take (n - 0) (List.drop 0 (dAll p info j)) = deriveB p info n
          rw [deriveB, show (n + 31) / 32 = j by omega]
          rfl
        have hjx : j + 1 ≤ 256 := by have := HJ.out; omega
        have hle : n ≤ cur.size := by omega
        go_wp2_with fail
        go_ret2
        exact ⟨by rw [← HD.out]; rfl, hb⟩
end Go.Proofs.YtcpbofjpfapegabDoor
