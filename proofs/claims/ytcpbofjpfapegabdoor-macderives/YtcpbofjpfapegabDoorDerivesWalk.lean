/-
  The walk of MacDerives: what is derived is the twin's, and fewer bytes are the beginning of more.
-/
import Derived.Test.YtcpbofjpfapegabDoorRefDerive
import Derived.Test.YtcpbofjpfapegabDoorAwake
namespace Go.Proofs.YtcpbofjpfapegabDoor
open Go.RowKit
set_option maxRecDepth 20000 in
set_option maxHeartbeats 1000000 in
theorem derives_no (key salt info : ByteArray) (n less : Int) (w : World) (hK : GK w) (hn : n < 0 ∨ 8160 < n) :
    Calls Tryd.prog 4 #[.string key, .string salt, .string info, .int .i64 n, .int .i64 less] w fun e w' => e = .returned (.bool true) ∧ Below w.heap.size w w' := by
  have HK : Hid (GK w) := hK
  clear hK
  have HN : Hid _ := hn
  clear hn
  go_enter Tryd.func4, Tryd.ntmps4
  go_wp2_with fail
  refine (awake_any w HK.out).mono ?_
  rintro e1 w1 ⟨rfl, B1⟩
  go_wp2_with fail
  refine (derive_no key salt info n w1 HN.out).mono ?_
  rintro e2 w2 ⟨rfl, rfl⟩
  go_wp2_with fail
  refine (refDerive_no key salt info n w2 HN.out).mono ?_
  rintro e3 w3 ⟨rfl, rfl⟩
  go_wp2_with fail
  go_ret
  exact ⟨rfl, B1⟩
set_option maxRecDepth 20000 in
set_option maxHeartbeats 1000000 in
theorem derives_yes (key salt info : ByteArray) (n : Nat) (less : Int) (w : World) (hK : GK w) (hn : n ≤ 8160) (hk : key.size ≤ 140737488351232) (hs : salt.size ≤ 140737488351232) (hi : info.size ≤ 140737488351232) :
    Calls Tryd.prog 4 #[.string key, .string salt, .string info, .int .i64 n, .int .i64 less] w fun e w' => e = .returned (.bool true) ∧ Below w.heap.size w w' := by
  have HK : Hid (GK w) := hK
  clear hK
  obtain ⟨S, hS⟩ : ∃ S : ByteArray, S = ⟨(deriveB (pOf salt key) info n).toArray⟩ := ⟨_, rfl⟩
  have hSs : S.size = n := by rw [hS, mk_size, derive_len]
  have HP1 : Hid (∀ W : World, GK W → Calls Tryd.prog 10 #[.string key, .string salt, .string info, .int .i64 n] W fun e w' => e = .returned (.tuple #[.string S, .bool true]) ∧ Below W.heap.size W w') := by
    rw [Hid, hS]; exact fun W hW => derive_any key salt info n W hW hn hk hs hi
  have HP2 : Hid (∀ W : World, Calls Tryd.prog 11 #[.string key, .string salt, .string info, .int .i64 n] W fun e w' => e = .returned (.tuple #[.string S, .bool true]) ∧ Below W.heap.size W w') := by
    rw [Hid, hS]; exact fun W => refDerive_any key salt info n W hn hk hs hi
  have HSm : Hid (∀ m : Nat, m ≤ n → S.extract 0 m = ⟨(deriveB (pOf salt key) info m).toArray⟩) := by
    intro m hm
    apply bytes_ext'
    rw [ByteArray.data_extract, Array.toList_extract, List.extract_eq_take_drop, hS]
    show List.take (m - 0) (List.drop 0 (deriveB (pOf salt key) info n)) = deriveB (pOf salt key) info m
    exact derive_take _ _ hm
  clear hS
  go_enter Tryd.func4, Tryd.ntmps4
  go_wp2_with fail
  refine (awake_any w HK.out).mono ?_
  rintro e1 w1 ⟨rfl, B1⟩
  have HK1 : Hid (GK w1) := HK.out.below B1
  have z1 := B1.size
  go_wp2_with fail
  refine (HP1.out w1 HK1.out).mono ?_
  rintro e2 w2 ⟨rfl, B2⟩
  have HK2 : Hid (GK w2) := HK1.out.below B2
  have z2 := B2.size
  go_wp2_with fail
  refine (HP2.out w2).mono ?_
  rintro e3 w3 ⟨rfl, B3⟩
  have HK3 : Hid (GK w3) := HK2.out.below B3
  have z3 := B3.size
  have HB3 : Below w.heap.size w w3 := (B1.trans (B2.mono (by omega))).trans (B3.mono (by omega))
  clear B1 B2 B3
  by_cases h0 : less < 0
  · go_wp2_with fail
    go_ret
    exact ⟨rfl, HB3⟩
  by_cases h1 : (n : Int) < less
  · go_wp2_with fail
    go_ret
    exact ⟨rfl, HB3⟩
  obtain ⟨m, hm⟩ : ∃ m : Nat, less = (m : Int) := ⟨less.toNat, by omega⟩
  subst hm
  have hmn : m ≤ n := by omega
  obtain ⟨U, hU⟩ : ∃ U : ByteArray, U = ⟨(deriveB (pOf salt key) info m).toArray⟩ := ⟨_, rfl⟩
  have hext : S.extract 0 m = U := by rw [hU]; exact HSm.out m hmn
  have HP3 : Hid (Calls Tryd.prog 10 #[.string key, .string salt, .string info, .int .i64 m] w3 fun e w' => e = .returned (.tuple #[.string U, .bool true]) ∧ Below w3.heap.size w3 w') := by
    rw [Hid, hU]; exact derive_any key salt info m w3 HK3.out (by omega) hk hs hi
  clear hU
  go_wp2_with fail
  refine HP3.out.mono ?_
  rintro e4 w4 ⟨rfl, B4⟩
  have HB4 : Hid (Below w.heap.size w w4) := HB3.trans (B4.mono (by omega))
  go_wp2_with fail
  go_ret
  exact ⟨rfl, HB4.out⟩
end Go.Proofs.YtcpbofjpfapegabDoor
