/-
  The contracts of the twin's Encode and Text; the runes of what was written of runes are they.
-/
import Derived.Test.YtbhlpiilklgnkaaTextC
import Derived.Test.YtbhlpiilklgnkaaRBytes
import Derived.Laws.AppendOwnNone
namespace Go.Proofs.Ytbhlpiilklgnkaa
open Go.RowKit
set_option maxRecDepth 20000 in
theorem rencode_ok (z : Int) (h : isRn z = true) (w : World) : Calls Try.prog 21 #[.int .i32 z] w fun e w' => e = .returned (.tuple #[.string (Utf8.encode z), .int .i64 0]) ∧ Below w.heap.size w w' := by
  obtain ⟨n, rfl, hn1, hn2⟩ := isRn_nat h
  have HC : Hid (∀ W : World, _) := fun W => risRune_any (n : Int) W
  rw [h] at HC
  have HB : Hid (∀ W : World, _) := fun W => rbytes_any n h W
  obtain ⟨E, hE⟩ : ∃ E, Utf8.encode (n : Int) = E := ⟨_, rfl⟩
  rw [hE] at HB ⊢
  have k1 : (0 : Int) ≤ (n : Int) := by omega
  have k2 : (n : Int) ≤ 1114111 := by omega
  clear h hE hn1 hn2
  go_enter Try.func21, Try.ntmps21
  go_wp2_with fail
  refine (HC.out _).mono ?_
  rintro e w1 ⟨rfl, rfl⟩
  go_wp2_with fail
  refine (HB.out _).mono ?_
  rintro e w2 ⟨rfl, b2⟩
  go_wp2_with fail
  go_ret2
  exact ⟨rfl, b2⟩
set_option maxRecDepth 20000 in
theorem rencode_bad (z : Int) (h0 : -2147483648 ≤ z) (h1 : z ≤ 2147483647) (h : isRn z = false) (w : World) : Calls Try.prog 21 #[.int .i32 z] w fun e w' => e = .returned (.tuple #[.string ⟨#[]⟩, .int .i64 150]) ∧ w' = w := by
  have HC : Hid (∀ W : World, _) := fun W => risRune_any z W
  rw [h] at HC
  clear h
  go_enter Try.func21, Try.ntmps21
  go_wp2_with fail
  refine (HC.out _).mono ?_
  rintro e w1 ⟨rfl, rfl⟩
  go_wp2_with fail
  go_ret2
  exact ⟨rfl, rfl⟩
theorem runesBytes_snoc (l : List Int) (z : Int) : runesBytes (l ++ [z]) = runesBytes l ++ Utf8.encode z := by simp [runesBytes]
theorem take_snocI {l : List Int} {k : Nat} {z : Int} (h : l[k]? = some z) : l.take (k + 1) = l.take k ++ [z] := by
  rw [List.take_add_one, h]; rfl
set_option maxRecDepth 20000 in
set_option maxHeartbeats 2000000 in
theorem rtext_any (a : Option Addr) (cap : Nat) (l : List Int) (w : World) (h : RunesAt w a l) (hl : l.length ≤ 1048576) (hz : ∀ z ∈ l, -2147483648 ≤ z ∧ z ≤ 2147483647) : Calls Try.prog 19 #[.slice a l.length cap] w fun e w' => e = .returned (.tuple (textV l)) ∧ Below w.heap.size w w' := by
  have HA : Hid _ := h
  have HZ : Hid _ := hz
  obtain ⟨T, hT⟩ : ∃ T, textV l = T := ⟨_, rfl⟩
  have HT : Hid _ := hT
  rw [hT]
  clear h hT hz
  go_enter Try.func19, Try.ntmps19
  go_wp2_with fail
  go_loopw [4, 5] (fun v i wr => ∃ (k : Nat) (S : ByteArray), k ≤ l.length ∧ i = .int .i64 (k : Int) ∧ v = .string S ∧ Hid (S = runesBytes (l.take k)) ∧ Hid (∀ j, j < k → ∀ z, l[j]? = some z → isRn z = true) ∧ Below w.heap.size w wr) (fun _ i _ => l.length - (intOf i).toNat)
  case atStart => exact ⟨0, _, by omega, rfl, rfl, rfl, fun j hj => by omega, Below.refl _ _⟩
  case round =>
    obtain ⟨k, S, hk, rfl, rfl, HS, HJ, hb⟩ := hrel
    by_cases hlt : k < l.length
    · have hz : l[k]? = some l[k] := List.getElem?_eq_getElem hlt
      obtain ⟨z, hzz⟩ : ∃ z, l[k] = z := ⟨_, rfl⟩
      rw [hzz] at hz
      have HZ1 : Hid _ := hz
      have hzb := HZ.out z (List.mem_of_getElem? hz)
      obtain ⟨p, off, rfl, hp, h1⟩ := HA.out k z hz
      have h1' := (hb.cell (p := ⟨p, off + k, none⟩) hp).trans h1
      have hlz : (k : Int) < (l.length : Int) := by omega
      have hSs : S.size ≤ 4194304 := by
        rw [HS.out]
        have := runesBytes_size_le (l.take k)
        rw [List.length_take] at this
        omega
      cases hr : isRn z with
      | true =>
        have HI : Hid (∀ W : World, _) := fun W => rencode_ok z hr W
        have HJ2 : Hid (∀ j, j < k + 1 → ∀ z, l[j]? = some z → isRn z = true) := fun j hj y hy => by
          rcases Nat.lt_succ_iff_lt_or_eq.1 hj with q | rfl
          · exact HJ.out j q y hy
          · rw [HZ1.out, Option.some.injEq] at hy; rw [← hy]; exact hr
        have HS2 : Hid (S ++ Utf8.encode z = runesBytes (l.take (k + 1))) := by rw [Hid, take_snocI HZ1.out, runesBytes_snoc, HS.out]
        have hEs := encode_size_le z
        obtain ⟨E, hE⟩ : ∃ E, Utf8.encode z = E := ⟨_, rfl⟩
        rw [hE] at HI HS2 hEs
        clear hz hzz hr HJ h1 hE hzb HS
        go_wp2_with fail
        refine (HI.out _).mono ?_
        rintro e w2 ⟨rfl, b2⟩
        have B2 := hb.trans (b2.mono hb.size)
        clear hb b2 h1'
        go_wp2_with fail
        go_roundw
        case rel => exact ⟨k + 1, _, by omega, by go_num, rfl, HS2.out, HJ2.out, B2⟩
        case measure => simp [intOf]; omega
      | false =>
        have HI : Hid (∀ W : World, _) := fun W => rencode_bad z hzb.1 hzb.2 hr W
        have HE : Hid (T = #[.string ⟨#[]⟩, .int .i64 150]) := by
          rw [Hid, ← HT.out, textV, if_neg]
          intro e
          have := List.all_eq_true.1 e z (List.mem_of_getElem? HZ1.out)
          rw [hr] at this
          cases this
        clear hz hzz hr HJ h1 hzb HS
        go_wp2_with fail
        refine (HI.out _).mono ?_
        rintro e w2 ⟨rfl, rfl⟩
        go_wp2_with fail
        go_ret2
        exact ⟨by rw [HE.out]; rfl, hb⟩
    · have hlz : ¬ (k : Int) < (l.length : Int) := by omega
      have HE : Hid (T = #[.string S, .int .i64 0]) := by
        rw [Hid, ← HT.out, textV, if_pos (all_take HJ.out (by omega)), HS.out, List.take_of_length_le (by omega)]
      go_wp2_with fail
      go_ret2
      exact ⟨by rw [HE.out]; rfl, hb⟩
theorem byte_app {a b : List UInt8} {j : Nat} (h : j < a.length) : byteAt ⟨(a ++ b).toArray⟩ j = (a.getD j 0).toNat := by
  unfold byteAt
  simp [List.getD_eq_getElem?_getD, List.getElem?_append_left h]
theorem two56 {x : Nat} (h : x < 256) : (UInt8.ofNat x).toNat = x := by rw [UInt8.toNat_ofNat', Nat.mod_eq_of_lt h]
theorem dec_enc (n : Nat) (h : isRn (n : Int) = true) (r : List UInt8) : Utf8.decode ⟨((Utf8.encode (n : Int)).data.toList ++ r).toArray⟩ 0 = (n, (Utf8.encode (n : Int)).data.toList.length) := by
  obtain ⟨m, hm, hm1, hm2⟩ := isRn_nat h
  obtain rfl : n = m := by omega
  by_cases c1 : n < 128
  · rw [enc1 h c1]
    have e := dec_eq ⟨(([UInt8.ofNat n] : List UInt8) ++ r).toArray⟩
    rw [byte_app (j := 0) (by simp)] at e
    simp only [List.getD_cons_zero, two56 (show n < 256 by omega)] at e
    rw [if_pos c1] at e
    show Utf8.decode ⟨(([UInt8.ofNat n] : List UInt8) ++ r).toArray⟩ 0 = (n, 1)
    generalize Utf8.decode ⟨(([UInt8.ofNat n] : List UInt8) ++ r).toArray⟩ 0 = d at e ⊢
    obtain ⟨d1, d2⟩ := d
    simp only [Prod.mk.injEq] at e ⊢
    omega
  by_cases c2 : n < 2048
  · rw [enc2 h c1 c2]
    have e := dec_eq ⟨(([UInt8.ofNat (192 + n / 64), UInt8.ofNat (128 + n % 64)] : List UInt8) ++ r).toArray⟩
    rw [byte_app (j := 0) (by simp), byte_app (j := 1) (by simp)] at e
    simp only [List.getD_cons_zero, List.getD_cons_succ, two56 (show 192 + n / 64 < 256 by omega), two56 (show 128 + n % 64 < 256 by omega)] at e
    rw [if_neg (by omega), if_pos ⟨by simp [ByteArray.size], by unfold ok2; omega⟩] at e
    show Utf8.decode ⟨(([UInt8.ofNat (192 + n / 64), UInt8.ofNat (128 + n % 64)] : List UInt8) ++ r).toArray⟩ 0 = (n, 2)
    generalize Utf8.decode ⟨(([UInt8.ofNat (192 + n / 64), UInt8.ofNat (128 + n % 64)] : List UInt8) ++ r).toArray⟩ 0 = d at e ⊢
    obtain ⟨d1, d2⟩ := d
    unfold num2 at e
    simp only [Prod.mk.injEq] at e ⊢
    omega
  by_cases c3 : n < 65536
  · rw [enc3 h c2 c3]
    have e := dec_eq ⟨(([UInt8.ofNat (224 + n / 4096), UInt8.ofNat (128 + n / 64 % 64), UInt8.ofNat (128 + n % 64)] : List UInt8) ++ r).toArray⟩
    rw [byte_app (j := 0) (by simp), byte_app (j := 1) (by simp), byte_app (j := 2) (by simp)] at e
    simp only [List.getD_cons_zero, List.getD_cons_succ, two56 (show 224 + n / 4096 < 256 by omega), two56 (show 128 + n / 64 % 64 < 256 by omega), two56 (show 128 + n % 64 < 256 by omega)] at e
    rw [if_neg (by omega), if_neg (by unfold ok2; omega), if_pos ⟨by simp [ByteArray.size], by unfold ok3 num3; omega⟩] at e
    show Utf8.decode ⟨(([UInt8.ofNat (224 + n / 4096), UInt8.ofNat (128 + n / 64 % 64), UInt8.ofNat (128 + n % 64)] : List UInt8) ++ r).toArray⟩ 0 = (n, 3)
    generalize Utf8.decode ⟨(([UInt8.ofNat (224 + n / 4096), UInt8.ofNat (128 + n / 64 % 64), UInt8.ofNat (128 + n % 64)] : List UInt8) ++ r).toArray⟩ 0 = d at e ⊢
    obtain ⟨d1, d2⟩ := d
    unfold num3 at e
    simp only [Prod.mk.injEq] at e ⊢
    omega
  · rw [enc4 h c3]
    have e := dec_eq ⟨(([UInt8.ofNat (240 + n / 262144), UInt8.ofNat (128 + n / 4096 % 64), UInt8.ofNat (128 + n / 64 % 64), UInt8.ofNat (128 + n % 64)] : List UInt8) ++ r).toArray⟩
    rw [byte_app (j := 0) (by simp), byte_app (j := 1) (by simp), byte_app (j := 2) (by simp), byte_app (j := 3) (by simp)] at e
    simp only [List.getD_cons_zero, List.getD_cons_succ, two56 (show 240 + n / 262144 < 256 by omega), two56 (show 128 + n / 4096 % 64 < 256 by omega), two56 (show 128 + n / 64 % 64 < 256 by omega), two56 (show 128 + n % 64 < 256 by omega)] at e
    rw [if_neg (by omega), if_neg (by unfold ok2; omega), if_neg (by unfold ok3; omega), if_pos ⟨by simp [ByteArray.size], by unfold ok4 num4; omega⟩] at e
    show Utf8.decode ⟨(([UInt8.ofNat (240 + n / 262144), UInt8.ofNat (128 + n / 4096 % 64), UInt8.ofNat (128 + n / 64 % 64), UInt8.ofNat (128 + n % 64)] : List UInt8) ++ r).toArray⟩ 0 = (n, 4)
    generalize Utf8.decode ⟨(([UInt8.ofNat (240 + n / 262144), UInt8.ofNat (128 + n / 4096 % 64), UInt8.ofNat (128 + n / 64 % 64), UInt8.ofNat (128 + n % 64)] : List UInt8) ++ r).toArray⟩ 0 = d at e ⊢
    obtain ⟨d1, d2⟩ := d
    unfold num4 at e
    simp only [Prod.mk.injEq] at e ⊢
    omega
theorem decode_shift (s : ByteArray) (k j : Nat) : Utf8.decode (s.extract k s.size) j = Utf8.decode s (k + j) := by
  rw [← decode_tail (s.extract k s.size) j, ← decode_tail s (k + j)]
  congr 1
  apply ByteArray.ext
  apply Array.toList_inj.1
  rw [tail_list, tail_list, tail_list, List.drop_drop]
theorem runesF_shift (s : ByteArray) (k : Nat) : ∀ fuel j, runesF (s.extract k s.size) fuel j = runesF s fuel (k + j)
  | 0, _ => rfl
  | f + 1, j => by
    rw [runesF, runesF, decode_shift, runesF_shift s k f, tail_size, Nat.add_assoc]
    by_cases h : j < s.size - k
    · rw [if_pos h, if_pos (by omega)]
    · rw [if_neg h, if_neg (by omega)]
theorem enc_pos (n : Nat) (h : isRn (n : Int) = true) : 1 ≤ (Utf8.encode (n : Int)).data.toList.length := by
  by_cases c1 : n < 128
  · rw [enc1 h c1]; exact Nat.le_refl _
  by_cases c2 : n < 2048
  · rw [enc2 h c1 c2]; exact Nat.le_add_left 1 1
  by_cases c3 : n < 65536
  · rw [enc3 h c2 c3]; exact Nat.le_add_left 1 2
  · rw [enc4 h c3]; exact Nat.le_add_left 1 3
theorem flat_cons (n : Nat) (l : List Nat) : flat (n :: l) = (Utf8.encode (n : Int)).data.toList ++ flat l := by simp [flat]
theorem flat_step (E r : List UInt8) (n : Nat) (l : List Nat) (f : Nat) (hd : Utf8.decode ⟨(E ++ r).toArray⟩ 0 = (n, E.length)) (h1 : 1 ≤ E.length) (ih : runesF ⟨r.toArray⟩ f 0 = l) : runesF ⟨(E ++ r).toArray⟩ (f + 1) 0 = n :: l := by
  have hs : (⟨(E ++ r).toArray⟩ : ByteArray).size = E.length + r.length := by simp [ByteArray.size]
  have hx : (⟨(E ++ r).toArray⟩ : ByteArray).extract E.length (⟨(E ++ r).toArray⟩ : ByteArray).size = ⟨r.toArray⟩ := by
    apply ByteArray.ext
    apply Array.toList_inj.1
    rw [tail_list]
    simp
  have hsh := runesF_shift ⟨(E ++ r).toArray⟩ E.length f 0
  rw [hx, Nat.add_zero, ih] at hsh
  rw [runesF_next f (by rw [hs]; omega), hd, Nat.zero_add]
  exact congrArg (n :: ·) hsh.symm
theorem flat_back (l : List Nat) : ∀ (fuel : Nat), (∀ n ∈ l, isRn (n : Int) = true) → (flat l).length ≤ fuel → runesF ⟨(flat l).toArray⟩ fuel 0 = l := by
  induction l with
  | nil => intro fuel _ _; exact runesF_end fuel (by simp [flat, ByteArray.size])
  | cons n l ih =>
    intro fuel h hf
    have hn := h n (by simp)
    have hl1 := enc_pos n hn
    have hd := dec_enc n hn (flat l)
    rw [flat_cons] at hf ⊢
    generalize (Utf8.encode (n : Int)).data.toList = E at *
    rw [List.length_append] at hf
    obtain ⟨f, rfl⟩ : ∃ f, fuel = f + 1 := ⟨fuel - 1, by omega⟩
    exact flat_step E (flat l) n l f hd hl1 (ih f (fun m hm => h m (List.mem_cons_of_mem _ hm)) (by omega))
/-- The runes of what was written of runes are they. -/
theorem text_back (l : List Int) (h : l.all isRn = true) : (runesOf (runesBytes l)).map Int.ofNat = l := by
  have h1 := List.all_eq_true.1 h
  obtain ⟨m, rfl⟩ : ∃ m : List Nat, m.map Int.ofNat = l := ⟨l.map Int.toNat, by
    rw [List.map_map]
    conv => rhs; rw [← List.map_id l]
    apply List.map_congr_left
    intro z hz
    obtain ⟨n, rfl, _⟩ := isRn_nat (h1 z hz)
    rfl⟩
  have hb : runesBytes (m.map Int.ofNat) = ⟨(flat m).toArray⟩ := by
    apply ByteArray.ext
    apply Array.toList_inj.1
    rw [runesBytes_flat]
  rw [hb, runesOf, flat_back m _ (fun n hn => h1 _ (List.mem_map.2 ⟨n, hn, rfl⟩)) (by simp [ByteArray.size])]
end Go.Proofs.Ytbhlpiilklgnkaa
