/-
  Tokens: what they are; the contracts of Token, ParseToken and of the twin's.
-/
import Derived.Test.YtedibkcempcpnaaDoorTKnm
import Derived.Test.YtedibkcempcpnaaDoorUnb
namespace Go.Proofs.YtedibkcempcpnaaDoor.T
open Go.RowKit K
def tokT (n d : Nat) : ByteArray := ⟨(enc 0 0 (K.be8 n ++ K.be8 d)).toArray⟩
/-- What letters tell. -/
def b64 (l : List UInt8) : Option (List UInt8) := match dec 0 0 l with
  | some (o, n, r) => if n = 6 ∨ r ≠ 0 then none else some o
  | none => none
theorem unbV_eq (l : List UInt8) : unbV l = match b64 l with | some o => #[.string ⟨o.toArray⟩, .bool true] | none => #[.string ⟨#[]⟩, .bool false] := by
  unfold unbV b64
  cases h : dec 0 0 l with
  | none => rfl
  | some t =>
    obtain ⟨o, n, r⟩ := t
    by_cases q : n = 6 ∨ r ≠ 0
    · show (if n = 6 ∨ r ≠ 0 then _ else _) = match (if n = 6 ∨ r ≠ 0 then none else some o) with | some o => _ | none => _
      rw [if_pos q, if_pos q]
    · show (if n = 6 ∨ r ≠ 0 then _ else _) = match (if n = 6 ∨ r ≠ 0 then none else some o) with | some o => _ | none => _
      rw [if_neg q, if_neg q]
theorem b64_some {l o : List UInt8} (h : b64 l = some o) : enc 0 0 o = l := by
  unfold b64 at h
  cases hd : dec 0 0 l with
  | none => rw [hd] at h; cases h
  | some t =>
    obtain ⟨o', n, r⟩ := t
    rw [hd] at h
    simp only at h
    by_cases q : n = 6 ∨ r ≠ 0
    · rw [if_pos q] at h; cases h
    · rw [if_neg q, Option.some.injEq] at h
      subst h
      exact ((enc_dec l).1 o' n r hd).2 q
theorem b64_enc (o : List UInt8) : b64 (enc 0 0 o) = some o := by
  obtain ⟨n, h, h6⟩ := (dec_enc o).1
  unfold b64
  rw [h]
  exact if_neg (by omega)
theorem b64_len {l o : List UInt8} (h : b64 l = some o) : l.length = (8 * o.length + 5) / 6 := by
  rw [← b64_some h]
  exact (enc_len o).1 0
def parT (s : ByteArray) : Nat × Nat × Int := match b64 s.data.toList with
  | some o => if o.length = 16 then (beNat (o.take 8), beNat (o.drop 8), 0) else (0, 0, 211)
  | none => (0, 0, 211)
theorem parT_none {s : ByteArray} (h : b64 s.data.toList = none) : parT s = (0, 0, 211) := by rw [parT, h]
theorem parT_some {s : ByteArray} {o : List UInt8} (h : b64 s.data.toList = some o) (h16 : o.length = 16) : parT s = (beNat (o.take 8), beNat (o.drop 8), 0) := by
  unfold parT
  rw [h]
  exact if_pos h16
theorem parT_not {s : ByteArray} {o : List UInt8} (h : b64 s.data.toList = some o) (h16 : ¬ o.length = 16) : parT s = (0, 0, 211) := by
  unfold parT
  rw [h]
  exact if_neg h16
theorem size_toL (s : ByteArray) : s.data.toList.length = s.size := by simp
theorem parT_size {s : ByteArray} (h : s.size ≠ 22) : parT s = (0, 0, 211) := by
  cases hb : b64 s.data.toList with
  | none => exact parT_none hb
  | some o =>
    refine parT_not hb (fun q => h ?_)
    have := b64_len hb
    rw [size_toL, q] at this
    omega
theorem parT_16 {s : ByteArray} {o : List UInt8} (h : b64 s.data.toList = some o) (h22 : s.size = 22) : o.length = 16 := by
  have := b64_len h
  rw [size_toL] at this
  omega
theorem b8_len (n : Nat) : (K.be8 n).length = 8 := rfl
theorem parT_tok {n d : Nat} (hn : n < 18446744073709551616) (hd : d < 18446744073709551616) : parT (tokT n d) = (n, d, 0) := by
  have hb : b64 (tokT n d).data.toList = some (K.be8 n ++ K.be8 d) := b64_enc _
  rw [parT_some hb (by rw [List.length_append, b8_len, b8_len]), List.take_left' (b8_len n), List.drop_left' (b8_len n), beNat8 hn, beNat8 hd]
theorem tok_parT {s : ByteArray} (h : (parT s).2.2 = 0) : tokT (parT s).1 (parT s).2.1 = s := by
  cases hb : b64 s.data.toList with
  | none => rw [parT_none hb] at h; cases h
  | some o =>
    by_cases h16 : o.length = 16
    · rw [parT_some hb h16]
      show tokT (beNat (o.take 8)) (beNat (o.drop 8)) = s
      unfold tokT
      rw [be8_beNat (by rw [List.length_take]; omega), be8_beNat (by rw [List.length_drop]; omega), List.take_append_drop, b64_some hb]
    · rw [parT_not hb h16] at h; cases h
theorem tok_inj {n d m o : Nat} (hn : n < 18446744073709551616) (hd : d < 18446744073709551616) (hm : m < 18446744073709551616) (ho : o < 18446744073709551616) : tokT m o = tokT n d ↔ (m = n ∧ o = d) := by
  constructor
  · intro h
    have h1 := parT_tok hm ho
    rw [h, parT_tok hn hd] at h1
    simp only [Prod.mk.injEq] at h1
    exact ⟨h1.1.symm, h1.2.1.symm⟩
  · rintro ⟨rfl, rfl⟩; rfl
theorem tokT_size (n d : Nat) : (tokT n d).size = 22 := by
  show (enc 0 0 (K.be8 n ++ K.be8 d)).toArray.size = 22
  rw [List.size_toArray, (enc_len _).1 0, List.length_append, b8_len, b8_len]
theorem parT_lt (s : ByteArray) : (parT s).1 < 18446744073709551616 ∧ (parT s).2.1 < 18446744073709551616 := by
  cases hb : b64 s.data.toList with
  | none => rw [parT_none hb]; exact ⟨by decide, by decide⟩
  | some o =>
    by_cases h16 : o.length = 16
    · rw [parT_some hb h16]
      have h1 := beNat_lt (o.take 8)
      have h2 := beNat_lt (o.drop 8)
      rw [List.length_take, show min 8 o.length = 8 by omega] at h1
      rw [List.length_drop, show o.length - 8 = 8 by omega] at h2
      exact ⟨h1, h2⟩
    · rw [parT_not hb h16]; exact ⟨by decide, by decide⟩
set_option maxRecDepth 20000 in
set_option maxHeartbeats 4000000 in
theorem token_any (n d : Nat) (hn : n < 18446744073709551616) (hd : d < 18446744073709551616) (w : World) : Calls Tryd.prog 19 #[.int .u64 n, .int .u64 d] w fun e w' => e = .returned (.string (tokT n d)) ∧ Below w.heap.size w w' := by
  have HT : Hid (tokT n d = ⟨(enc 0 0 (K.be8 n ++ K.be8 d)).toArray⟩) := rfl
  obtain ⟨T, hT⟩ : ∃ T, tokT n d = T := ⟨_, rfl⟩
  rw [hT] at HT ⊢
  clear hT
  go_enter Tryd.func19, Tryd.ntmps19
  go_wp2_with fail
  refine (newWriter_any 16 _).mono ?_
  rintro e w1 ⟨rfl, h1, k1⟩
  have hm : max (16 : Int) 0 = 16 := by decide
  rw [hm] at h1
  have h1' := h1.none w.heap.size
  have HB1 : Hid (Below w.heap.size w w1) := k1.below (Nat.le_refl _) (fun k f => f.elim)
  have hsz := k1.size
  clear h1 k1 hm
  go_wp2_with fail
  refine (wu64_ok n h1' hsz hn (by decide) (by decide) (by simp) (by simp)).mono ?_
  rintro e w2 ⟨rfl, ⟨v2, h2⟩, k2⟩
  have HB2 : Hid (Below w.heap.size w w2) := HB1.out.trans (k2.below hsz (fun k s => by rcases s with s | s <;> omega))
  have hsz2 := k2.size
  clear h1' k2
  go_wp2_with fail
  refine (wu64_ok d h2 (by omega) hd (by decide) (by decide) (by simp [K.be8]) (by simp [K.be8])).mono ?_
  rintro e w3 ⟨rfl, ⟨v3, h3⟩, k3⟩
  have HB3 : Hid (Below w.heap.size w w3) := HB2.out.trans (k3.below (by omega) (fun k s => by rcases s with s | s <;> omega))
  clear h2 k3 hsz2
  go_wp2_with fail
  refine (wdone_ok h3).mono ?_
  rintro e w4 ⟨rfl, rfl⟩
  clear h3
  go_wp2_with fail
  refine (base64_any _ _ (by simp [ByteArray.size, K.be8])).mono ?_
  rintro e w5 ⟨rfl, b5⟩
  go_wp2_with fail
  go_ret
  exact ⟨by rw [HT.out]; rfl, HB3.out.trans (b5.mono HB3.out.size)⟩
set_option maxRecDepth 20000 in
set_option maxHeartbeats 4000000 in
theorem qtoken_any (n d : Nat) (hn : n < 18446744073709551616) (hd : d < 18446744073709551616) (w : World) : Calls Tryd.prog 22 #[.int .u64 n, .int .u64 d] w fun e w' => e = .returned (.string (tokT n d)) ∧ Below w.heap.size w w' := by
  have HT : Hid (tokT n d = ⟨(enc 0 0 ((⟨(K.be8 n).toArray⟩ : ByteArray) ++ ⟨(K.be8 d).toArray⟩).data.toList).toArray⟩) := by
    rw [Hid, ByteArray.data_append, Array.toList_append]
    rfl
  have z1 : (⟨(K.be8 n).toArray⟩ : ByteArray).size = 8 := rfl
  have z2 : (⟨(K.be8 d).toArray⟩ : ByteArray).size = 8 := rfl
  have H1 : Hid (∀ W : World, _) := fun W => number8 n W hn
  have H2 : Hid (∀ W : World, _) := fun W => number8 d W hd
  obtain ⟨T, hT⟩ : ∃ T, tokT n d = T := ⟨_, rfl⟩
  obtain ⟨A, hA⟩ : ∃ A, (⟨(K.be8 n).toArray⟩ : ByteArray) = A := ⟨_, rfl⟩
  obtain ⟨B, hB⟩ : ∃ A, (⟨(K.be8 d).toArray⟩ : ByteArray) = A := ⟨_, rfl⟩
  rw [hT] at HT ⊢
  rw [hA] at HT z1 H1
  rw [hB] at HT z2 H2
  clear hT hA hB
  have hzz : (A ++ B).size = 16 := by rw [ByteArray.size_append]; omega
  go_enter Tryd.func22, Tryd.ntmps22
  go_wp2_with fail
  refine (H1.out _).mono ?_
  rintro e w1 ⟨rfl, b1⟩
  have HB1 : Hid (Below w.heap.size w w1) := b1
  clear b1
  go_wp2_with fail
  refine (H2.out _).mono ?_
  rintro e w2 ⟨rfl, b2⟩
  have HB2 : Hid (Below w.heap.size w w2) := HB1.out.trans (b2.mono HB1.out.size)
  clear b2
  go_wp2_with fail
  refine (refBase64_any (A ++ B) _ (by omega)).mono ?_
  rintro e w5 ⟨rfl, b5⟩
  go_wp2_with fail
  go_ret
  exact ⟨by rw [HT.out]; rfl, HB2.out.trans (b5.mono HB2.out.size)⟩
set_option maxRecDepth 20000 in
set_option maxHeartbeats 4000000 in
theorem ptoken_any (s : ByteArray) (hs : s.size ≤ 140737488351232) (w : World) : Calls Tryd.prog 20 #[.string s] w fun e w' => e = .returned (.tuple #[.int .u64 (parT s).1, .int .u64 (parT s).2.1, .int .i64 (parT s).2.2]) ∧ Below w.heap.size w w' := by
  have H1 : Hid (∀ W : World, _) := fun W => unbase64_any s W hs
  rw [unbV_eq] at H1
  by_cases h22 : s.size = 22
  · have q0 : ((s.size : Int) != 22) = false := by simp; omega
    have HP0 : Hid (b64 s.data.toList = none → _) := parT_none
    have HP1 : Hid (∀ o, b64 s.data.toList = some o → o.length = 16) := fun o h => parT_16 h h22
    have HP2 : Hid (∀ o, b64 s.data.toList = some o → o.length = 16 → _) := fun o h q => parT_some h q
    obtain ⟨R, hR⟩ : ∃ R, parT s = R := ⟨_, rfl⟩
    rw [hR] at HP0 HP2 ⊢
    clear hR
    cases hb : b64 s.data.toList with
    | none =>
      rw [hb] at H1
      have HR : Hid (R = (0, 0, 211)) := HP0.out hb
      clear hb HP0 HP1 HP2
      go_enter Tryd.func20, Tryd.ntmps20
      go_wp2_with fail
      refine (H1.out _).mono ?_
      rintro e w1 ⟨rfl, b1⟩
      go_wp2_with fail
      go_ret3
      exact ⟨by rw [HR.out]; rfl, b1⟩
    | some o =>
      rw [hb] at H1
      have h16 := HP1.out o hb
      have HR : Hid (R = _) := HP2.out o hb h16
      obtain ⟨b, hbb⟩ : ∃ b, (⟨o.toArray⟩ : ByteArray) = b := ⟨_, rfl⟩
      have hbs : b.size = 16 := by rw [← hbb]; show o.toArray.size = 16; simpa using h16
      have e1 : (rTake b 0 8).1.data.toList = o.take 8 := by
        rw [rTake_ok (by omega), ← hbb]
        show ((⟨o.toArray⟩ : ByteArray).extract 0 8).data.toList = _
        simp
      have e2 : (rTake (rTake b 0 8).2.1 (rTake b 0 8).2.2 8).1.data.toList = o.drop 8 := by
        rw [rTake_ok (by omega)]
        show (rTake (b.extract 8 b.size) 0 8).1.data.toList = _
        rw [rTake_ok (by rw [ByteArray.size_extract]; omega)]
        show ((b.extract 8 b.size).extract 0 8).data.toList = _
        rw [hbs, ← hbb]
        simp
        rw [List.take_of_length_le (by rw [List.length_take, List.length_drop]; omega), List.take_of_length_le (by rw [List.length_drop]; omega)]
      have z1 : (rTake b 0 8).2.1.size ≤ maxLen := by
        rw [rTake_ok (by omega)]
        show (b.extract 8 b.size).size ≤ _
        rw [ByteArray.size_extract]
        unfold maxLen
        omega
      simp only at H1
      rw [hbb] at H1
      have HE1 : Hid _ := e1
      have HE2 : Hid _ := e2
      have HZ1 : Hid _ := z1
      clear hb HP0 HP1 HP2 e1 e2 z1 hbb
      go_enter Tryd.func20, Tryd.ntmps20
      go_wp2_with fail
      refine (H1.out _).mono ?_
      rintro e w1 ⟨rfl, b1⟩
      have HB1 : Hid (Below w.heap.size w w1) := b1
      clear b1
      go_wp2_with fail
      refine (newReader_any b _).mono ?_
      rintro e w2 ⟨rfl, h2, k2⟩
      have HB2 : Hid (Below w.heap.size w w2) := HB1.out.trans (k2.below HB1.out.size (fun k f => f.elim))
      clear k2
      go_wp2_with fail
      refine (u64_any _ b 0 _ h2 (by unfold maxLen; omega)).mono ?_
      rintro e w3 ⟨rfl, h3, k3⟩
      have HB3 : Hid (Below w.heap.size w w3) := HB2.out.trans (k3.below HB2.out.size (fun k q => by rw [q]; exact HB1.out.size))
      clear k3 h2
      go_wp2_with fail
      refine (u64_any _ _ _ _ h3 HZ1.out).mono ?_
      rintro e w4 ⟨rfl, h4, k4⟩
      have HB4 : Hid (Below w.heap.size w w4) := HB3.out.trans (k4.below HB3.out.size (fun k q => by rw [q]; exact HB1.out.size))
      clear k4 h3 h4
      rw [HE1.out, HE2.out]
      go_wp2_with fail
      go_ret3
      exact ⟨by rw [HR.out]; rfl, HB4.out⟩
  · have HR : Hid (parT s = (0, 0, 211)) := parT_size h22
    obtain ⟨R, hR⟩ : ∃ R, parT s = R := ⟨_, rfl⟩
    rw [hR] at HR ⊢
    have q0 : ((s.size : Int) != 22) = true := by simp; omega
    have q1 : ((s.size : Int) == 22) = false := by simp; omega
    clear hR
    go_enter Tryd.func20, Tryd.ntmps20
    go_wp2_with fail
    go_ret3
    exact ⟨by rw [HR.out]; rfl, Below.refl _ _⟩
set_option maxRecDepth 20000 in
set_option maxHeartbeats 4000000 in
theorem qptoken_any (s : ByteArray) (hs : s.size ≤ 140737488351232) (w : World) : Calls Tryd.prog 21 #[.string s] w fun e w' => e = .returned (.tuple #[.int .u64 (parT s).1, .int .u64 (parT s).2.1, .int .i64 (parT s).2.2]) ∧ Below w.heap.size w w' := by
  have H1 : Hid (∀ W : World, _) := fun W => refUnbase64_any s W hs
  rw [unbV_eq] at H1
  have HP0 : Hid (b64 s.data.toList = none → _) := parT_none
  have HP1 : Hid (∀ o, b64 s.data.toList = some o → ¬ o.length = 16 → _) := fun o h q => parT_not h q
  have HP2 : Hid (∀ o, b64 s.data.toList = some o → o.length = 16 → _) := fun o h q => parT_some h q
  obtain ⟨R, hR⟩ : ∃ R, parT s = R := ⟨_, rfl⟩
  rw [hR] at HP0 HP1 HP2 ⊢
  clear hR
  cases hb : b64 s.data.toList with
  | none =>
    rw [hb] at H1
    have HR : Hid (R = (0, 0, 211)) := HP0.out hb
    clear hb HP0 HP1 HP2
    go_enter Tryd.func21, Tryd.ntmps21
    go_wp2_with fail
    refine (H1.out _).mono ?_
    rintro e w1 ⟨rfl, b1⟩
    go_wp2_with fail
    go_ret3
    exact ⟨by rw [HR.out]; rfl, b1⟩
  | some o =>
    rw [hb] at H1
    simp only at H1
    obtain ⟨b, hbb⟩ : ∃ b, (⟨o.toArray⟩ : ByteArray) = b := ⟨_, rfl⟩
    have hbl : b.size = o.length := by rw [← hbb]; show o.toArray.size = _; simp
    rw [hbb] at H1
    have hol : (8 * o.length + 5) / 6 = s.size := by rw [← size_toL, b64_len hb]
    by_cases h16 : o.length = 16
    · have HR : Hid (R = _) := HP2.out o hb h16
      have hbs : b.size = 16 := by omega
      have q0 : ((b.size : Int) != 16) = false := by simp; omega
      have q2 : (8 : Int) ≤ (b.size : Int) := by omega
      have e1 : (b.extract 0 8).data.toList = o.take 8 := by rw [← hbb]; simp
      have e2 : (b.extract 8 16).data.toList = o.drop 8 := by
        rw [← hbb]
        simp
        rw [List.take_of_length_le (by rw [List.length_drop]; omega)]
      rw [← e1, ← e2] at HR
      clear hb HP0 HP1 HP2 e1 e2 hbb hol hbl
      go_enter Tryd.func21, Tryd.ntmps21
      go_wp2_with fail
      refine (H1.out _).mono ?_
      rintro e w1 ⟨rfl, b1⟩
      have HB1 : Hid (Below w.heap.size w w1) := b1
      clear b1
      go_wp2_with fail
      go_quiet (first | (go_at_call 42; exact Calls.quiet_of_same (read_any _ (by rw [ByteArray.size_extract]; omega) _)))
      go_wp2_with fail
      go_ret3
      exact ⟨by rw [HR.out]; rfl, below_drewN HB1.out _⟩
    · have HR : Hid (R = (0, 0, 211)) := HP1.out o hb h16
      have q0 : ((b.size : Int) != 16) = true := by simp; omega
      have q1 : ((b.size : Int) == 16) = false := by simp; omega
      clear hb HP0 HP1 HP2 hbb
      go_enter Tryd.func21, Tryd.ntmps21
      go_wp2_with fail
      refine (H1.out _).mono ?_
      rintro e w1 ⟨rfl, b1⟩
      go_wp2_with fail
      go_ret3
      exact ⟨by rw [HR.out]; rfl, b1⟩
end Go.Proofs.YtedibkcempcpnaaDoor.T
