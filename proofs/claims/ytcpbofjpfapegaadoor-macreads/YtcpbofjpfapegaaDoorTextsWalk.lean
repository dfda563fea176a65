/-
  The walks of MacTexts and MacReads.
-/
import Derived.Test.YtcpbofjpfapegaaDoorUnb
import Derived.Test.YtcpbofjpfapegaaDoorAwake
import Derived.Test.YtcpbofjpfapegaaDoorHexW
namespace Go.Proofs.YtcpbofjpfapegaaDoor
open Go.RowKit
theorem s_mk (s : ByteArray) : (⟨s.data.toList.toArray⟩ : ByteArray) = s := by
  apply bytes_ext0
  rfl
set_option maxRecDepth 20000 in
set_option maxHeartbeats 1000000 in
theorem texts_walk (s : ByteArray) (w : World) (hK : GK w) (hs : s.size ≤ 1048576) :
    Calls Tryd.prog 7 #[.string s] w fun e w' => e = .returned (.bool true) ∧ Below w.heap.size w w' := by
  have HK : Hid (GK w) := hK
  clear hK
  have hll : s.data.toList.length = s.size := by simp
  obtain ⟨X, hX⟩ : ∃ X : ByteArray, X = ⟨(hexOf s.data.toList).toArray⟩ := ⟨_, rfl⟩
  obtain ⟨Y, hY⟩ : ∃ Y : ByteArray, Y = ⟨(enc 0 0 s.data.toList).toArray⟩ := ⟨_, rfl⟩
  have hXs : X.size = 2 * s.size := by rw [hX, mk_size, hexOf_len, hll]
  have hYs : Y.size = (8 * s.size + 5) / 6 := by rw [hY, mk_size, (enc_len _).1, hll]
  have HP23 : Hid (∀ W : World, Calls Tryd.prog 23 #[.string s] W fun e W' => e = .returned (.string X) ∧ Below W.heap.size W W') := by
    rw [Hid, hX]; exact fun W => hex_any s W (by omega)
  have HP26 : Hid (∀ W : World, Calls Tryd.prog 26 #[.string s] W fun e W' => e = .returned (.string X) ∧ Below W.heap.size W W') := by
    rw [Hid, hX]; exact fun W => refHex_any s W (by omega)
  have HP25 : Hid (∀ W : World, Calls Tryd.prog 25 #[.string s] W fun e W' => e = .returned (.string Y) ∧ Below W.heap.size W W') := by
    rw [Hid, hY]; exact fun W => base64_any s W (by omega)
  have HP27 : Hid (∀ W : World, Calls Tryd.prog 27 #[.string s] W fun e W' => e = .returned (.string Y) ∧ Below W.heap.size W W') := by
    rw [Hid, hY]; exact fun W => refBase64_any s W (by omega)
  have HP22 : Hid (∀ W : World, Calls Tryd.prog 22 #[.string X] W fun e W' => e = .returned (.tuple #[.string s, .bool true]) ∧ Below W.heap.size W W') := by
    intro W
    have h := unhex_any X W (by omega)
    have e : unhexV X.data.toList = #[.string s, .bool true] := by
      rw [hX]
      show unhexV (hexOf s.data.toList) = _
      rw [unhexV, unhex_hex]
    rw [e] at h
    exact h
  have HP24 : Hid (∀ W : World, Calls Tryd.prog 24 #[.string Y] W fun e W' => e = .returned (.tuple #[.string s, .bool true]) ∧ Below W.heap.size W W') := by
    intro W
    have h := unbase64_any Y W (by omega)
    have e : unbV Y.data.toList = #[.string s, .bool true] := by
      obtain ⟨⟨n, h1, h2⟩, _⟩ := dec_enc s.data.toList
      rw [hY]
      show unbV (enc 0 0 s.data.toList) = _
      rw [unbV, h1]
      show (if n = 6 ∨ (0 : Nat) ≠ 0 then _ else #[Value.string ⟨s.data.toList.toArray⟩, .bool true]) = _
      rw [if_neg (by omega), s_mk]
    rw [e] at h
    exact h
  obtain ⟨m, hm⟩ : ∃ m, Y.size = m := ⟨_, rfl⟩
  have hquo : (4 * (s.size : Int) + 2).tdiv 3 = (m : Int) := by rw [Int.tdiv_eq_ediv_of_nonneg (by omega)]; omega
  have HW : Hid (wrap64 (m : Int) = (m : Int)) := by rw [Hid]; unfold wrap64; omega
  clear hX hY hXs hYs hll
  go_enter Tryd.func7, Tryd.ntmps7
  go_wp2_with fail
  refine (HP23.out _).mono ?_
  rintro e1 w1 ⟨rfl, B1⟩
  go_wp2_with fail
  refine (HP22.out _).mono ?_
  rintro e2 w2 ⟨rfl, B2⟩
  go_wp2_with fail
  refine (HP25.out _).mono ?_
  rintro e3 w3 ⟨rfl, B3⟩
  go_wp2_with fail
  refine (HP24.out _).mono ?_
  rintro e4 w4 ⟨rfl, B4⟩
  have C4 : Below w.heap.size w w4 := ((B1.trans (B2.mono B1.size)).trans (B3.mono (Nat.le_trans B1.size B2.size))).trans (B4.mono (Nat.le_trans (Nat.le_trans B1.size B2.size) B3.size))
  clear B1 B2 B3 B4
  go_wp2_with fail
  refine (awake_any w4 (HK.out.below C4)).mono ?_
  rintro e5 w5 ⟨rfl, B5⟩
  have C5 : Below w.heap.size w w5 := C4.trans (B5.mono C4.size)
  clear B5 C4
  go_wp2_with fail
  refine (HP23.out _).mono ?_
  rintro e6 w6 ⟨rfl, B6⟩
  have C6 : Below w.heap.size w w6 := C5.trans (B6.mono C5.size)
  clear B6 C5
  go_wp2_with fail
  refine (HP26.out _).mono ?_
  rintro e7 w7 ⟨rfl, B7⟩
  have C7 : Below w.heap.size w w7 := C6.trans (B7.mono C6.size)
  clear B7 C6
  go_wp2_with fail
  refine (HP25.out _).mono ?_
  rintro e8 w8 ⟨rfl, B8⟩
  have C8 : Below w.heap.size w w8 := C7.trans (B8.mono C7.size)
  clear B8 C7
  go_wp2_with fail
  refine (HP27.out _).mono ?_
  rintro e9 w9 ⟨rfl, B9⟩
  have C9 : Below w.heap.size w w9 := C8.trans (B9.mono C8.size)
  clear B9 C8
  go_wp2_with fail
  refine (HP25.out _).mono ?_
  rintro e10 w10 ⟨rfl, B10⟩
  have C10 : Below w.heap.size w w10 := C9.trans (B10.mono C9.size)
  clear B10 C9
  go_wp2_with fail
  rw [HW.out, beq_self_eq_true]
  go_ret
  exact ⟨rfl, C10⟩
theorem unhexV_cases (l : List UInt8) : ∃ (A : ByteArray) (o : Bool), unhexV l = #[.string A, .bool o] ∧ (o = true → hexOf A.data.toList = l) := by
  unfold unhexV
  cases h : unhexL l with
  | none => exact ⟨⟨#[]⟩, false, rfl, fun e => by cases e⟩
  | some r => exact ⟨⟨r.toArray⟩, true, rfl, fun _ => hex_unhex _ l r (Nat.le_refl _) h⟩
theorem unbV_cases (l : List UInt8) : ∃ (A : ByteArray) (o : Bool), unbV l = #[.string A, .bool o] ∧ (o = true → enc 0 0 A.data.toList = l) := by
  unfold unbV
  cases h : dec 0 0 l with
  | none => exact ⟨⟨#[]⟩, false, rfl, fun e => by cases e⟩
  | some t =>
    obtain ⟨out, n, r⟩ := t
    by_cases hc : n = 6 ∨ r ≠ 0
    · exact ⟨⟨#[]⟩, false, if_pos hc, fun e => by cases e⟩
    · exact ⟨⟨out.toArray⟩, true, if_neg hc, fun _ => ((enc_dec l).1 out n r h).2 hc⟩
set_option maxRecDepth 20000 in
set_option maxHeartbeats 1000000 in
theorem reads_walk (s : ByteArray) (w : World) (hK : GK w) (hs : s.size ≤ 140737488351232) :
    Calls Tryd.prog 8 #[.string s] w fun e w' => e = .returned (.bool true) ∧ Below w.heap.size w w' := by
  have HK : Hid (GK w) := hK
  clear hK
  have hll : s.data.toList.length = s.size := by simp
  obtain ⟨A, oa, hA, hA2⟩ := unhexV_cases s.data.toList
  obtain ⟨C, oc, hC, hC2⟩ := unbV_cases s.data.toList
  have HP22 : Hid (∀ W : World, Calls Tryd.prog 22 #[.string s] W fun e W' => e = .returned (.tuple #[.string A, .bool oa]) ∧ Below W.heap.size W W') := by
    rw [Hid, ← hA]; exact fun W => unhex_any s W (by omega)
  have HP28 : Hid (∀ W : World, Calls Tryd.prog 28 #[.string s] W fun e W' => e = .returned (.tuple #[.string A, .bool oa]) ∧ Below W.heap.size W W') := by
    rw [Hid, ← hA]; exact fun W => refUnhex_any s W (by omega)
  have HP24 : Hid (∀ W : World, Calls Tryd.prog 24 #[.string s] W fun e W' => e = .returned (.tuple #[.string C, .bool oc]) ∧ Below W.heap.size W W') := by
    rw [Hid, ← hC]; exact fun W => unbase64_any s W (by omega)
  have HP29 : Hid (∀ W : World, Calls Tryd.prog 29 #[.string s] W fun e W' => e = .returned (.tuple #[.string C, .bool oc]) ∧ Below W.heap.size W W') := by
    rw [Hid, ← hC]; exact fun W => refUnbase64_any s W hs
  have HP23 : Hid (oa = true → ∀ W : World, Calls Tryd.prog 23 #[.string A] W fun e W' => e = .returned (.string s) ∧ Below W.heap.size W W') := by
    intro ho W
    have e := hA2 ho
    have hz : A.size ≤ 70368744177664 := by
      have h1 := congrArg List.length e
      rw [hexOf_len, hll] at h1
      have h2 : A.data.toList.length = A.size := by simp
      omega
    have h := hexW_any A W hz
    rw [e, s_mk] at h
    exact h
  have HP25 : Hid (oc = true → ∀ W : World, Calls Tryd.prog 25 #[.string C] W fun e W' => e = .returned (.string s) ∧ Below W.heap.size W W') := by
    intro ho W
    have e := hC2 ho
    have hz : C.size ≤ 105553116263424 := by
      have h1 := congrArg List.length e
      rw [(enc_len _).1, hll] at h1
      have h2 : C.data.toList.length = C.size := by simp
      omega
    have h := base64_any C W hz
    rw [e, s_mk] at h
    exact h
  clear hA hA2 hC hC2 hll
  go_enter Tryd.func8, Tryd.ntmps8
  go_wp2_with fail
  refine (HP22.out _).mono ?_
  rintro e1 w1 ⟨rfl, B1⟩
  go_wp2_with fail
  refine (HP28.out _).mono ?_
  rintro e2 w2 ⟨rfl, B2⟩
  go_wp2_with fail
  refine (HP24.out _).mono ?_
  rintro e3 w3 ⟨rfl, B3⟩
  go_wp2_with fail
  refine (HP29.out _).mono ?_
  rintro e4 w4 ⟨rfl, B4⟩
  have C4 : Below w.heap.size w w4 := ((B1.trans (B2.mono B1.size)).trans (B3.mono (Nat.le_trans B1.size B2.size))).trans (B4.mono (Nat.le_trans (Nat.le_trans B1.size B2.size) B3.size))
  clear B1 B2 B3 B4
  go_wp2_with fail
  refine (awake_any w4 (HK.out.below C4)).mono ?_
  rintro e5 w5 ⟨rfl, B5⟩
  have C5 : Below w.heap.size w w5 := C4.trans (B5.mono C4.size)
  clear B5 C4
  cases oa with
  | false =>
    cases oc with
    | false =>
      go_wp2_with fail
      go_ret
      exact ⟨rfl, C5⟩
    | true =>
      go_wp2_with fail
      refine (HP25.out (by first | rfl | trivial | simp) _).mono ?_
      rintro e6 w6 ⟨rfl, B6⟩
      have C6 : Below w.heap.size w w6 := C5.trans (B6.mono C5.size)
      go_wp2_with fail
      go_ret
      exact ⟨rfl, C6⟩
  | true =>
    go_wp2_with fail
    refine (HP23.out (by first | rfl | trivial | simp) _).mono ?_
    rintro e6 w6 ⟨rfl, B6⟩
    have C6 : Below w.heap.size w w6 := C5.trans (B6.mono C5.size)
    clear B6 C5
    cases oc with
    | false =>
      go_wp2_with fail
      go_ret
      exact ⟨rfl, C6⟩
    | true =>
      go_wp2_with fail
      refine (HP25.out (by first | rfl | trivial | simp) _).mono ?_
      rintro e7 w7 ⟨rfl, B7⟩
      have C7 : Below w.heap.size w w7 := C6.trans (B7.mono C6.size)
      go_wp2_with fail
      go_ret
      exact ⟨rfl, C7⟩
end Go.Proofs.YtcpbofjpfapegaaDoor
