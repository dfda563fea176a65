/-
  The reader of replies: the contracts of line, bytes, inCookie, cookie, size.
-/
import Derived.Test.YtdkbgbhcnbmlfaaDoorRdr
import Derived.Deep.QuietTactic
namespace Go.Proofs.YtdkbgbhcnbmlfaaDoor
open Go.RowKit
def crlf : ByteArray := ⟨#[13, 10]⟩
def lineE (n : Nat) (rest : List UInt8) (e : Int) : Int := if n = 0 ∧ rest ≠ [] then failR e 180 else e
def lineR (n : Nat) (rest : List UInt8) (e : Int) : List UInt8 × Int := (chs [crlf] (rest.drop n) (lineE n rest e)).2
theorem one_text (w : World) (s : ByteArray) : TextsAt (w.alloc (.cells #[.string s] 9)) (some ⟨w.heap.size, 0, none⟩) [s] := fun j z hj => by
  refine ⟨w.heap.size, 0, rfl, by simp, ?_⟩
  match j, hj with
  | 0, hj =>
    simp only [List.getElem?_cons_zero, Option.some.injEq] at hj
    subst hj
    exact cell_of_block (block_alloc_at w _) rfl
theorem RIs.alloc {w : World} {b : Nat} {rest : ByteArray} {e : Int} (h : RIs w b rest e) (o : Obj) : RIs (w.alloc o) b rest e := h.kept ((Keeps.refl (fun _ => False) w).alloc o) (fun f => f)
theorem ext_zero (s : ByteArray) : s.extract 0 0 = ByteArray.empty := by apply ext_list; simp
theorem empty_list {s : ByteArray} (h : s.size = 0) : s.data.toList = [] := by
  have := size_list s
  exact List.eq_nil_of_length_eq_zero (by omega)
set_option maxRecDepth 20000 in
set_option maxHeartbeats 4000000 in
theorem line_any (b n : Nat) (S : ByteArray) (e : Int) (w : World) (h : RIs w b S e) (hn : n ≤ S.size) :
    Calls Tryd.prog 49 #[.pointer (some ⟨b, 0, none⟩), .int .i64 (n : Nat)] w fun r w' => r = .returned (.string (S.extract 0 n)) ∧ RIs w' b (mkB (lineR n S.data.toList e).1) (lineR n S.data.toList e).2 ∧ Keeps (fun k => k = b) w w' := by
  have HI : Hid (RIs w b S e) := h
  have h0 := h.c0; have h1 := h.c1; have f0 := h.f0; have f1 := h.f1
  have HF : Hid (∀ W : World, RIs W b S e → _) := fun W q => fail_any b S e 180 W q
  have HX : Hid ((S.extract n S.size).data.toList = S.data.toList.drop n) := by
    rw [Hid]
    conv => lhs; rw [← list_mkB S]
    rw [mkB_suf, mkB_list]
  have HC : Hid (∀ (e' : Int) (W : World) (a : Option Addr), RIs W b (S.extract n S.size) e' → TextsAt W a [crlf] → _) := fun e' W a q1 q2 => choose_any b (S.extract n S.size) e' a 1 [crlf] W q1 q2 (by decide)
  rw [HX.out] at HC
  simp only [List.length_cons, List.length_nil, Nat.zero_add] at HC
  obtain ⟨T, hT⟩ : ∃ T, S.extract n S.size = T := ⟨_, rfl⟩
  rw [hT] at HC
  have HE : Hid (lineR n S.data.toList e = (chs [crlf] (S.data.toList.drop n) (lineE n S.data.toList e)).2) := rfl
  have tail : Hid (∀ (W : World) (e' : Int), lineE n S.data.toList e = e' → RIs W b S e' → Keeps (fun k => k = b) w W → Calls Tryd.prog 46 #[.pointer (some ⟨b, 0, none⟩), .slice (some ⟨W.heap.size, 0, none⟩) 1 1] ((W.setCell ⟨b, 0, none⟩ (.string T)).alloc (.cells #[.string ⟨#[13, 10]⟩] 9)) fun r w' => (∃ i : Nat, r = .returned (.int .i64 i)) ∧ RIs w' b (mkB (lineR n S.data.toList e).1) (lineR n S.data.toList e).2 ∧ Keeps (fun k => k = b) w w') := fun W e' q1 q2 q3 => by
    have z : (W.setCell ⟨b, 0, none⟩ (.string T)).heap.size = W.heap.size := by simp
    have q4 := q2.set0 T
    have q5 : Keeps (fun k => k = b) w (W.setCell ⟨b, 0, none⟩ (.string T)) := q3.setCell (Or.inl rfl) _
    rw [← z]
    refine (HC.out e' _ _ (q4.alloc _) (one_text _ _)).mono ?_
    rintro r w' ⟨rfl, r1, r2⟩
    rw [HE.out, q1]
    exact ⟨⟨_, rfl⟩, r1, q5.trans (((Keeps.refl _ _).alloc _).trans r2)⟩
  have hse := empty_list (s := S)
  obtain ⟨R, hR⟩ : ∃ R, lineR n S.data.toList e = R := ⟨_, rfl⟩
  rw [hR] at tail ⊢
  have HLE : Hid (lineE n S.data.toList e = if n = 0 ∧ S.data.toList ≠ [] then failR e 180 else e) := rfl
  have HEM : Hid (S.size ≠ 0 → S.data.toList ≠ []) := fun q r => by have := size_list S; rw [r] at this; exact q this.symm
  have hse2 : Hid (S.size = 0 → S.data.toList = []) := hse
  have tl : S.toList = S.data.toList := ByteArray.toList_eq S
  clear HC HE hR hse h
  by_cases hz : n = 0
  · subst hz
    by_cases hs0 : S.size = 0
    · have q1 : Hid (lineE 0 S.data.toList e = e) := by rw [Hid, HLE.out, hse2.out hs0]; simp
      have q2 : S.toList.isEmpty = true := by rw [tl, hse2.out hs0]; rfl
      clear hs0 tl
      go_enter Tryd.func49, Tryd.ntmps49
      go_wp2_with fail
      try rw [hT]
      refine (tail.out w e q1.out HI.out (Keeps.refl _ _)).mono ?_
      rintro r w' ⟨⟨i, rfl⟩, r1, r2⟩
      go_wp2_with fail
      go_ret
      exact ⟨by rw [ext_zero]; rfl, r1, r2⟩
    · have q1 : Hid (lineE 0 S.data.toList e = failR e 180) := by rw [Hid, HLE.out, if_pos ⟨rfl, HEM.out hs0⟩]
      have q2 : S.toList.isEmpty = false := by
        rw [tl]
        have := HEM.out hs0
        cases hq : S.data.toList with
        | nil => exact absurd hq this
        | cons => rfl
      clear tl
      go_enter Tryd.func49, Tryd.ntmps49
      go_wp2_with (go_at_call 48; refine (HF.out _ HI.out).mono ?_; rintro r w1 ⟨rfl, r1, r2⟩; have k0 := r1.c0; have k1 := r1.c1; have g0 := r1.f0)
      try rw [hT]
      refine (tail.out w1 _ q1.out r1 r2).mono ?_
      rintro r w' ⟨⟨i, rfl⟩, r3, r4⟩
      go_wp2_with fail
      go_ret
      exact ⟨by rw [ext_zero]; rfl, r3, r4⟩
  · have q1 : Hid (lineE n S.data.toList e = e) := by rw [Hid, HLE.out, if_neg (fun q => hz q.1)]
    have q2 : ((n : Int) == 0) = false := beq_eq_false_iff_ne.2 (by omega)
    clear tl
    go_enter Tryd.func49, Tryd.ntmps49
    go_wp2_with fail
    try rw [hT]
    refine (tail.out w e q1.out HI.out (Keeps.refl _ _)).mono ?_
    rintro r w' ⟨⟨i, rfl⟩, r1, r2⟩
    go_wp2_with fail
    go_ret
    exact ⟨rfl, r1, r2⟩
def bytesR (n : Nat) (rest : List UInt8) (e : Int) : List UInt8 × List UInt8 × Int := if rest.length < n then ([], rest, failR e 20) else (rest.take n, rest.drop n, e)
set_option maxRecDepth 20000 in
set_option maxHeartbeats 4000000 in
theorem bytes_any (b n : Nat) (S : ByteArray) (e : Int) (w : World) (h : RIs w b S e) :
    Calls Tryd.prog 37 #[.pointer (some ⟨b, 0, none⟩), .int .i64 (n : Nat)] w fun r w' => r = .returned (.string (mkB (bytesR n S.data.toList e).1)) ∧ RIs w' b (mkB (bytesR n S.data.toList e).2.1) (bytesR n S.data.toList e).2.2 ∧ Keeps (fun k => k = b) w w' := by
  have HI : Hid (RIs w b S e) := h
  have h0 := h.c0; have h1 := h.c1; have f0 := h.f0; have f1 := h.f1
  have HF : Hid (∀ W : World, RIs W b S e → _) := fun W q => fail_any b S e 20 W q
  have HLS : Hid (mkB S.data.toList = S) := list_mkB S
  have hlen := size_list S
  by_cases hlt : S.size < n
  · have HR : Hid (bytesR n S.data.toList e = ([], S.data.toList, failR e 20)) := by rw [Hid, bytesR, if_pos (by omega)]
    have q : (S.size : Int) < (n : Int) := by omega
    clear hlen
    go_enter Tryd.func37, Tryd.ntmps37
    go_wp2_with (go_at_call 48; refine (HF.out _ HI.out).mono ?_; rintro r w1 ⟨rfl, r1, r2⟩)
    go_ret
    rw [HR.out]
    exact ⟨rfl, by rw [HLS.out]; exact r1, r2⟩
  · have HR : Hid (bytesR n S.data.toList e = (S.data.toList.take n, S.data.toList.drop n, e)) := by rw [Hid, bytesR, if_neg (by omega)]
    have HX : Hid (S.extract n S.size = mkB (S.data.toList.drop n)) := by
      rw [Hid, ← mkB_suf, HLS.out]
    have HY : Hid (S.extract 0 n = mkB (S.data.toList.take n)) := by
      rw [Hid, ← mkB_pre, HLS.out]
    have q : ¬ (S.size : Int) < (n : Int) := by omega
    have q2 : n ≤ S.size := by omega
    clear hlen
    go_enter Tryd.func37, Tryd.ntmps37
    go_wp2_with fail
    go_ret
    rw [HR.out, HX.out]
    exact ⟨by rw [HY.out]; rfl, HI.out.set0 _, (Keeps.refl (fun k => k = b) _).setCell (Or.inl rfl) _⟩
def prB (x : Nat) : Bool := decide (32 ≤ x ∧ x ≤ 126)
def inC : List UInt8 → Nat
  | [] => 0
  | c :: cs => if prB c.toNat = true then inC cs + 1 else 0
theorem inC_le : ∀ l : List UInt8, inC l ≤ l.length
  | [] => Nat.le_refl _
  | c :: cs => by
    rw [inC, List.length_cons]
    split
    · exact Nat.succ_le_succ (inC_le cs)
    · exact Nat.zero_le _
set_option maxRecDepth 20000 in
set_option maxHeartbeats 4000000 in
theorem inCookie_any (s : ByteArray) (hs : s.size ≤ 140737488355328) (w : World) : Calls Tryd.prog 23 #[.string s] w fun e w' => e = .returned (.int .i64 (inC s.data.toList : Nat)) ∧ w' = w := by
  have HL : Hid (s.data.toList.length = s.size) := size_list s
  have HS0 : Hid (inC s.data.toList = 0 + inC (s.data.toList.drop 0)) := by rw [Hid, List.drop_zero, Nat.zero_add]
  obtain ⟨T, hT⟩ : ∃ T, inC s.data.toList = T := ⟨_, rfl⟩
  rw [hT] at HS0 ⊢
  clear hT
  go_enter Tryd.func23, Tryd.ntmps23
  go_wp2_with fail
  go_loopw [3] (fun i wr => ∃ k : Nat, k ≤ s.size ∧ i = .int .i64 k ∧ Hid (T = k + inC (s.data.toList.drop k)) ∧ wr = w) (fun i _ => s.size - (intOf i).toNat)
  case atStart => exact ⟨0, by omega, rfl, HS0.out, rfl⟩
  case round =>
    obtain ⟨k, hk, rfl, HN, rfl⟩ := hrel
    by_cases hlt : k < s.size
    · have r0 := fun W => run_byte s (i := k) (z := (k : Int)) rfl hlt W
      have hnx : inC (s.data.toList.drop k) = if prB (byteAt s k) = true then inC (s.data.toList.drop (k + 1)) + 1 else 0 := by
        rw [byteAt_drop hlt, inC, UInt8.toNat_ofNat_of_lt' (byteAt_lt s k)]
      obtain ⟨x, hx⟩ : ∃ x, byteAt s k = x := ⟨_, rfl⟩
      rw [hx] at r0 hnx
      have HNX : Hid _ := hnx
      have hlz : (k : Int) < (s.size : Int) := by omega
      clear hx hnx
      by_cases g1 : 32 ≤ x
      · have g1z : (32 : Int) ≤ (x : Int) := by omega
        by_cases g2 : x ≤ 126
        · have g2z : (x : Int) ≤ 126 := by omega
          have HQ : Hid (T = k + 1 + inC (s.data.toList.drop (k + 1))) := by rw [Hid, HN.out, HNX.out, if_pos (by simp [prB]; omega)]; omega
          go_wp2_with fail
          go_roundw
          case rel => exact ⟨k + 1, by omega, by go_num, HQ.out, by first | rfl | trivial⟩
          case measure => simp [intOf]; omega
        · have g2z : ¬ (x : Int) ≤ 126 := by omega
          have HQ : Hid (T = k) := by rw [Hid, HN.out, HNX.out, if_neg (by simp [prB]; omega)]; omega
          go_wp2_with fail
          go_ret
          exact ⟨by rw [HQ.out]; rfl, rfl⟩
      · have g1z : ¬ (32 : Int) ≤ (x : Int) := by omega
        have HQ : Hid (T = k) := by rw [Hid, HN.out, HNX.out, if_neg (by simp [prB]; omega)]; omega
        go_wp2_with fail
        go_ret
        exact ⟨by rw [HQ.out]; rfl, rfl⟩
    · obtain rfl : k = s.size := by omega
      have HQ : Hid (T = s.size) := by rw [Hid, HN.out, List.drop_of_length_le (by rw [HL.out]; omega)]; rfl
      go_wp2_with fail
      go_ret
      exact ⟨by rw [HQ.out]; rfl, rfl⟩
end Go.Proofs.YtdkbgbhcnbmlfaaDoor
