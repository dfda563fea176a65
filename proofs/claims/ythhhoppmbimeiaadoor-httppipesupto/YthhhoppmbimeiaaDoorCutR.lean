/-
  The contracts of areFields and of the twin's cut.
-/
import Derived.Test.YthhhoppmbimeiaaDoorSameT
namespace Go.Proofs.YthhhoppmbimeiaaDoor
open Go.RowKit
theorem allfs_at {l : List Fd} {k : Nat} {x : Fd} (h : l[k]? = some x) (hx : fldR x = false) : l.all fldR = false := by
  cases hq : l.all fldR with
  | false => rfl
  | true =>
    have := List.all_eq_true.1 hq x (List.mem_of_getElem? h)
    rw [hx] at this
    cases this
theorem allfs_take {l : List Fd} {k : Nat} {x : Fd} (h : l[k]? = some x) (h0 : (l.take k).all fldR = true) (hx : fldR x = true) : (l.take (k + 1)).all fldR = true := by
  rw [List.take_add_one, h, Option.toList, List.all_append, h0, Bool.true_and, List.all_cons, hx]
  rfl
set_option maxRecDepth 20000 in
set_option maxHeartbeats 4000000 in
theorem areFields_any (a : Option Addr) (c B : Nat) (fs : List Fd) (w : World) (h : FA B w a fs) (hB : B ≤ w.heap.size) (hn : fs.length ≤ 4398046511104) (hf : ∀ c ∈ fs, fdOk c) :
    Calls Tryd.prog 31 #[.slice a fs.length c] w fun e w' => e = .returned (.bool (fs.all fldR)) ∧ Below w.heap.size w w' := by
  obtain ⟨T, hT⟩ : ∃ T, fs.all fldR = T := ⟨_, rfl⟩
  have HT : Hid _ := hT
  rw [hT]
  clear hT
  obtain ⟨n, hl⟩ : ∃ n, fs.length = n := ⟨_, rfl⟩
  have HL : Hid _ := hl
  have HC : Hid _ := h
  have HO : Hid _ := hf
  rw [hl] at hn ⊢
  clear hl h hf
  go_enter Tryd.func31, Tryd.ntmps31
  go_wp2_with fail
  go_loopw [7] (fun i wr => ∃ k : Nat, k ≤ n ∧ i = .int .i64 (k : Nat) ∧ Hid ((fs.take k).all fldR = true) ∧ Hid (Below w.heap.size w wr)) (fun i _ => n - (intOf i).toNat)
  case atStart => exact ⟨0, by omega, rfl, by rw [Hid, List.take_zero]; rfl, Below.refl _ _⟩
  case round =>
    obtain ⟨k, hkn, rfl, HE, HB⟩ := hrel
    by_cases hlt : k < n
    · obtain ⟨x, hx⟩ : ∃ x, fs[k]? = some x := ⟨fs[k]'(by rw [HL.out]; exact hlt), List.getElem?_eq_getElem _⟩
      have HC2 : FA B wr a fs := FA.below HC.out (fun b hb => HB.out.block b (by omega))
      obtain ⟨b, off, rfl, _, x0, x1⟩ := HC2 k x hx
      have H2 : Hid (∀ W : World, _) := fun W => isField_any x (HO.out x (List.mem_of_getElem? hx)) W
      have HX : Hid _ := hx
      simp only [fdV] at H2
      cases hq : fldR x with
      | true =>
        rw [hq] at H2
        have HR : Hid ((fs.take (k + 1)).all fldR = true) := allfs_take HX.out HE.out hq
        obtain ⟨xn, xv⟩ := x
        simp only at x0 x1 H2
        clear hx HC2 hq
        go_wp2_with (go_at_call 51; refine (H2.out _).mono ?_; rintro e w2 ⟨rfl, b2⟩)
        go_roundw
        case rel => exact ⟨k + 1, by omega, by go_num, HR.out, (HB.out.alloc HB.out.size _).trans (b2.mono (by have := HB.out.size; simp; omega))⟩
        case measure => simp [intOf]; omega
      | false =>
        rw [hq] at H2
        have HR : Hid (T = false) := by rw [Hid, ← HT.out]; exact allfs_at HX.out hq
        obtain ⟨xn, xv⟩ := x
        simp only at x0 x1 H2
        clear hx HC2 hq
        go_wp2_with (go_at_call 51; refine (H2.out _).mono ?_; rintro e w2 ⟨rfl, b2⟩)
        go_ret
        exact ⟨by rw [HR.out]; rfl, (HB.out.alloc HB.out.size _).trans (b2.mono (by have := HB.out.size; simp; omega))⟩
    · have HR : Hid (T = true) := by
        have := HE.out
        rw [List.take_of_length_le (by rw [HL.out]; omega)] at this
        rw [Hid, ← HT.out]
        exact this
      go_wp2_with fail
      go_ret
      exact ⟨by rw [HR.out]; rfl, HB.out⟩
/-- Where a byte first stands. -/
def ixB (s : ByteArray) (c : Nat) : Option Nat := (List.range s.size).find? (fun j => decide (byteAt s j = c))
theorem ixB_hit {s : ByteArray} {c k : Nat} (hk : k < s.size) (h : byteAt s k = c) (h0 : ∀ j, j < k → byteAt s j ≠ c) : ixB s c = some k := by
  unfold ixB
  rw [List.find?_range_eq_some]
  exact ⟨decide_eq_true h, List.mem_range.2 hk, fun j hj => by simp [h0 j hj]⟩
theorem ixB_none {s : ByteArray} {c : Nat} (h0 : ∀ j, j < s.size → byteAt s j ≠ c) : ixB s c = none := by
  unfold ixB
  rw [List.find?_eq_none]
  intro j hj
  simp [h0 j (List.mem_range.1 hj)]
def cutR (s : ByteArray) (c : Nat) : ByteArray × ByteArray × Bool := match ixB s c with
  | some k => (s.extract 0 k, s.extract (k + 1) s.size, true)
  | none => (⟨#[]⟩, ⟨#[]⟩, false)
set_option maxRecDepth 20000 in
set_option maxHeartbeats 4000000 in
theorem qcut_any (s : ByteArray) (c : Nat) (hs : s.size ≤ 140737488355328) (w : World) :
    Calls Tryd.prog 46 #[.string s, .int .u8 (c : Int)] w fun e w' => e = .returned (.tuple #[.string (cutR s c).1, .string (cutR s c).2.1, .bool (cutR s c).2.2]) ∧ Below w.heap.size w w' := by
  obtain ⟨T, hT⟩ : ∃ T, cutR s c = T := ⟨_, rfl⟩
  have HT : Hid _ := hT
  rw [hT]
  clear hT
  go_enter Tryd.func46, Tryd.ntmps46
  go_wp2_with fail
  go_loopw [7] (fun i wr => ∃ k : Nat, k ≤ s.size ∧ i = .int .i64 k ∧ Hid (∀ j, j < k → byteAt s j ≠ c) ∧ wr = w) (fun i _ => s.size - (intOf i).toNat)
  case atStart => exact ⟨0, by omega, rfl, fun j hj => by omega, rfl⟩
  case round =>
    obtain ⟨k, hk, rfl, HN, rfl⟩ := hrel
    by_cases hlt : k < s.size
    · have r0 := fun W => run_byte s (i := k) (z := (k : Int)) rfl hlt W
      obtain ⟨x, hx⟩ : ∃ x, byteAt s k = x := ⟨_, rfl⟩
      rw [hx] at r0
      by_cases hxc : x = c
      · subst hxc
        have HR : Hid (T = (s.extract 0 k, s.extract (k + 1) s.size, true)) := by rw [Hid, ← HT.out, cutR, ixB_hit hlt hx HN.out]
        have q0 : ((x : Int) == (x : Int)) = true := by simp
        have q1 : (k : Int) ≤ (s.size : Int) := by omega
        have q2 : (k : Int) + 1 ≤ (s.size : Int) := by omega
        have q3 : (0 : Int) ≤ (k : Int) := by omega
        have q4 : (0 : Int) ≤ (k : Int) + 1 := by omega
        clear hx
        go_wp2_with fail
        go_quiet (fail)
        go_wp2_with fail
        go_ret3
        exact ⟨by rw [HR.out]; rfl, below_drewN (Below.refl _ _) _⟩
      · have HV : Hid (∀ j, j < k + 1 → byteAt s j ≠ c) := fun j hj => by
          rcases Nat.lt_succ_iff_lt_or_eq.1 hj with h | rfl
          · exact HN.out j h
          · rw [hx]; exact hxc
        have q0 : ((x : Int) == (c : Int)) = false := by simp; omega
        clear hx hxc
        go_wp2_with fail
        go_roundw
        case rel => exact ⟨k + 1, by omega, by go_num, HV.out, by first | rfl | trivial⟩
        case measure => simp [intOf]; omega
    · obtain rfl : k = s.size := by omega
      have HR : Hid (T = (⟨#[]⟩, ⟨#[]⟩, false)) := by rw [Hid, ← HT.out, cutR, ixB_none HN.out]
      go_wp2_with fail
      go_ret3
      exact ⟨by rw [HR.out]; rfl, Below.refl _ _⟩
end Go.Proofs.YthhhoppmbimeiaaDoor
