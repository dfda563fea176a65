/-
  The contracts of a reader's other calls: Varint, Text, Raw, Left, Err, Done, whatever is left, and of a nil reader.
-/
import Derived.Test.YtkebddjndljodaaDoorGroups
namespace Go.Proofs.YtkebddjndljodaaDoor
open Go.RowKit

theorem gr_size : ∀ (l : List UInt8) (k n : Nat), k ≤ 9 → (gr l k n).2.2 = 0 → k < (gr l k n).2.1 ∧ (gr l k n).2.1 ≤ k + l.length ∧ (gr l k n).2.1 ≤ 10
  | [], k, n, _, h => by simp [gr] at h
  | c :: l, k, n, hk, h => by
    by_cases h1 : (k = 9 ∧ ¬ c.toNat = 1) ∨ (0 < k ∧ c.toNat = 0)
    · rw [gr_bad h1] at h; simp at h
    · by_cases h2 : c.toNat < 128
      · rw [gr_end h1 h2]; simp; omega
      · rw [gr_on h1 h2] at h ⊢
        have := gr_size l (k + 1) _ (by omega) h
        simp; omega
theorem gr_lt : ∀ (l : List UInt8) (k n : Nat), k ≤ 9 → n < 128 ^ k → (gr l k n).1 < 18446744073709551616
  | [], k, n, _, h => by simp [gr]
  | c :: l, k, n, hk, h => by
    by_cases h1 : (k = 9 ∧ ¬ c.toNat = 1) ∨ (0 < k ∧ c.toNat = 0)
    · rw [gr_bad h1]; simp
    · by_cases h2 : c.toNat < 128
      · rw [gr_end h1 h2]
        by_cases h9 : k = 9
        · subst h9
          have : c.toNat = 1 := by omega
          rw [this]
          have h3 : (128 : Nat) ^ 9 = 9223372036854775808 := by decide
          show n + 1 % 128 * 128 ^ 9 < _
          omega
        · have h3 : 128 ^ (k + 1) ≤ 128 ^ 9 := Nat.pow_le_pow_right (by decide) (by omega)
          have h4 : (128 : Nat) ^ 9 = 9223372036854775808 := by decide
          have h5 := grow_lt (c := c.toNat) h
          show n + c.toNat % 128 * 128 ^ k < _
          omega
      · rw [gr_on h1 h2]
        exact gr_lt l (k + 1) _ (by omega) (grow_lt h)

/-- What 'Varint' gives of a reader: the number, what is left, the fault. -/
def rVar (s : ByteArray) (e : Int) : Nat × ByteArray × Int :=
  if e = 0 then (if (gr s.data.toList 0 0).2.2 = 0 then ((gr s.data.toList 0 0).1, s.extract (gr s.data.toList 0 0).2.1 s.size, 0) else (0, ByteArray.empty, (gr s.data.toList 0 0).2.2)) else (0, s, e)
theorem rVar_stuck {s : ByteArray} {e : Int} (h : ¬ e = 0) : rVar s e = (0, s, e) := by simp [rVar, h]
theorem rVar_bad {s : ByteArray} {m z : Nat} {f : Int} (hg : gr s.data.toList 0 0 = (m, z, f)) (h : ¬ f = 0) : rVar s 0 = (0, ByteArray.empty, f) := by simp [rVar, hg, h]
theorem rVar_ok {s : ByteArray} {m z : Nat} (hg : gr s.data.toList 0 0 = (m, z, 0)) : rVar s 0 = (m, s.extract z s.size, 0) := by simp [rVar, hg]
theorem rVar_lt (s : ByteArray) (e : Int) : (rVar s e).1 < 18446744073709551616 := by
  unfold rVar
  split
  · split
    · exact gr_lt _ 0 0 (by decide) (by decide)
    · show (0 : Nat) < _; decide
  · show (0 : Nat) < _; decide
theorem rVar_size (s : ByteArray) (e : Int) : (rVar s e).2.1.size ≤ s.size := by
  unfold rVar
  split
  · split
    · simp
    · simp
  · exact Nat.le_refl _

theorem varint_any (b : Nat) (s : ByteArray) (e : Int) (w : World) (h : RIs w b s e) (hs : s.size ≤ maxLen) :
    Calls Tryd.prog 20 #[.pointer (some ⟨b, 0, none⟩)] w fun r w' => r = .returned (.int .u64 (rVar s e).1) ∧ RIs w' b (rVar s e).2.1 (rVar s e).2.2 ∧ Keeps (fun k => k = b) w w' := by
  have h0 := h.c0; have h1 := h.c1; have f0 := h.f0; have f1 := h.f1
  by_cases he : e = 0
  · subst he
    have HG : Hid (∀ w, Calls Tryd.prog 30 #[.string s] w _) := fun w => groups_any s w hs
    have hz := gr_size s.data.toList 0 0 (by decide)
    obtain ⟨m, z, f, hg⟩ : ∃ m z f, gr s.data.toList 0 0 = (m, z, f) := ⟨_, _, _, rfl⟩
    rw [hg] at HG hz
    by_cases hf : f = 0
    · subst hf
      rw [rVar_ok hg]
      have hz' : z ≤ s.size := by have := hz rfl; simp at this; omega
      unfold maxLen at hs
      clear hg hz
      go_enter Tryd.func20, Tryd.ntmps20
      go_wp2_with fail
      refine (stuck_any b s 0 _ h).mono ?_
      rintro e' w' ⟨rfl, rfl⟩
      go_wp2_with fail
      refine (HG.out _).mono ?_
      rintro e' w' ⟨rfl, rfl⟩
      go_wp2_with fail
      go_ret
      exact ⟨rfl, h.set0 _, (Keeps.refl (fun k => k = b) _).setCell (Or.inl rfl) _⟩
    · rw [rVar_bad hg hf]
      have hb : (f != 0) = true := by simpa using hf
      clear hg hz hf
      go_enter Tryd.func20, Tryd.ntmps20
      go_wp2_with fail
      refine (stuck_any b s 0 _ h).mono ?_
      rintro e' w' ⟨rfl, rfl⟩
      go_wp2_with fail
      refine (HG.out _).mono ?_
      rintro e' w' ⟨rfl, rfl⟩
      go_wp2_with fail
      refine (fail_any b s 0 f _ h).mono ?_
      rintro e' w1 ⟨rfl, h', hk⟩
      go_wp2_with fail
      go_ret
      exact ⟨rfl, h', hk⟩
  · rw [rVar_stuck he]
    have hb : (e != 0) = true := by simpa using he
    clear he
    go_enter Tryd.func20, Tryd.ntmps20
    go_wp2_with fail
    refine (stuck_any b s e _ h).mono ?_
    rintro e' w' ⟨rfl, rfl⟩
    go_wp2_with fail
    go_ret
    exact ⟨rfl, h, Keeps.refl _ _⟩
theorem varint_nil (w : World) :
    Calls Tryd.prog 20 #[.pointer none] w fun r w' => r = .returned (.int .u64 0) ∧ w' = w := by
  go_enter Tryd.func20, Tryd.ntmps20
  go_wp2_with fail
  refine (stuck_nil _).mono ?_
  rintro e' w' ⟨rfl, rfl⟩
  go_wp2_with fail
  go_ret
  exact ⟨rfl, rfl⟩

/-- What 'Text' gives of a reader. -/
def rText (s : ByteArray) (e : Int) : ByteArray × ByteArray × Int := rTake (rVar s e).2.1 (rVar s e).2.2 (rVar s e).1
theorem text_any (b : Nat) (s : ByteArray) (e : Int) (w : World) (h : RIs w b s e) (hs : s.size ≤ maxLen) :
    Calls Tryd.prog 21 #[.pointer (some ⟨b, 0, none⟩)] w fun r w' => r = .returned (.string (rText s e).1) ∧ RIs w' b (rText s e).2.1 (rText s e).2.2 ∧ Keeps (fun k => k = b) w w' := by
  go_enter Tryd.func21, Tryd.ntmps21
  go_wp2_with fail
  refine (varint_any b s e _ h hs).mono ?_
  rintro e' w1 ⟨rfl, h1, hk1⟩
  go_wp2_with fail
  refine (take_any b _ _ _ _ h1 (Nat.le_trans (rVar_size s e) hs) (rVar_lt s e)).mono ?_
  rintro e' w2 ⟨rfl, h2, hk2⟩
  go_wp2_with fail
  go_ret
  exact ⟨rfl, h2, hk1.trans hk2⟩
theorem text_nil (w : World) :
    Calls Tryd.prog 21 #[.pointer none] w fun r w' => r = .returned (.string ByteArray.empty) ∧ w' = w := by
  go_enter Tryd.func21, Tryd.ntmps21
  go_wp2_with fail
  refine (varint_nil _).mono ?_
  rintro e' w1 ⟨rfl, rfl⟩
  go_wp2_with fail
  refine (take_nil 0 _).mono ?_
  rintro e' w1 ⟨rfl, rfl⟩
  go_wp2_with fail
  go_ret
  exact ⟨rfl, rfl⟩

/-- What 'Raw n' gives of a reader. -/
def rRaw (s : ByteArray) (e n : Int) : ByteArray × ByteArray × Int :=
  if n < 0 then (if e = 0 then (ByteArray.empty, ByteArray.empty, 1) else (ByteArray.empty, s, e)) else rTake s e n.toNat
theorem left_any (b : Nat) (s : ByteArray) (e : Int) (w : World) (h : RIs w b s e) :
    Calls Tryd.prog 34 #[.pointer (some ⟨b, 0, none⟩)] w fun r w' => r = .returned (.int .i64 s.size) ∧ w' = w := by
  have h0 := h.c0; have h1 := h.c1
  go_enter Tryd.func34, Tryd.ntmps34
  go_wp2
  go_ret
  exact ⟨rfl, rfl⟩
theorem left_nil (w : World) : Calls Tryd.prog 34 #[.pointer none] w fun r w' => r = .returned (.int .i64 0) ∧ w' = w := by
  go_enter Tryd.func34, Tryd.ntmps34
  go_wp2
  go_ret
  exact ⟨rfl, rfl⟩
theorem err_any (b : Nat) (s : ByteArray) (e : Int) (w : World) (h : RIs w b s e) :
    Calls Tryd.prog 33 #[.pointer (some ⟨b, 0, none⟩)] w fun r w' => r = .returned (.int .i64 e) ∧ w' = w := by
  have h0 := h.c0; have h1 := h.c1
  go_enter Tryd.func33, Tryd.ntmps33
  go_wp2
  go_ret
  exact ⟨rfl, rfl⟩
theorem err_nil (w : World) : Calls Tryd.prog 33 #[.pointer none] w fun r w' => r = .returned (.int .i64 6) ∧ w' = w := by
  go_enter Tryd.func33, Tryd.ntmps33
  go_wp2
  go_ret
  exact ⟨rfl, rfl⟩
/-- What 'Done' tells of a reader. -/
def rDone (s : ByteArray) (e : Int) : Int := if e = 0 then (if s.size = 0 then 0 else 22) else e
theorem rdone_any (b : Nat) (s : ByteArray) (e : Int) (w : World) (h : RIs w b s e) :
    Calls Tryd.prog 22 #[.pointer (some ⟨b, 0, none⟩)] w fun r w' => r = .returned (.int .i64 (rDone s e)) ∧ w' = w := by
  by_cases he : e = 0
  · subst he
    by_cases hz : s.size = 0
    · rw [show rDone s 0 = 0 by simp [rDone, hz]]
      have hz' : ¬ (0 : Int) < (s.size : Int) := by omega
      clear hz
      go_enter Tryd.func22, Tryd.ntmps22
      go_wp2_with fail
      refine (err_any b s 0 _ h).mono ?_
      rintro e' w' ⟨rfl, rfl⟩
      go_wp2_with fail
      refine (left_any b s 0 _ h).mono ?_
      rintro e' w' ⟨rfl, rfl⟩
      go_wp2_with fail
      go_ret
      exact ⟨rfl, rfl⟩
    · rw [show rDone s 0 = 22 by simp [rDone, hz]]
      have hz' : (0 : Int) < (s.size : Int) := by omega
      clear hz
      go_enter Tryd.func22, Tryd.ntmps22
      go_wp2_with fail
      refine (err_any b s 0 _ h).mono ?_
      rintro e' w' ⟨rfl, rfl⟩
      go_wp2_with fail
      refine (left_any b s 0 _ h).mono ?_
      rintro e' w' ⟨rfl, rfl⟩
      go_wp2_with fail
      go_ret
      exact ⟨rfl, rfl⟩
  · rw [show rDone s e = e by simp [rDone, he]]
    have hb : (e != 0) = true := by simpa using he
    clear he
    go_enter Tryd.func22, Tryd.ntmps22
    go_wp2_with fail
    refine (err_any b s e _ h).mono ?_
    rintro e' w' ⟨rfl, rfl⟩
    go_wp2_with fail
    go_ret
    exact ⟨rfl, rfl⟩
theorem rdone_nil (w : World) : Calls Tryd.prog 22 #[.pointer none] w fun r w' => r = .returned (.int .i64 6) ∧ w' = w := by
  go_enter Tryd.func22, Tryd.ntmps22
  go_wp2_with fail
  refine (err_nil _).mono ?_
  rintro e' w' ⟨rfl, rfl⟩
  go_wp2_with fail
  go_ret
  exact ⟨rfl, rfl⟩
end Go.Proofs.YtkebddjndljodaaDoor
