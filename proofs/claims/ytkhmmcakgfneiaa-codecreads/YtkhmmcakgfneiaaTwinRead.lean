/-
  The contracts of the twin reader's calls: fails, raw, varint, text.
-/
import Derived.Test.YtkhmmcakgfneiaaTwin
namespace Go.Proofs.Ytkhmmcakgfneiaa
open Go.RowKit
/-- The twin reader in block b: what is left, and its fault. -/
def XIs (w : World) (b : Nat) (rest : ByteArray) (e : Int) : Prop := w.heap[b]? = some (.cells #[.string rest, .int .i64 e] 60 (0, 0))
section
variable {w w' : World} {b : Nat} {rest : ByteArray} {e : Int}
theorem XIs.lt (h : XIs w b rest e) : b < w.heap.size := lt_of_block h
theorem XIs.c0 (h : XIs w b rest e) : w.cell? ⟨b, 0, none⟩ = some (.string rest) := cell_of_block h rfl
theorem XIs.c1 (h : XIs w b rest e) : w.cell? ⟨b, 1, none⟩ = some (.int .i64 e) := cell_of_block h rfl
theorem XIs.f0 (h : XIs w b rest e) : w.frozen? ⟨b, 0, none⟩ = false := free_of_block h 0
theorem XIs.f1 (h : XIs w b rest e) : w.frozen? ⟨b, 1, none⟩ = false := free_of_block h 1
theorem XIs.set0 (h : XIs w b rest e) (s : ByteArray) : XIs (w.setCell ⟨b, 0, none⟩ (.string s)) b s e := block_setCell h 0 _
theorem XIs.set1 (h : XIs w b rest e) (n : Int) : XIs (w.setCell ⟨b, 1, none⟩ (.int .i64 n)) b rest n := block_setCell h 1 _
theorem XIs.kept {S : Nat → Prop} (h : XIs w b rest e) (k : Keeps S w w') (hS : ¬ S b) : XIs w' b rest e := (k.block b h.lt hS).trans h
end
theorem fails_any (b : Nat) (s : ByteArray) (n m : Int) (w : World) (h : XIs w b s n) :
    Calls Try.prog 64 #[.pointer (some ⟨b, 0, none⟩), .int .i64 m] w fun e w' => e = .returned (.tuple #[]) ∧ XIs w' b ByteArray.empty m ∧ Keeps (fun k => k = b) w w' := by
  have h0 := h.c0; have h1 := h.c1; have f0 := h.f0; have f1 := h.f1
  go_enter Try.func64, Try.ntmps64
  go_wp2
  go_end0
  exact ⟨rfl, (h.set0 _).set1 _, ((Keeps.refl (fun k => k = b) _).setCell (Or.inl rfl) _).setCell (Or.inl rfl) _⟩
theorem rRaw_stuck {s : ByteArray} {e : Int} (n : Int) (h : ¬ e = 0) : rRaw s e n = (ByteArray.empty, s, e) := by
  unfold rRaw
  split
  · first | rfl | (rw [if_neg h])
  · exact rTake_stuck _ h
theorem xraw_any (b : Nat) (s : ByteArray) (e n : Int) (w : World) (h : XIs w b s e) (_hs : s.size ≤ maxLen) (hn : n ≤ 9223372036854775807) :
    Calls Try.prog 52 #[.pointer (some ⟨b, 0, none⟩), .int .i64 n] w fun r w' => r = .returned (.string (rRaw s e n).1) ∧ XIs w' b (rRaw s e n).2.1 (rRaw s e n).2.2 ∧ Keeps (fun k => k = b) w w' := by
  have h0 := h.c0; have h1 := h.c1; have f0 := h.f0; have f1 := h.f1
  by_cases he : e = 0
  · subst he
    by_cases hneg : n < 0
    · rw [show rRaw s 0 n = (ByteArray.empty, ByteArray.empty, 1) by simp [rRaw, hneg]]
      go_enter Try.func52, Try.ntmps52
      go_wp2_with fail
      refine (fails_any b s 0 1 _ h).mono ?_
      rintro e' w1 ⟨rfl, h', hk⟩
      go_wp2_with fail
      go_ret
      exact ⟨rfl, h', hk⟩
    · rw [show rRaw s 0 n = rTake s 0 n.toNat by simp [rRaw, hneg]]
      obtain ⟨m, rfl⟩ := Int.eq_ofNat_of_zero_le (show 0 ≤ n by omega)
      rw [Int.toNat_natCast]
      by_cases hm : m ≤ s.size
      · rw [rTake_ok hm]
        go_enter Try.func52, Try.ntmps52
        go_wp2_with fail
        go_ret
        exact ⟨rfl, h.set0 _, (Keeps.refl (fun k => k = b) _).setCell (Or.inl rfl) _⟩
      · have hm' : s.size < m := by omega
        rw [rTake_short hm']
        clear hm
        go_enter Try.func52, Try.ntmps52
        go_wp2_with fail
        refine (fails_any b s 0 20 _ h).mono ?_
        rintro e' w1 ⟨rfl, h', hk⟩
        go_wp2_with fail
        go_ret
        exact ⟨rfl, h', hk⟩
  · rw [rRaw_stuck n he]
    have hb : (e != 0) = true := by simpa using he
    clear he
    go_enter Try.func52, Try.ntmps52
    go_wp2_with fail
    go_ret
    exact ⟨rfl, h, Keeps.refl _ _⟩
theorem xvarint_any (b : Nat) (s : ByteArray) (e : Int) (w : World) (h : XIs w b s e) (hs : s.size ≤ maxLen) :
    Calls Try.prog 53 #[.pointer (some ⟨b, 0, none⟩)] w fun r w' => r = .returned (.int .u64 (rVar s e).1) ∧ XIs w' b (rVar s e).2.1 (rVar s e).2.2 ∧ Keeps (fun k => k = b) w w' := by
  have h0 := h.c0; have h1 := h.c1; have f0 := h.f0; have f1 := h.f1
  by_cases he : e = 0
  · subst he
    have HG : Hid (∀ w, Calls Try.prog 65 #[.string s] w _) := fun w => readVarint_any s w hs
    have hz := gr_size s.data.toList 0 0 (by decide)
    obtain ⟨m, z, f, hg⟩ : ∃ m z f, gr s.data.toList 0 0 = (m, z, f) := ⟨_, _, _, rfl⟩
    rw [hg] at HG hz
    by_cases hf : f = 0
    · subst hf
      rw [rVar_ok hg]
      have hz' : z ≤ s.size := by have := hz rfl; simp at this; omega
      unfold maxLen at hs
      clear hg hz
      go_enter Try.func53, Try.ntmps53
      go_wp2_with fail
      refine (HG.out _).mono ?_
      rintro e' w' ⟨rfl, rfl⟩
      go_wp2_with fail
      go_ret
      exact ⟨rfl, h.set0 _, (Keeps.refl (fun k => k = b) _).setCell (Or.inl rfl) _⟩
    · rw [rVar_bad hg hf]
      have hb : (f != 0) = true := by simpa using hf
      clear hg hz hf
      go_enter Try.func53, Try.ntmps53
      go_wp2_with fail
      refine (HG.out _).mono ?_
      rintro e' w' ⟨rfl, rfl⟩
      go_wp2_with fail
      refine (fails_any b s 0 f _ h).mono ?_
      rintro e' w1 ⟨rfl, h', hk⟩
      go_wp2_with fail
      go_ret
      exact ⟨rfl, h', hk⟩
  · rw [rVar_stuck he]
    have hb : (e != 0) = true := by simpa using he
    clear he
    go_enter Try.func53, Try.ntmps53
    go_wp2_with fail
    go_ret
    exact ⟨rfl, h, Keeps.refl _ _⟩
theorem wrap64_bd' (x : Int) : -9223372036854775808 ≤ wrap64 x ∧ wrap64 x ≤ 9223372036854775807 := by unfold wrap64; omega
theorem xtext_any (b : Nat) (s : ByteArray) (e : Int) (w : World) (h : XIs w b s e) (hs : s.size ≤ maxLen) :
    Calls Try.prog 54 #[.pointer (some ⟨b, 0, none⟩)] w fun r w' => r = .returned (.string (rText s e).1) ∧ XIs w' b (rText s e).2.1 (rText s e).2.2 ∧ Keeps (fun k => k = b) w w' := by
  have HV : Hid _ := fun w h => xvarint_any b s e w h hs
  have hlt := rVar_lt s e
  have hsz := rVar_size s e
  unfold rText
  obtain ⟨n, s', e', hv⟩ : ∃ n s' e', rVar s e = (n, s', e') := ⟨_, _, _, rfl⟩
  rw [hv] at HV hlt hsz ⊢
  replace hlt : n < 18446744073709551616 := hlt
  replace hsz : s'.size ≤ s.size := hsz
  show Calls Try.prog 54 _ w fun r w' => r = .returned (.string (rTake s' e' n).1) ∧ XIs w' b (rTake s' e' n).2.1 (rTake s' e' n).2.2 ∧ Keeps (fun k => k = b) w w'
  have HM : Hid (s.size ≤ maxLen) := hs
  unfold maxLen at hs
  clear hv
  by_cases he : e' = 0
  · subst he
    by_cases hn : n ≤ s'.size
    · have HR : Hid (rRaw s' 0 (n : Int) = rTake s' 0 n) := by rw [Hid, rRaw, if_neg (by omega), Int.toNat_natCast]
      go_enter Try.func54, Try.ntmps54
      go_wp2_with fail
      refine (HV.out _ h).mono ?_
      rintro e1 w1 ⟨rfl, h1, k1⟩
      replace h1 : XIs w1 b s' 0 := h1
      have c0 := h1.c0; have c1 := h1.c1
      go_wp2_with fail
      refine (xraw_any b s' 0 _ _ h1 (Nat.le_trans hsz HM.out) (by omega)).mono ?_
      rintro e2 w2 ⟨rfl, h2, k2⟩
      rw [HR.out] at h2 ⊢
      go_wp2_with fail
      go_ret
      exact ⟨rfl, h2, k1.trans k2⟩
    · have hn' : s'.size < n := by omega
      rw [rTake_short hn']
      clear hn
      go_enter Try.func54, Try.ntmps54
      go_wp2_with fail
      refine (HV.out _ h).mono ?_
      rintro e1 w1 ⟨rfl, h1, k1⟩
      replace h1 : XIs w1 b s' 0 := h1
      have c0 := h1.c0; have c1 := h1.c1
      go_wp2_with fail
      refine (fails_any b s' 0 20 _ h1).mono ?_
      rintro e2 w2 ⟨rfl, h2, k2⟩
      go_wp2_with fail
      go_ret
      exact ⟨rfl, h2, k1.trans k2⟩
  · have hb : (e' == 0) = false := by simpa using he
    rw [rTake_stuck n he]
    have HR : Hid (∀ x, rRaw s' e' x = (ByteArray.empty, s', e')) := fun x => rRaw_stuck x he
    clear he
    go_enter Try.func54, Try.ntmps54
    go_wp2_with fail
    refine (HV.out _ h).mono ?_
    rintro e1 w1 ⟨rfl, h1, k1⟩
    replace h1 : XIs w1 b s' e' := h1
    have c0 := h1.c0; have c1 := h1.c1
    go_wp2_with fail
    refine (xraw_any b s' e' _ _ h1 (Nat.le_trans hsz HM.out) (wrap64_bd' _).2).mono ?_
    rintro e2 w2 ⟨rfl, h2, k2⟩
    rw [HR.out] at h2 ⊢
    go_wp2_with fail
    go_ret
    exact ⟨rfl, h2, k1.trans k2⟩
end Go.Proofs.Ytkhmmcakgfneiaa
