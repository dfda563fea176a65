/-
  The walk of CodecOrder: whatever the parts, the call returns true, and turns nothing that was there.
-/
import Derived.Test.YtkebddjndljodaaDoorRefKey
namespace Go.Proofs.YtkebddjndljodaaDoor
open Go.RowKit
theorem keyErr_zero {ps : List Prt} (h : keyErr ps = 0) (hn : ∀ p ∈ ps, p.num < 18446744073709551616) : (∀ p ∈ ps, p.ok) ∧ keyBytes ps = keyOf ps ∧ ps.length ≤ 8 := by
  have h0 := h
  unfold keyErr at h
  split at h
  · cases h
  · split at h
    · rename_i h1 h2
      exact ⟨fun p hp => okB_ok (List.all_eq_true.1 h2 p hp) (hn p hp), by simp [keyBytes, h0], by omega⟩
    · cases h
theorem mk_toList (l : List UInt8) : (⟨l.toArray⟩ : ByteArray).toList = l := by rw [ByteArray.toList_eq]
theorem less_keys {ps qs : List Prt} (h : keyErr ps = 0) (h' : keyErr qs = 0) (hn : ∀ p ∈ ps, p.num < 18446744073709551616) (hn' : ∀ p ∈ qs, p.num < 18446744073709551616) :
    Op.bytesLess (⟨(keyBytes ps).toArray⟩ : ByteArray).toList (⟨(keyBytes qs).toArray⟩ : ByteArray).toList = below ps qs := by
  obtain ⟨h1, h2, _⟩ := keyErr_zero h hn
  obtain ⟨h3, h4, _⟩ := keyErr_zero h' hn'
  rw [mk_toList, mk_toList, h2, h4]
  exact key_order ps qs h1 h3
theorem same_keys {ps qs : List Prt} (h : keyErr ps = 0) (h' : keyErr qs = 0) (hn : ∀ p ∈ ps, p.num < 18446744073709551616) (hn' : ∀ p ∈ qs, p.num < 18446744073709551616) :
    ((⟨(keyBytes ps).toArray⟩ : ByteArray).toList == (⟨(keyBytes qs).toArray⟩ : ByteArray).toList) = decide (ps = qs) := by
  obtain ⟨h1, h2, _⟩ := keyErr_zero h hn
  obtain ⟨h3, h4, _⟩ := keyErr_zero h' hn'
  rw [mk_toList, mk_toList, h2, h4]
  by_cases e : ps = qs
  · subst e; simp
  · have : keyOf ps ≠ keyOf qs := fun k => e (key_inj h1 h3 k)
    simp [e, this]
set_option maxRecDepth 100000 in
set_option maxHeartbeats 4000000 in
theorem order_walk (a b : Option Addr) (ca cb : Nat) (ps qs : List Prt) (m : Int) (w : World) (hp : Small w a ps) (hq : Small w b qs) (hm : w.cell? ⟨0, 0, none⟩ = some (.int .i64 m)) :
    Calls Tryd.prog 4 #[.slice a ps.length ca, .slice b qs.length cb] w fun r w' => r = .returned (.bool true) ∧ Below w.heap.size w w' := by
  have z0 : 0 < w.heap.size := World.block_lt_of_cell? w _ hm
  obtain ⟨S, hS⟩ : ∃ S : ByteArray, S = ⟨(keyBytes ps).toArray⟩ := ⟨_, rfl⟩
  obtain ⟨T, hT⟩ : ∃ T : ByteArray, T = ⟨(keyBytes qs).toArray⟩ := ⟨_, rfl⟩
  obtain ⟨ea, hea⟩ : ∃ ea : Int, ea = keyErr ps := ⟨_, rfl⟩
  obtain ⟨eb, heb⟩ : ∃ eb : Int, eb = keyErr qs := ⟨_, rfl⟩
  have HKA : Hid (∀ W : World, Below w.heap.size w W → Calls Tryd.prog 7 #[.slice a ps.length ca] W fun r w' => r = .returned (.tuple #[.string S, .int .i64 ea]) ∧ Below W.heap.size W w') := fun W k => by
    rw [hS, hea]; exact key_any a ca ps m W (hp.below (Nat.le_refl _) k) ((k.cell (p := ⟨0, 0, none⟩) z0).trans hm)
  have HKB : Hid (∀ W : World, Below w.heap.size w W → Calls Tryd.prog 7 #[.slice b qs.length cb] W fun r w' => r = .returned (.tuple #[.string T, .int .i64 eb]) ∧ Below W.heap.size W w') := fun W k => by
    rw [hT, heb]; exact key_any b cb qs m W (hq.below (Nat.le_refl _) k) ((k.cell (p := ⟨0, 0, none⟩) z0).trans hm)
  have HRA : Hid (∀ W : World, Below w.heap.size w W → Calls Tryd.prog 8 #[.slice a ps.length ca] W fun r w' => r = .returned (.tuple #[.string S, .int .i64 ea]) ∧ Below W.heap.size W w') := fun W k => by
    rw [hS, hea]; exact refKey_any a ca ps W (hp.below (Nat.le_refl _) k)
  have HRB : Hid (∀ W : World, Below w.heap.size w W → Calls Tryd.prog 8 #[.slice b qs.length cb] W fun r w' => r = .returned (.tuple #[.string T, .int .i64 eb]) ∧ Below W.heap.size W w') := fun W k => by
    rw [hT, heb]; exact refKey_any b cb qs W (hq.below (Nat.le_refl _) k)
  have HBW : Hid (∀ W : World, Below w.heap.size w W → Calls Tryd.prog 11 #[.slice a ps.length ca, .slice b qs.length cb] W fun r w' => r = .returned (.bool (below ps qs)) ∧ Below W.heap.size W w') := fun W k =>
    below_any a b ca cb ps qs W (hp.lies.below (Nat.le_refl _) k) (hq.lies.below (Nat.le_refl _) k) hp.few hq.few
  have HSM : Hid (∀ W : World, Below w.heap.size w W → Calls Tryd.prog 9 #[.slice a ps.length ca, .slice b qs.length cb] W fun r w' => r = .returned (.bool (decide (ps = qs))) ∧ ∃ n, w' = W.drewN n) := fun W k =>
    sameParts_any a b ca cb ps qs W (hp.lies.below (Nat.le_refl _) k) (hq.lies.below (Nat.le_refl _) k) hp.few hq.few
  have HL : Hid (ea = 0 → eb = 0 → Op.bytesLess S.toList T.toList = below ps qs ∧ (S.toList == T.toList) = decide (ps = qs)) := fun h1 h2 => by
    rw [hea] at h1; rw [heb] at h2; rw [hS, hT]
    exact ⟨less_keys h1 h2 hp.nums hq.nums, same_keys h1 h2 hp.nums hq.nums⟩
  obtain ⟨n, hn⟩ : ∃ n, ps.length = n := ⟨_, rfl⟩
  obtain ⟨n', hn'⟩ : ∃ n', qs.length = n' := ⟨_, rfl⟩
  rw [hn] at HKA HRA HBW HSM
  rw [hn'] at HKB HRB HBW HSM
  rw [hn, hn']
  obtain ⟨r1, hr1⟩ : ∃ r1, below ps qs = r1 := ⟨_, rfl⟩
  obtain ⟨r2, hr2⟩ : ∃ r2, decide (ps = qs) = r2 := ⟨_, rfl⟩
  rw [hr1, hr2] at HL
  rw [hr1] at HBW
  rw [hr2] at HSM
  clear hn hn' hS hT hea heb hp hq hm z0 hr1 hr2
  go_enter Tryd.func4, Tryd.ntmps4
  go_wp2_with fail
  refine (awake_any _).mono ?_
  rintro e w1 ⟨rfl, b1⟩
  go_wp2_with fail
  refine (HKA.out _ b1).mono ?_
  rintro e w2 ⟨rfl, b2⟩
  have B2 := b1.trans (b2.mono b1.size)
  clear b1 b2
  go_wp2_with fail
  refine (HKB.out _ B2).mono ?_
  rintro e w3 ⟨rfl, b3⟩
  have B3 := B2.trans (b3.mono B2.size)
  clear B2 b3
  by_cases h0 : ea = 0 ∧ eb = 0
  · obtain ⟨rfl, rfl⟩ := h0
    obtain ⟨hl, hs⟩ := HL.out rfl rfl
    go_wp2_with fail
    refine (HBW.out _ B3).mono ?_
    rintro e w4 ⟨rfl, b4⟩
    have B4 := B3.trans (b4.mono B3.size)
    clear B3 b4
    go_wp2_with fail
    refine (HSM.out _ B4).mono ?_
    rintro e w5 ⟨rfl, q, rfl⟩
    go_wp2_with fail
    go_ret
    exact ⟨rfl, B4.os, B4.tape, B4.output, B4.size, B4.block⟩
  · have h1 : ((ea == 0) = false) ∨ (ea = 0 ∧ (eb == 0) = false) := by
      by_cases hx : ea = 0
      · exact Or.inr ⟨hx, by simp; exact fun hy => h0 ⟨hx, hy⟩⟩
      · exact Or.inl (by simp [hx])
    clear h0 HL
    rcases h1 with h1 | ⟨rfl, h2⟩
    · go_wp2_with fail
      refine (HRA.out _ B3).mono ?_
      rintro e w4 ⟨rfl, b4⟩
      have B4 := B3.trans (b4.mono B3.size)
      clear B3 b4
      go_wp2_with fail
      refine (HRB.out _ B4).mono ?_
      rintro e w5 ⟨rfl, b5⟩
      have B5 := B4.trans (b5.mono B4.size)
      clear B4 b5
      go_wp2_with fail
      go_ret
      exact ⟨rfl, B5⟩
    · go_wp2_with fail
      refine (HRA.out _ B3).mono ?_
      rintro e w4 ⟨rfl, b4⟩
      have B4 := B3.trans (b4.mono B3.size)
      clear B3 b4
      go_wp2_with fail
      refine (HRB.out _ B4).mono ?_
      rintro e w5 ⟨rfl, b5⟩
      have B5 := B4.trans (b5.mono B4.size)
      clear B4 b5
      go_wp2_with fail
      go_ret
      exact ⟨rfl, B5⟩
end Go.Proofs.YtkebddjndljodaaDoor
