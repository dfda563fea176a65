/-
  The walk of CodecRanges: whatever the parts, the call returns true, and turns nothing that was there.
-/
import Derived.Test.YtkebddjndljodaaDoorOrderWalk
namespace Go.Proofs.YtkebddjndljodaaDoor
open Go.RowKit
/-- The end of the range, or nothing. -/
def rangeEnd (ps : List Prt) : List UInt8 := if keyErr ps = 0 then keyOf ps ++ [255] else []
theorem rangeEnd_ok {ps : List Prt} (h : keyErr ps = 0) : (⟨(keyBytes ps).toArray⟩ : ByteArray) ++ ⟨#[255]⟩ = ⟨(rangeEnd ps).toArray⟩ := by
  apply bytes_ext'
  rw [ByteArray.data_append, Array.toList_append]
  simp [rangeEnd, keyBytes, h]
theorem rangeEnd_no {ps : List Prt} (h : keyErr ps ≠ 0) : rangeEnd ps = [] ∧ keyBytes ps = [] := by simp [rangeEnd, keyBytes, h]
theorem keyBytes_len {w : World} {a : Option Addr} {ps : List Prt} (hp : Small w a ps) : (keyBytes ps).length ≤ 1073741824 := by
  unfold keyBytes
  split
  · rename_i h
    have h1 := keyOf_len hp.texts
    have h2 := (keyErr_zero h hp.nums).2.2
    omega
  · simp
set_option maxHeartbeats 1000000 in
theorem range_any (a : Option Addr) (ca : Nat) (ps : List Prt) (m : Int) (w : World) (hp : Small w a ps) (hm : w.cell? ⟨0, 0, none⟩ = some (.int .i64 m)) :
    Calls Tryd.prog 12 #[.slice a ps.length ca] w fun r w' => r = .returned (.tuple #[.string ⟨(keyBytes ps).toArray⟩, .string ⟨(rangeEnd ps).toArray⟩, .int .i64 (keyErr ps)]) ∧ Below w.heap.size w w' := by
  have hk := key_any a ca ps m w hp hm
  have hL := keyBytes_len hp
  obtain ⟨S, hS⟩ : ∃ S : ByteArray, S = ⟨(keyBytes ps).toArray⟩ := ⟨_, rfl⟩
  have hSz : S.size ≤ 1073741824 := by rw [hS, size_mk]; exact hL
  by_cases h0 : keyErr ps = 0
  · have HE : Hid (S ++ ⟨#[255]⟩ = ⟨(rangeEnd ps).toArray⟩) := by rw [Hid, hS]; exact rangeEnd_ok h0
    rw [← hS, h0] at hk
    rw [← hS, h0, ← HE.out]
    clear hS hL h0 HE hp hm
    go_enter Tryd.func12, Tryd.ntmps12
    go_wp2_with fail
    refine hk.mono ?_
    rintro e w1 ⟨rfl, b1⟩
    go_wp2_with fail
    go_ret3
    exact ⟨rfl, b1⟩
  · obtain ⟨h1, h2⟩ := rangeEnd_no h0
    have h3 : (keyErr ps == 0) = false := by simpa using h0
    rw [h2] at hk
    rw [h1, h2]
    clear hS hL h0 hp hm h1 h2 hSz
    go_enter Tryd.func12, Tryd.ntmps12
    go_wp2_with fail
    refine hk.mono ?_
    rintro e w1 ⟨rfl, b1⟩
    go_wp2_with fail
    go_ret3
    exact ⟨rfl, b1⟩
set_option maxHeartbeats 1000000 in
theorem refRange_any (a : Option Addr) (ca : Nat) (ps : List Prt) (w : World) (hp : Small w a ps) :
    Calls Tryd.prog 13 #[.slice a ps.length ca] w fun r w' => r = .returned (.tuple #[.string ⟨(keyBytes ps).toArray⟩, .string ⟨(rangeEnd ps).toArray⟩, .int .i64 (keyErr ps)]) ∧ Below w.heap.size w w' := by
  have hk := refKey_any a ca ps w hp
  have hL := keyBytes_len hp
  obtain ⟨S, hS⟩ : ∃ S : ByteArray, S = ⟨(keyBytes ps).toArray⟩ := ⟨_, rfl⟩
  have hSz : S.size ≤ 1073741824 := by rw [hS, size_mk]; exact hL
  by_cases h0 : keyErr ps = 0
  · have HE : Hid (S ++ ⟨#[255]⟩ = ⟨(rangeEnd ps).toArray⟩) := by rw [Hid, hS]; exact rangeEnd_ok h0
    rw [← hS, h0] at hk
    rw [← hS, h0, ← HE.out]
    clear hS hL h0 HE hp
    go_enter Tryd.func13, Tryd.ntmps13
    go_wp2_with fail
    refine hk.mono ?_
    rintro e w1 ⟨rfl, b1⟩
    go_wp2_with fail
    go_ret3
    exact ⟨rfl, b1⟩
  · obtain ⟨h1, h2⟩ := rangeEnd_no h0
    have h3 : (keyErr ps == 0) = false := by simpa using h0
    rw [h2] at hk
    rw [h1, h2]
    clear hS hL h0 hp h1 h2 hSz
    go_enter Tryd.func13, Tryd.ntmps13
    go_wp2_with fail
    refine hk.mono ?_
    rintro e w1 ⟨rfl, b1⟩
    go_wp2_with fail
    go_ret3
    exact ⟨rfl, b1⟩
theorem in_range {ps ks : List Prt} (h : keyErr ps = 0) (h' : keyErr ks = 0) (hn : ∀ p ∈ ps, p.num < 18446744073709551616) (hn' : ∀ p ∈ ks, p.num < 18446744073709551616) :
    ((!(Op.bytesLess (⟨(keyBytes ks).toArray⟩ : ByteArray).toList (⟨(keyBytes ps).toArray⟩ : ByteArray).toList)) && Op.bytesLess (⟨(keyBytes ks).toArray⟩ : ByteArray).toList (⟨(rangeEnd ps).toArray⟩ : ByteArray).toList) = decide (ps.length ≤ ks.length ∧ ks.take ps.length = ps) := by
  obtain ⟨h1, h2, _⟩ := keyErr_zero h hn
  obtain ⟨h3, h4, _⟩ := keyErr_zero h' hn'
  rw [mk_toList, mk_toList, mk_toList, h2, h4, show rangeEnd ps = keyOf ps ++ [255] from by simp [rangeEnd, h], key_range ps ks h1 h3]
  congr 1
  apply propext
  constructor
  · intro e
    have := congrArg List.length e
    rw [List.length_take] at this
    exact ⟨by omega, e.symm⟩
  · rintro ⟨_, e⟩
    exact e.symm
set_option maxRecDepth 100000 in
set_option maxHeartbeats 4000000 in
theorem ranges_walk (a b : Option Addr) (ca cb : Nat) (ps qs : List Prt) (m : Int) (w : World) (hp : Small w a ps) (hq : Small w b qs) (hcb : qs.length ≤ cb) (hm : w.cell? ⟨0, 0, none⟩ = some (.int .i64 m)) :
    Calls Tryd.prog 5 #[.slice a ps.length ca, .slice b qs.length cb] w fun r w' => r = .returned (.bool true) ∧ Below w.heap.size w w' := by
  have z0 : 0 < w.heap.size := World.block_lt_of_cell? w _ hm
  obtain ⟨S, hS⟩ : ∃ S : ByteArray, S = ⟨(keyBytes ps).toArray⟩ := ⟨_, rfl⟩
  obtain ⟨E, hE⟩ : ∃ E : ByteArray, E = ⟨(rangeEnd ps).toArray⟩ := ⟨_, rfl⟩
  obtain ⟨T, hT⟩ : ∃ T : ByteArray, T = ⟨(keyBytes qs).toArray⟩ := ⟨_, rfl⟩
  obtain ⟨ea, hea⟩ : ∃ ea : Int, ea = keyErr ps := ⟨_, rfl⟩
  obtain ⟨eb, heb⟩ : ∃ eb : Int, eb = keyErr qs := ⟨_, rfl⟩
  have HKA : Hid (∀ W : World, Below w.heap.size w W → Calls Tryd.prog 12 #[.slice a ps.length ca] W fun r w' => r = .returned (.tuple #[.string S, .string E, .int .i64 ea]) ∧ Below W.heap.size W w') := fun W k => by
    rw [hS, hE, hea]; exact range_any a ca ps m W (hp.below (Nat.le_refl _) k) ((k.cell (p := ⟨0, 0, none⟩) z0).trans hm)
  have HRA : Hid (∀ W : World, Below w.heap.size w W → Calls Tryd.prog 13 #[.slice a ps.length ca] W fun r w' => r = .returned (.tuple #[.string S, .string E, .int .i64 ea]) ∧ Below W.heap.size W w') := fun W k => by
    rw [hS, hE, hea]; exact refRange_any a ca ps W (hp.below (Nat.le_refl _) k)
  have HKB : Hid (∀ W : World, Below w.heap.size w W → Calls Tryd.prog 7 #[.slice b qs.length cb] W fun r w' => r = .returned (.tuple #[.string T, .int .i64 eb]) ∧ Below W.heap.size W w') := fun W k => by
    rw [hT, heb]; exact key_any b cb qs m W (hq.below (Nat.le_refl _) k) ((k.cell (p := ⟨0, 0, none⟩) z0).trans hm)
  have HSM : Hid (ps.length ≤ qs.length → ∀ W : World, Below w.heap.size w W → Calls Tryd.prog 9 #[.slice b ps.length cb, .slice a ps.length ca] W fun r w' => r = .returned (.bool (decide (qs.take ps.length = ps))) ∧ ∃ n, w' = W.drewN n) := fun hle W k => by
    have h := sameParts_any b a cb ca (qs.take ps.length) ps W ((hq.lies.below (Nat.le_refl _) k).take _) (hp.lies.below (Nat.le_refl _) k) (by rw [List.length_take]; have := hp.few; omega) hp.few
    rw [List.length_take, Nat.min_eq_left hle] at h
    exact h
  have HL : Hid (ea = 0 → eb = 0 → ((!(Op.bytesLess T.toList S.toList)) && Op.bytesLess T.toList E.toList) = decide (ps.length ≤ qs.length ∧ qs.take ps.length = ps)) := fun h1 h2 => by
    rw [hea] at h1; rw [heb] at h2; rw [hS, hT, hE]
    exact in_range h1 h2 hp.nums hq.nums
  obtain ⟨n, hn⟩ : ∃ n, ps.length = n := ⟨_, rfl⟩
  obtain ⟨n', hn'⟩ : ∃ n', qs.length = n' := ⟨_, rfl⟩
  have hl1 := hp.few
  have hl2 := hq.few
  rw [hn] at HKA HRA HSM HL hl1
  rw [hn'] at HKB HSM HL hl2 hcb
  rw [hn, hn']
  obtain ⟨r2, hr2⟩ : ∃ r2, decide (qs.take n = ps) = r2 := ⟨_, rfl⟩
  have HL2 : Hid (ea = 0 → eb = 0 → ((!(Op.bytesLess T.toList S.toList)) && Op.bytesLess T.toList E.toList) = (decide (n ≤ n') && r2)) := fun h1 h2 => by
    rw [HL.out h1 h2, ← hr2]
    exact Bool.decide_and _ _
  rw [hr2] at HSM
  clear hn hn' hS hT hE hea heb hp hq hm z0 hr2 HL
  go_enter Tryd.func5, Tryd.ntmps5
  go_wp2_with fail
  refine (awake_any _).mono ?_
  rintro e w1 ⟨rfl, b1⟩
  go_wp2_with fail
  refine (HKA.out _ b1).mono ?_
  rintro e w2 ⟨rfl, b2⟩
  have B2 := b1.trans (b2.mono b1.size)
  clear b1 b2
  go_wp2_with fail
  refine (HRA.out _ B2).mono ?_
  rintro e w3 ⟨rfl, b3⟩
  have B3 := B2.trans (b3.mono B2.size)
  clear B2 b3
  go_wp2_with fail
  refine (HKB.out _ B3).mono ?_
  rintro e w4 ⟨rfl, b4⟩
  have B4 := B3.trans (b4.mono B3.size)
  clear B3 b4
  by_cases h0 : ea = 0 ∧ eb = 0
  · obtain ⟨rfl, rfl⟩ := h0
    have hl := HL2.out rfl rfl
    by_cases hle : n ≤ n'
    · rw [decide_eq_true hle, Bool.true_and] at hl
      obtain ⟨x1, hx1⟩ : ∃ x1, Op.bytesLess T.toList S.toList = x1 := ⟨_, rfl⟩
      obtain ⟨x2, hx2⟩ : ∃ x2, Op.bytesLess T.toList E.toList = x2 := ⟨_, rfl⟩
      rw [hx1, hx2] at hl
      have hnc : n ≤ cb := by omega
      have HSM2 := HSM.out hle
      go_wp2_with fail
      refine (HSM2 _ B4).mono ?_
      rintro e w5 ⟨rfl, q, rfl⟩
      cases x1 <;> cases x2 <;> cases r2 <;> simp at hl
      all_goals
        go_wp2_with fail
        go_ret
        exact ⟨rfl, B4.os, B4.tape, B4.output, B4.size, B4.block⟩
    · rw [decide_eq_false hle, Bool.false_and] at hl
      obtain ⟨x1, hx1⟩ : ∃ x1, Op.bytesLess T.toList S.toList = x1 := ⟨_, rfl⟩
      obtain ⟨x2, hx2⟩ : ∃ x2, Op.bytesLess T.toList E.toList = x2 := ⟨_, rfl⟩
      rw [hx1, hx2] at hl
      cases x1 <;> cases x2 <;> simp at hl
      all_goals
        go_wp2_with fail
        go_ret
        exact ⟨rfl, B4⟩
  · have h1 : ((ea == 0) = false) ∨ (ea = 0 ∧ (eb == 0) = false) := by
      by_cases hx : ea = 0
      · exact Or.inr ⟨hx, by simp; exact fun hy => h0 ⟨hx, hy⟩⟩
      · exact Or.inl (by simp [hx])
    clear h0 HL2
    rcases h1 with h1 | ⟨rfl, h2⟩
    all_goals
      go_wp2_with fail
      go_ret
      exact ⟨rfl, B4⟩
end Go.Proofs.YtkebddjndljodaaDoor
