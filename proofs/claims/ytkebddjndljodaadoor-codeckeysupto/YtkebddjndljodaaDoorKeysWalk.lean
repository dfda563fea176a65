/-
  The walk of CodecKeys: whatever the parts, the call returns true, and turns nothing that was there.
-/
import Derived.Test.YtkebddjndljodaaDoorSplit
import Derived.Test.YtkebddjndljodaaDoorRangesWalk
import Derived.Laws.AppendOwnNone
namespace Go.Proofs.YtkebddjndljodaaDoor
open Go.RowKit
/-- Parts in memory, as cells from an address on. -/
theorem cells_of_parts {w : World} {b off : Nat} {ps : List Prt} (h : PartsAt w (some ⟨b, off, none⟩) ps) : ∀ j u, (pcells ps)[j]? = some u → w.cell? ((⟨b, off, none⟩ : Addr).add j) = some u := by
  intro j u hu
  have ea : ∀ i, (⟨b, off, none⟩ : Addr).add i = ⟨b, off + i, none⟩ := fun i => by by_cases hi0 : i = 0 <;> simp [Addr.add, hi0]
  rw [ea]
  have hj : j < (pcells ps).length := (List.getElem?_eq_some_iff.1 hu).1
  rw [pcells_len] at hj
  obtain ⟨p, hp⟩ : ∃ p, ps[j / 3]? = some p := ⟨ps[j / 3]'(by omega), List.getElem?_eq_getElem _⟩
  obtain ⟨b', off', e, _, c0, c1, c2⟩ := h _ _ hp
  simp only [Option.some.injEq, Addr.mk.injEq] at e
  obtain ⟨rfl, rfl, _⟩ := e
  obtain ⟨h0, h1, h2⟩ := pcells_at hp
  have h3 : j = j / 3 * 3 ∨ j = j / 3 * 3 + 1 ∨ j = j / 3 * 3 + 2 := by omega
  rcases h3 with h3 | h3 | h3
  · rw [h3] at hu ⊢
    rw [h0] at hu
    cases hu
    simpa using c0
  · rw [h3] at hu ⊢
    rw [h1] at hu
    cases hu
    rw [← Nat.add_assoc]; exact c1
  · rw [h3] at hu ⊢
    rw [h2] at hu
    cases hu
    rw [← Nat.add_assoc]; exact c2
/-- An empty row of the call's own. -/
theorem empty_row (w : World) : (w.alloc (.cells #[] 47)).ownsRow w.heap.size 47 3 (.slice (some ⟨w.heap.size, 0, none⟩) 0 0) 0 [] := by
  refine ⟨rfl, Or.inr ⟨w.heap.size, 0, #[], rfl, Nat.le_refl _, block_alloc_at w _, Nat.le_refl _, by unfold maxLen; omega, rfl, ?_⟩⟩
  simp
set_option maxRecDepth 100000 in
set_option maxHeartbeats 4000000 in
theorem keys_walk (a : Option Addr) (ca : Nat) (ps : List Prt) (m : Int) (w : World) (hp : Small w a ps) (hnil : a = none → ca = 0) (hm : w.cell? ⟨0, 0, none⟩ = some (.int .i64 m)) :
    Calls Tryd.prog 3 #[.slice a ps.length ca] w fun r w' => r = .returned (.bool true) ∧ Below w.heap.size w w' := by
  obtain ⟨i0, hi, hz0, hz1, hz2⟩ := info_parts info47
  have z0 : 0 < w.heap.size := World.block_lt_of_cell? w _ hm
  obtain ⟨S, hS⟩ : ∃ S : ByteArray, S = ⟨(keyBytes ps).toArray⟩ := ⟨_, rfl⟩
  obtain ⟨ea, hea⟩ : ∃ ea : Int, ea = keyErr ps := ⟨_, rfl⟩
  have HK : Hid (∀ (W : World) (a' : Option Addr) (ca' : Nat), Below w.heap.size w W → PartsAt W a' ps → Calls Tryd.prog 7 #[.slice a' ps.length ca'] W fun r w' => r = .returned (.tuple #[.string S, .int .i64 ea]) ∧ Below W.heap.size W w') := fun W a' ca' k h => by
    rw [hS, hea]; exact key_any a' ca' ps m W ⟨h, hp.few, hp.texts, hp.nums⟩ ((k.cell (p := ⟨0, 0, none⟩) z0).trans hm)
  have HR : Hid (∀ W : World, Below w.heap.size w W → Calls Tryd.prog 8 #[.slice a ps.length ca] W fun r w' => r = .returned (.tuple #[.string S, .int .i64 ea]) ∧ Below W.heap.size W w') := fun W k => by
    rw [hS, hea]; exact refKey_any a ca ps W (hp.below (Nat.le_refl _) k)
  have HSM : Hid (∀ (W : World) (a' : Option Addr) (ca' : Nat), Below w.heap.size w W → PartsAt W a' ps → Calls Tryd.prog 9 #[.slice a' ps.length ca', .slice a ps.length ca] W fun r w' => r = .returned (.bool true) ∧ ∃ n, w' = W.drewN n) := fun W a' ca' k h => by
    have := sameParts_any a' a ca' ca ps ps W h (hp.lies.below (Nat.le_refl _) k) hp.few hp.few
    rw [decide_eq_true rfl] at this
    exact this
  have HSP : Hid (ea = 0 → ∀ W : World, Calls Tryd.prog 10 #[.string S] W fun r w' => ∃ a cap, r = .returned (.tuple #[.slice a ps.length cap, .int .i64 0]) ∧ PartsAt w' a ps ∧ Below W.heap.size W w') := fun h W => by
    rw [hea] at h
    obtain ⟨h1, h2, h3⟩ := keyErr_zero h hp.nums
    have hl := keyBytes_len hp
    exact split_any ps S W (by rw [hS, h2]) h3 h1 (by rw [hS, size_mk]; exact hl)
  have HA : Hid _ := hp.lies
  obtain ⟨n, hn⟩ : ∃ n, ps.length = n := ⟨_, rfl⟩
  have HN : Hid _ := hn
  have hl1 := hp.few
  rw [hn] at HK HR HSM HSP hl1
  rw [hn]
  clear hn hS hea hp hm z0
  go_enter Tryd.func3, Tryd.ntmps3
  go_wp2_with fail
  refine (awake_any _).mono ?_
  rintro e w1 ⟨rfl, b1⟩
  have er := empty_row w1
  have z1 := b1.size
  have HPL : Hid ((pcells ps).length = n * 3) := by rw [Hid, pcells_len, HN.out]
  cases a with
  | none =>
    obtain rfl : ca = 0 := hnil rfl
    have hps : ps = [] := by
      cases ps with
      | nil => rfl
      | cons p l => obtain ⟨b, off, e, _⟩ := HA.out 0 p rfl; cases e
    subst hps
    obtain rfl : n = 0 := HN.out.symm
    go_wp2_with (at_builtin; refine wpList_append_own_none rfl (.tmp 11) (.tmp 12) 22 rfl w1.heap.size 47 i0 3 Tryd.underlying22 hi _ _ _ rfl er rfl ?_)
    have hin : PartsAt (w1.alloc (.cells #[] 47)) (some ⟨w1.heap.size, 0, none⟩) [] := fun j p hj => by simp at hj
    have B2 : Below w.heap.size w (w1.alloc (.cells #[] 47)) := b1.alloc b1.size _
    obtain ⟨w2, hw2⟩ : ∃ w2, w1.alloc (.cells #[] 47) = w2 := ⟨_, rfl⟩
    obtain ⟨a2, ha2⟩ : ∃ a2, (some ⟨w1.heap.size, 0, none⟩ : Option Addr) = a2 := ⟨_, rfl⟩
    rw [hw2, ha2] at hin
    rw [hw2] at B2
    rw [hw2]
    try rw [ha2]
    clear hw2 ha2 er b1
    refine (HK.out _ _ _ B2 hin).mono ?_
    rintro e w3 ⟨rfl, b3⟩
    have B3 := B2.trans (b3.mono B2.size)
    have hin3 := hin.below (Nat.le_refl _) b3
    clear B2 hin b3
    go_wp2_with fail
    refine (HR.out _ B3).mono ?_
    rintro e w4 ⟨rfl, b4⟩
    have B4 := B3.trans (b4.mono B3.size)
    have hin4 := hin3.below (Nat.le_refl _) b4
    clear B3 hin3 b4
    go_wp2_with fail
    refine (HSM.out _ _ _ B4 hin4).mono ?_
    rintro e w5 ⟨rfl, q, rfl⟩
    have B5 : Below w.heap.size w (w4.drewN q) := ⟨B4.os, B4.tape, B4.output, B4.size, B4.block⟩
    clear B4 hin4
    by_cases h0 : ea = 0
    · subst h0
      go_wp2_with fail
      refine (HSP.out (by first | rfl | trivial) _).mono ?_
      rintro e w6 ⟨a6, cap6, rfl, hin6, b6⟩
      have B6 := B5.trans (b6.mono B5.size)
      clear B5 b6
      go_wp2_with fail
      refine (HSM.out _ _ _ B6 hin6).mono ?_
      rintro e w7 ⟨rfl, q7, rfl⟩
      go_wp2_with fail
      go_ret
      exact ⟨rfl, B6.os, B6.tape, B6.output, B6.size, B6.block⟩
    · have h1 : (ea == 0) = false := by simpa using h0
      go_wp2_with fail
      go_ret
      exact ⟨rfl, B5⟩
  | some ad =>
    obtain ⟨b, off, spot⟩ := ad
    have hcs : ∀ o j u, (pcells ps)[j]? = some u → (w1.alloc o).cell? ((⟨b, off, spot⟩ : Addr).add j) = some u := by
      intro o j u hu
      cases ps with
      | nil => simp [pcells] at hu
      | cons p l =>
        obtain ⟨b', off', e, hb', _⟩ := HA.out 0 p rfl
        simp only [Option.some.injEq, Addr.mk.injEq] at e
        obtain ⟨rfl, rfl, rfl⟩ := e
        have h1 := cells_of_parts HA.out j u hu
        have ea' : (⟨b, off, none⟩ : Addr).add j = ⟨b, off + j, none⟩ := by by_cases hi0 : j = 0 <;> simp [Addr.add, hi0]
        rw [ea'] at h1 ⊢
        exact cell_more o ((b1.cell (p := ⟨b, off + j, none⟩) hb').trans h1)
    go_wp2_with (at_builtin; refine wpList_append_own _ rfl (.tmp 11) (.tmp 12) 22 rfl w1.heap.size 47 i0 (.agg #[.string ⟨#[]⟩, .int .u64 0, .bool false]) 3 32 Tryd.underlying22 hi hz0 hz1 hz2 rfl (by decide) _ _ _ rfl er ⟨b, off, spot⟩ n ca (pcells ps) rfl HPL.out (hcs _) (pcells_one _) (by unfold maxLen; omega) (by omega) (by simp) ?_)
    intro v2 w2 hown2 hg2 _
    try simp only [List.nil_append, Nat.zero_add] at hown2
    obtain ⟨a2, cap2, rfl⟩ := form_of_row3 hown2
    have hin : PartsAt w2 a2 ps := parts_of_row hown2
    have B2 : Below w.heap.size w w2 := (b1.alloc b1.size _).grown hg2 (by simp; omega) (fun i hi => by have := (er.lt i hi).1; omega)
    clear hown2 hg2 hcs er b1
    go_wp2_with fail
    refine (HK.out _ _ _ B2 hin).mono ?_
    rintro e w3 ⟨rfl, b3⟩
    have B3 := B2.trans (b3.mono B2.size)
    have hin3 := hin.below (Nat.le_refl _) b3
    clear B2 hin b3
    go_wp2_with fail
    refine (HR.out _ B3).mono ?_
    rintro e w4 ⟨rfl, b4⟩
    have B4 := B3.trans (b4.mono B3.size)
    have hin4 := hin3.below (Nat.le_refl _) b4
    clear B3 hin3 b4
    go_wp2_with fail
    refine (HSM.out _ _ _ B4 hin4).mono ?_
    rintro e w5 ⟨rfl, q, rfl⟩
    have B5 : Below w.heap.size w (w4.drewN q) := ⟨B4.os, B4.tape, B4.output, B4.size, B4.block⟩
    clear B4 hin4
    by_cases h0 : ea = 0
    · subst h0
      go_wp2_with fail
      refine (HSP.out (by first | rfl | trivial) _).mono ?_
      rintro e w6 ⟨a6, cap6, rfl, hin6, b6⟩
      have B6 := B5.trans (b6.mono B5.size)
      clear B5 b6
      go_wp2_with fail
      refine (HSM.out _ _ _ B6 hin6).mono ?_
      rintro e w7 ⟨rfl, q7, rfl⟩
      go_wp2_with fail
      go_ret
      exact ⟨rfl, B6.os, B6.tape, B6.output, B6.size, B6.block⟩
    · have h1 : (ea == 0) = false := by simpa using h0
      go_wp2_with fail
      go_ret
      exact ⟨rfl, B5⟩
end Go.Proofs.YtkebddjndljodaaDoor
