/-
  The walk of CodecWrites: whatever the bound and the writes (up to a sum of their sizes), the call returns true, and turns nothing that was there.
-/
import Derived.Test.YtjfoljbjkaahlaaWgen
import Derived.Test.YtjfoljbjkaahlaaRefVar
import Derived.Deep.RegionWith
namespace Go.Proofs.Ytjfoljbjkaahlaa
open Go.RowKit
/-- What the writer has behind k of the writes. -/
def stAt (M : Int) (K : Nat → Int) (N : Nat → Nat) (S : Nat → ByteArray) : Nat → Bool × List UInt8
  | 0 => (false, [])
  | k + 1 => wnext M (stAt M K N S k) (opBytes (K k) (N k) (S k))
def sizeTo (S : Nat → ByteArray) : Nat → Nat
  | 0 => 0
  | k + 1 => sizeTo S k + (S k).size + 10
theorem sizeTo_mono (S : Nat → ByteArray) : ∀ {j k : Nat}, j ≤ k → sizeTo S j ≤ sizeTo S k
  | _, 0, h => by obtain rfl := Nat.le_zero.1 h; exact Nat.le_refl _
  | j, k + 1, h => by
    rcases Nat.lt_or_ge j (k + 1) with h1 | h1
    · have := sizeTo_mono S (Nat.le_of_lt_succ h1); show _ ≤ sizeTo S k + (S k).size + 10; omega
    · obtain rfl : j = k + 1 := by omega
      exact Nat.le_refl _
theorem wnext_cases (M : Int) (o : Bool) (bs l : List UInt8) : (o = true ∧ wnext M (o, bs) l = (true, bs)) ∨ (o = false ∧ M - bs.length < l.length ∧ wnext M (o, bs) l = (true, [])) ∨ (o = false ∧ (l.length : Int) ≤ M - bs.length ∧ wnext M (o, bs) l = (false, bs ++ l)) := by
  cases o with
  | true => exact Or.inl ⟨rfl, rfl⟩
  | false =>
    by_cases h : M - bs.length < l.length
    · exact Or.inr (Or.inl ⟨rfl, h, wnext_no h⟩)
    · exact Or.inr (Or.inr ⟨rfl, by omega, wnext_ok (by omega)⟩)
section
variable {M : Int} {K : Nat → Int} {N : Nat → Nat} {S : Nat → ByteArray}
theorem stAt_facts (hM : 0 ≤ M) (hN : ∀ j, N j < 18446744073709551616) (hS : ∀ j, (S j).size < 18446744073709551616) : ∀ k, ((stAt M K N S k).1 = true → (stAt M K N S k).2 = []) ∧ ((stAt M K N S k).1 = false → ((stAt M K N S k).2.length : Int) ≤ M) ∧ (stAt M K N S k).2.length ≤ sizeTo S k
  | 0 => ⟨fun h => (by cases h), fun _ => hM, Nat.le_refl _⟩
  | k + 1 => by
    obtain ⟨h1, h2, h3⟩ := stAt_facts hM hN hS k
    have hl := opBytes_len (K k) (N k) (S k) (hN k) (hS k)
    rw [show stAt M K N S (k + 1) = wnext M (stAt M K N S k) (opBytes (K k) (N k) (S k)) from rfl, show sizeTo S (k + 1) = sizeTo S k + (S k).size + 10 from rfl]
    generalize stAt M K N S k = st at *
    obtain ⟨o, bs⟩ := st
    rcases wnext_cases M o bs (opBytes (K k) (N k) (S k)) with ⟨rfl, e⟩ | ⟨rfl, _, e⟩ | ⟨rfl, h4, e⟩
    · rw [e]; exact ⟨fun _ => h1 rfl, fun h => (by cases h), by have := h1 rfl; simp only at this h3 ⊢; omega⟩
    · rw [e]; exact ⟨fun _ => rfl, fun h => (by cases h), Nat.zero_le _⟩
    · rw [e]
      refine ⟨fun h => (by cases h), fun _ => ?_, ?_⟩
      · simp only [List.length_append] at *; omega
      · simp only [List.length_append] at *; omega
end
theorem keeps_of_below {w w' : World} (h : Below w.heap.size w w') : Keeps (fun _ => False) w w' := ⟨h.os, h.tape, h.output, h.size, fun k hk _ => h.block k hk⟩
theorem WIs.below {w w' : World} {base b : Nat} {M : Int} {bs : List UInt8} {o : Bool} {v : Value} (h : WIs w base b M bs o v) (k : Below w.heap.size w w') : WIs w' base b M bs o v := h.kept (keeps_of_below k) (fun f => f) (fun _ _ f => f)
theorem wdone_gen {w : World} {base b : Nat} {M : Int} {bs : List UInt8} {o : Bool} {v : Value} (h : WIs w base b M bs o v) (ho : o = true → bs = []) :
    Calls Try.prog 8 #[.pointer (some ⟨b, 0, none⟩)] w fun r w' => r = .returned (.tuple #[.string ⟨bs.toArray⟩, .int .i64 (if o then 3 else 0)]) ∧ w' = w := by
  cases o with
  | true =>
    obtain rfl := ho rfl
    refine (wdone_over h).mono ?_
    rintro r w' ⟨rfl, rfl⟩
    exact ⟨rfl, rfl⟩
  | false => exact wdone_ok h
/-- The block of an op that lies beyond the writer's stays as it is. -/
theorem op_kept {w w' : World} {base b g : Nat} {xs : Array Value} (k : WKeeps base b w w') (h : w.heap[g]? = some (.cells xs 28 (0, 0))) (hb : g ≠ b) : w'.heap[g]? = some (.cells xs 28 (0, 0)) := by
  refine (k.block g (lt_of_block h) (fun s => ?_)).trans h
  rcases s with s | ⟨_, cur, s⟩
  · exact hb s
  · rw [h] at s; simp at s
theorem fit_iff {most M : Int} {c L : Nat} (hM : M = max most 0) (hc : (c : Int) ≤ M) : (most - c < L ∧ 0 < L) ↔ M - c < L := by
  rcases Int.le_total 0 most with h | h
  · have : M = most := by omega
    subst this
    omega
  · have : M = 0 := by omega
    omega
set_option maxRecDepth 100000 in
set_option maxHeartbeats 8000000 in
theorem writes_walk (most : Int) (b off len cap : Nat) (K : Nat → Int) (N : Nat → Nat) (S : Nat → ByteArray) (w : World) (hm1 : -9223372036854775808 ≤ most) (hm2 : most ≤ 9223372036854775807) (hlen : len ≤ 9223372036854775807)
    (hb : b < w.heap.size) (hN : ∀ j, N j < 18446744073709551616) (hS : ∀ j, (S j).size ≤ 140737488355328) (hsum : sizeTo S len ≤ 1073741824)
    (hops : ∀ j, j < len → w.cell? ⟨b, off + j * 3, none⟩ = some (.int .i64 (K j)) ∧ w.cell? ⟨b, off + j * 3 + 1, none⟩ = some (.int .u64 (N j)) ∧ w.cell? ⟨b, off + j * 3 + 2, none⟩ = some (.string (S j))) :
    Calls Try.prog 4 #[.int .i64 most, .slice (some ⟨b, off, none⟩) len cap] w fun r w' => r = .returned (.bool true) ∧ Below w.heap.size w w' := by
  have HO : Hid _ := hops
  have HS : Hid _ := hS
  have HN : Hid _ := hN
  have HSum : Hid _ := hsum
  clear hops hS hN hsum
  obtain ⟨M, hMd⟩ : ∃ M, max most 0 = M := ⟨_, rfl⟩
  have HM : Hid (M = max most 0) := hMd.symm
  have HM0 : Hid (0 ≤ M) := by rw [Hid]; omega
  have HM1 : Hid (M ≤ 9223372036854775807) := by rw [Hid]; omega
  have HF : Hid (∀ k, _) := stAt_facts (M := M) (K := K) (N := N) (S := S) HM0.out HN.out (fun j => by have := HS.out j; omega)
  go_enter Try.func4, Try.ntmps4
  go_wp2_with fail
  refine (newWriter_any most _).mono ?_
  rintro e w1 ⟨rfl, h1, k1⟩
  rw [hMd] at h1
  clear hMd
  replace h1 := h1.none (w.heap.size)
  have B1 : Below w.heap.size w w1 := k1.below (Nat.le_refl _) (fun _ f => f.elim)
  have z1 := h1.lt
  go_wp2_with fail
  refine (awake_any _).mono ?_
  rintro e w2 ⟨rfl, B2⟩
  have h2 : WIs w2 w.heap.size w.heap.size M [] false (.slice none 0 0) := ⟨(B2.block _ z1).trans h1.block, World.ownsRow_nil _ _ _ _⟩
  have B3 : Below w.heap.size w w2 := B1.trans (B2.mono (by omega))
  have z2 := B2.size
  have z3 := h2.lt
  clear h1 k1 B1 B2
  go_wp2_with fail
  go_loopw [6, 7, 25] (fun al ov i wr => ∃ k : Nat, ∃ v A o bs, k ≤ len ∧ Hid ((o, bs) = stAt M K N S k) ∧ al = .string A ∧ Hid (A = ⟨bs.toArray⟩) ∧ ov = .bool o ∧ i = .int .i64 k ∧ WIs wr w.heap.size w.heap.size M bs o v ∧ Below w.heap.size w wr) (fun _ _ i _ => len - (intOf i).toNat)
  case atStart => exact ⟨0, _, ByteArray.empty, false, [], by omega, rfl, rfl, rfl, rfl, rfl, h2, B3⟩
  case round =>
    obtain ⟨k, v, A, o, bs, hk, HST, rfl, HA, rfl, rfl, hW, hbel⟩ := hrel
    clear h2 B3
    have HF1 : Hid _ := HF.out k
    rw [← HST.out] at HF1
    have HBS : Hid (bs.length ≤ 1073741824) := by
      have := HF1.out.2.2; have := sizeTo_mono S hk; have := HSum.out; simp only [Hid] at *; omega
    have hbase := hbel.size
    have hAs : A.size = bs.length := by rw [HA.out, size_mk]
    have hA2 : A.size ≤ 1073741824 := by rw [hAs]; exact HBS.out
    by_cases hlt : k < len
    · obtain ⟨o0, o1, o2⟩ := HO.out k hlt
      have c0 := (hbel.cell (p := ⟨b, off + k * 3, none⟩) hb).trans o0
      have c1 := (hbel.cell (p := ⟨b, off + k * 3 + 1, none⟩) hb).trans o1
      have c2 := (hbel.cell (p := ⟨b, off + k * 3 + 2, none⟩) hb).trans o2
      have HSk : Hid (bs.length + 10 + (S k).size ≤ 1073741824) := by
        have := HF1.out.2.2
        have h3 := sizeTo_mono S (show k + 1 ≤ len by omega)
        rw [show sizeTo S (k + 1) = sizeTo S k + (S k).size + 10 from rfl] at h3
        have := HSum.out
        simp only [Hid] at *
        omega
      obtain ⟨L, hL⟩ : ∃ L, opBytes (K k) (N k) (S k) = L := ⟨_, rfl⟩
      have HLL : Hid (L.length ≤ (S k).size + 10) := by rw [Hid, ← hL]; exact opBytes_len _ _ _ (HN.out k) (by have := HS.out k; omega)
      obtain ⟨T, hT⟩ : ∃ T : ByteArray, T = ⟨L.toArray⟩ := ⟨_, rfl⟩
      have hTs : T.size = L.length := by rw [hT, size_mk]
      have hT2 : T.size ≤ 1073741824 := by have := HLL.out; have := HSk.out; omega
      have HP1 : Hid (∀ (W : World) (v' : Value), WIs W w.heap.size w.heap.size M bs o v' → w.heap.size ≤ W.heap.size → Calls Try.prog 7 #[.pointer (some ⟨w.heap.size, 0, none⟩), .agg #[.int .i64 (K k), .int .u64 (N k), .string (S k)]] W fun r W' => r = .returned (.tuple #[]) ∧ Left W W' w.heap.size w.heap.size M (wnext M (o, bs) L)) := by
        rw [Hid, ← hL]
        exact fun W v' h hs => writeg_any _ _ _ HF1.out.2.1 h hs HM0.out HM1.out (HN.out k) (by have := HSk.out; omega)
      have HP2 : Hid (∀ W : World, Calls Try.prog 19 #[.agg #[.int .i64 (K k), .int .u64 (N k), .string (S k)]] W fun r W' => r = .returned (.string T) ∧ Below W.heap.size W W') := by
        rw [Hid, hT, ← hL]
        exact fun W => bytes_any _ _ _ W (HN.out k) (HS.out k)
      have HNX : Hid (wnext M (o, bs) L = stAt M K N S (k + 1)) := by
        rw [Hid, ← hL, HST.out]; rfl
      have HF2 : Hid _ := HF.out (k + 1)
      rw [← HNX.out] at HF2
      have HT : Hid _ := hT
      clear hT hL
      have hne : wr.heap.size ≠ w.heap.size := by have := hW.lt; omega
      go_wp2_with fail
      refine (HP1.out _ v (hW.alloc _) (by simp; omega)).mono ?_
      rintro e3 w3 ⟨rfl, ⟨v3, h3⟩, k3⟩
      have g3 := op_kept k3 (block_alloc_at wr (.cells #[.int .i64 (K k), .int .u64 (N k), .string (S k)] 28)) hne
      have q0 := cell_of_block (o := 0) g3 rfl
      have q1 := cell_of_block (o := 1) g3 rfl
      have q2 := cell_of_block (o := 2) g3 rfl
      have s3 := k3.size
      have HB3 : Hid (Below w.heap.size w w3) := (hbel.alloc hbel.size _).trans (k3.below (by simp; omega) (by rintro i (rfl | hi) <;> omega))
      clear c0 c1 c2 k3 hW
      go_wp2_with fail
      refine (HP2.out _).mono ?_
      rintro e4 w4 ⟨rfl, b4⟩
      have g4 := (b4.block _ (lt_of_block g3)).trans g3
      have r0 := cell_of_block (o := 0) g4 rfl
      have HB4 : Hid (Below w.heap.size w w4) := HB3.out.trans (b4.mono (by have := HB3.out.size; omega))
      have h4 := h3.below b4
      clear q0 q1 q2 g3 b4 h3
      have hr1 : -9223372036854775808 ≤ most - (A.size : Int) := by
        rcases HF1.out with ⟨f1, f2, _⟩
        have := HM.out
        cases o with
        | true => have e := f1 rfl; have : A.size = 0 := (by rw [hAs, e]; rfl); omega
        | false => have := f2 rfl; omega
      have hr2 : most - (A.size : Int) ≤ 9223372036854775807 := by omega
      rcases wnext_cases M o bs L with ⟨rfl, e5⟩ | ⟨rfl, hfit, e5⟩ | ⟨rfl, hfit, e5⟩
      · rw [e5] at h4 HNX HF2
        have HZ : Hid (A.size = bs.length) := hAs
        by_cases h7 : K k = 7
        · rw [h7] at r0
          go_wp2_with fail
          refine (wdone_gen h4 (fun _ => by have := HF2.out.1; simpa using this)).mono ?_
          rintro e5 w5 ⟨rfl, rfl⟩
          rw [if_pos rfl, ← HA.out]
          go_wp2_with fail
          refine (wlen_any h4).mono ?_
          rintro e6 w6 ⟨rfl, rfl⟩
          rw [← HZ.out]
          go_wp2_with fail
          go_roundw
          case rel => exact ⟨k + 1, v3, A, true, bs, by omega, HNX.out, rfl, HA, rfl, by go_num, h4, HB4.out⟩
          case measure => simp [intOf]; omega
        · have g7 : (K k == 7) = false := by simpa using h7
          go_wp2_with fail
          go_roundw
          case rel => exact ⟨k + 1, v3, A, true, bs, by omega, HNX.out, rfl, HA, rfl, by go_num, h4, HB4.out⟩
          case measure => simp [intOf]; omega
      · rw [e5] at h4 HNX HF2
        obtain ⟨hf1, hf2⟩ := (fit_iff (L := L.length) HM.out (HF1.out.2.1 rfl)).2 hfit
        have hf3 : most - (A.size : Int) < (T.size : Int) := by rw [hAs, hTs]; exact hf1
        have hf4 : 0 < (T.size : Int) := by omega
        have HE : Hid (ByteArray.empty = ⟨([] : List UInt8).toArray⟩) := rfl
        have HZ : Hid (ByteArray.empty.size = ([] : List UInt8).length) := rfl
        clear hfit
        by_cases h7 : K k = 7
        · rw [h7] at r0
          go_wp2_with fail
          refine (wdone_gen h4 (fun _ => rfl)).mono ?_
          rintro e5 w5 ⟨rfl, rfl⟩
          rw [if_pos rfl, ← HE.out]
          go_wp2_with fail
          refine (wlen_any h4).mono ?_
          rintro e6 w6 ⟨rfl, rfl⟩
          rw [← HZ.out]
          go_wp2_with fail
          go_roundw
          case rel => exact ⟨k + 1, v3, ByteArray.empty, true, [], by omega, HNX.out, rfl, HE, rfl, by go_num, h4, HB4.out⟩
          case measure => simp [intOf]; omega
        · have g7 : (K k == 7) = false := by simpa using h7
          go_wp2_with fail
          go_roundw
          case rel => exact ⟨k + 1, v3, ByteArray.empty, true, [], by omega, HNX.out, rfl, HE, rfl, by go_num, h4, HB4.out⟩
          case measure => simp [intOf]; omega
      · rw [e5] at h4 HNX HF2
        have hf0 : ¬ (most - (bs.length : Int) < (L.length : Int) ∧ 0 < L.length) := fun h => by have := (fit_iff (L := L.length) HM.out (HF1.out.2.1 rfl)).1 h; omega
        have HE : Hid (A ++ T = ⟨(bs ++ L).toArray⟩) := by
          apply bytes_ext'
          rw [ByteArray.data_append, Array.toList_append, HA.out, HT.out]
        have HZ : Hid ((A ++ T).size = (bs ++ L).length) := by rw [Hid, HE.out, size_mk]
        have hat : A.size + T.size ≤ 4294967296 := by omega
        by_cases hz : (T.size : Int) ≤ most - (A.size : Int)
        · clear hf0 hfit
          by_cases h7 : K k = 7
          · rw [h7] at r0
            go_wp2_with fail
            refine (wdone_gen h4 (fun h => by cases h)).mono ?_
            rintro e5 w5 ⟨rfl, rfl⟩
            rw [if_neg (by decide), ← HE.out]
            go_wp2_with fail
            refine (wlen_any h4).mono ?_
            rintro e6 w6 ⟨rfl, rfl⟩
            rw [← HZ.out]
            go_wp2_with fail
            go_roundw
            case rel => exact ⟨k + 1, v3, (A ++ T), false, (bs ++ L), by omega, HNX.out, rfl, HE, rfl, by go_num, h4, HB4.out⟩
            case measure => simp [intOf]; omega
          · have g7 : (K k == 7) = false := by simpa using h7
            go_wp2_with fail
            go_roundw
            case rel => exact ⟨k + 1, v3, (A ++ T), false, (bs ++ L), by omega, HNX.out, rfl, HE, rfl, by go_num, h4, HB4.out⟩
            case measure => simp [intOf]; omega
        · have hz0 : T.size = 0 := by omega
          have hz1 : most - (A.size : Int) < (T.size : Int) := by omega
          have hz2 : (T.size : Int) = 0 := by omega
          clear hf0 hfit
          by_cases h7 : K k = 7
          · rw [h7] at r0
            go_wp2_with fail
            refine (wdone_gen h4 (fun h => by cases h)).mono ?_
            rintro e5 w5 ⟨rfl, rfl⟩
            rw [if_neg (by decide), ← HE.out]
            go_wp2_with fail
            refine (wlen_any h4).mono ?_
            rintro e6 w6 ⟨rfl, rfl⟩
            rw [← HZ.out]
            go_wp2_with fail
            go_roundw
            case rel => exact ⟨k + 1, v3, (A ++ T), false, (bs ++ L), by omega, HNX.out, rfl, HE, rfl, by go_num, h4, HB4.out⟩
            case measure => simp [intOf]; omega
          · have g7 : (K k == 7) = false := by simpa using h7
            go_wp2_with fail
            go_roundw
            case rel => exact ⟨k + 1, v3, (A ++ T), false, (bs ++ L), by omega, HNX.out, rfl, HE, rfl, by go_num, h4, HB4.out⟩
            case measure => simp [intOf]; omega

    · obtain rfl : k = len := by omega
      have HZ : Hid (A.size = bs.length) := hAs
      cases o with
      | true =>
        have hb0 : bs = [] := HF1.out.1 rfl
        go_wp2_with fail
        refine (wdone_gen hW (fun _ => hb0)).mono ?_
        rintro e5 w5 ⟨rfl, rfl⟩
        rw [if_pos rfl, ← HA.out]
        go_wp2_with fail
        refine (wlen_any hW).mono ?_
        rintro e6 w6 ⟨rfl, rfl⟩
        rw [← HZ.out]
        go_wp2_with fail
        go_ret
        exact ⟨rfl, hbel⟩
      | false =>
        go_wp2_with fail
        refine (wdone_gen hW (fun h => by cases h)).mono ?_
        rintro e5 w5 ⟨rfl, rfl⟩
        rw [if_neg (by decide), ← HA.out]
        go_wp2_with fail
        refine (wlen_any hW).mono ?_
        rintro e6 w6 ⟨rfl, rfl⟩
        rw [← HZ.out]
        go_wp2_with fail
        go_ret
        exact ⟨rfl, hbel⟩
end Go.Proofs.Ytjfoljbjkaahlaa
