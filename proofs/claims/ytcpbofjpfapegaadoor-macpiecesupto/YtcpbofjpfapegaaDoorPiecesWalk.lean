/-
  The walk of MacPieces: however a text is cut into pieces, wherever one asks, and whatever is written to forks, its sum is the same.
-/
import Derived.Test.YtcpbofjpfapegaaDoorProofsWalk
import Derived.Lib.AppendStr
namespace Go.Proofs.YtcpbofjpfapegaaDoor
open Go.RowKit
def allTo (T : Nat → ByteArray) : Nat → List UInt8
  | 0 => []
  | k + 1 => allTo T k ++ (T k).data.toList
def hsTo (T : Nat → ByteArray) (k : Nat) : HS := absorbAll fresh ((allTo T k).map UInt8.toNat)
theorem hsTo_succ (T : Nat → ByteArray) (k : Nat) : hsTo T (k + 1) = absorbAll (hsTo T k) (bys (T k)) := by
  rw [hsTo, hsTo, allTo, List.map_append, absorbAll_append]
  rfl
theorem hsTo_z (T : Nat → ByteArray) (k : Nat) : (hsTo T k).z = (allTo T k).length := by
  rw [hsTo, absorbAll_z, List.length_map]
  exact Nat.zero_add _
theorem hsTo_sum (T : Nat → ByteArray) (k : Nat) : sumOf (hsTo T k) = sha ⟨(allTo T k).toArray⟩ := rfl
theorem allTo_mono (T : Nat → ByteArray) : ∀ {j k : Nat}, j ≤ k → (allTo T j).length ≤ (allTo T k).length
  | _, 0, h => by obtain rfl := Nat.le_zero.1 h; exact Nat.le_refl _
  | j, k + 1, h => by
    rcases Nat.lt_or_ge j (k + 1) with h1 | h1
    · have := allTo_mono T (Nat.le_of_lt_succ h1)
      rw [allTo, List.length_append]
      omega
    · obtain rfl : j = k + 1 := by omega
      exact Nat.le_refl _
section
variable {w w' : World} {b base n : Nat} {h : HS} {v : Value} {xs : List Value}
theorem his_apart (q : HIs w b h) (r : w.ownsRow base 5 1 v n xs) : v.ownBlock ≠ some b := by
  intro e
  rcases r.2 with ⟨rfl, _⟩ | ⟨g, cap, cur, rfl, _, hg, _⟩
  · cases e
  · simp only [Value.ownBlock, Option.some.injEq] at e
    subst e
    rw [q.block] at hg
    simp at hg
theorem row_keeps {S : Nat → Prop} (r : w.ownsRow base 5 1 v n xs) (k : Keeps S w w') (hne : ∀ i, v.ownBlock = some i → ¬ S i) : w'.ownsRow base 5 1 v n xs := by
  refine ⟨r.1, ?_⟩
  rcases r.2 with q | ⟨g, cap, cur, rfl, hb, hh, z⟩
  · exact Or.inl q
  · exact Or.inr ⟨g, cap, cur, rfl, hb, (k.block g (lt_of_block hh) (hne g rfl)).trans hh, z⟩
theorem his_grown (q : HIs w b h) (hg : w.grownBy w' v.ownBlock) (hne : v.ownBlock ≠ some b) : HIs w' b h :=
  ⟨(hg.block b q.lt (fun e => hne e.symm)).trans q.block, q.small, q.bytes⟩
theorem piece_apart {g : Nat} {cs : Array Value} (ho : w.heap[g]? = some (.cells cs 34 (0, 0))) (r : w.ownsRow base 5 1 v n xs) : v.ownBlock ≠ some g := by
  intro e
  rcases r.2 with ⟨rfl, _⟩ | ⟨g', cap, cur, rfl, _, hg, _⟩
  · cases e
  · simp only [Value.ownBlock, Option.some.injEq] at e
    subst e
    rw [ho] at hg
    simp at hg
end
/-- What the loop holds: the Hasher in block p, and the row of all bytes. -/
structure PI (w W : World) (p : Nat) (X : HS) (v : Value) (cur : List UInt8) : Prop where
  his : HIs W p X
  low : w.heap.size ≤ p
  row : W.ownsRow w.heap.size 5 1 v cur.length (cellsOf cur)
  bel : Below w.heap.size w W
section
variable {w W W' : World} {p : Nat} {X : HS} {v : Value} {cur : List UInt8}
theorem PI.below (h : PI w W p X v cur) (B : Below W.heap.size W W') : PI w W' p X v cur :=
  ⟨below_his' h.his B h.his.lt, h.low, row_below h.row B, h.bel.trans (B.mono h.bel.size)⟩
theorem PI.drew (h : PI w W p X v cur) : PI w W.drew p X v cur := h.below ((Below.refl _ W).drew)
theorem PI.alloc (h : PI w W p X v cur) (o : Obj) : PI w (W.alloc o) p X v cur := h.below ((Below.refl _ W).alloc (Nat.le_refl _) o)
end
set_option maxRecDepth 100000 in
set_option maxHeartbeats 8000000 in
theorem pieces_walk (b off len cap : Nat) (T : Nat → ByteArray) (F A : Nat → Bool) (w : World) (hK : GK w) (hlen : len ≤ 9223372036854775807) (hb : b < w.heap.size) (hsum : (allTo T len).length ≤ 1048576)
    (hops : ∀ j, j < len → w.cell? ⟨b, off + j * 3, none⟩ = some (.string (T j)) ∧ w.cell? ⟨b, off + j * 3 + 1, none⟩ = some (.bool (F j)) ∧ w.cell? ⟨b, off + j * 3 + 2, none⟩ = some (.bool (A j))) :
    Calls Tryd.prog 6 #[.slice (some ⟨b, off, none⟩) len cap] w fun e w' => e = .returned (.bool true) ∧ Below w.heap.size w w' := by
  obtain ⟨i0, hi, hz0, hz1, hz2⟩ := info_parts info5
  have HK : Hid (GK w) := hK
  have HO : Hid _ := hops
  have HSum : Hid _ := hsum
  clear hK hops hsum
  have hpos := HK.out.1
  go_enter Tryd.func6, Tryd.ntmps6
  go_wp2_with fail
  refine (new_any w).mono ?_
  rintro e0 w0 ⟨rfl, q0, k0⟩
  have B0 : Below w.heap.size w w0 := k0.below (Nat.le_refl _) (fun _ f => f.elim)
  have HK0 : Hid (GK w0) := HK.out.below B0
  have z0 := B0.size
  go_wp2_with fail
  refine (awake_any w0 HK0.out).mono ?_
  rintro e1 w1 ⟨rfl, B1⟩
  have P1 : PI w w1 w.heap.size (hsTo T 0) (.slice none 0 0) [] := ⟨below_his' q0 B1 q0.lt, Nat.le_refl _, World.ownsRow_nil _ _ _ _, B0.trans (B1.mono (by omega))⟩
  clear q0 k0 B0 HK0 B1 z0
  go_wp2_with fail
  go_loopw [3, 4, 17] (fun hv v i wr => ∃ (k p : Nat) (X : HS) (cur : List UInt8), k ≤ len ∧ hv = .pointer (some ⟨p, 0, none⟩) ∧ i = .int .i64 k ∧ Hid (X = hsTo T k) ∧ Hid (cur = allTo T k) ∧ PI w wr p X v cur) (fun _ _ i _ => len - (intOf i).toNat)
  case atStart => exact ⟨0, w.heap.size, hsTo T 0, [], by omega, rfl, rfl, rfl, rfl, P1⟩
  case round =>
    clear P1
    obtain ⟨k, p, X, cur, hk, rfl, rfl, HX, HC, hP⟩ := hrel
    have HLn : Hid (cur.length ≤ 1048576) := by
      have := allTo_mono T hk; have := HSum.out; rw [Hid, HC.out]; omega
    have HXz : Hid (X.z = cur.length) := by rw [Hid, HX.out, HC.out, hsTo_z]
    have hrow := hP.row
    obtain ⟨a, cap', rfl⟩ := form_of_row hrow
    clear hrow
    by_cases hlt : k < len
    · obtain ⟨o0, o1, o2⟩ := HO.out k hlt
      have hbel := hP.bel
      have c0 := (hbel.cell (p := ⟨b, off + k * 3, none⟩) hb).trans o0
      have c1 := (hbel.cell (p := ⟨b, off + k * 3 + 1, none⟩) hb).trans o1
      have c2 := (hbel.cell (p := ⟨b, off + k * 3 + 2, none⟩) hb).trans o2
      have HT : Hid (cur.length + (T k).size ≤ 1048576) := by
        have h1 := allTo_mono T (show k + 1 ≤ len by omega)
        rw [allTo, List.length_append, ← HC.out] at h1
        have e : (T k).data.toList.length = (T k).size := by simp
        have := HSum.out
        rw [Hid]
        omega
      obtain ⟨C4, hC4⟩ : ∃ C4, cur ++ (T k).data.toList = C4 := ⟨_, rfl⟩
      have HC4 : Hid _ := hC4
      have HC4l : Hid (C4.length = cur.length + (T k).size) := by rw [Hid, ← hC4, List.length_append]; simp
      have HC' : Hid (C4 = allTo T (k + 1)) := by rw [Hid, ← hC4, allTo, HC.out]
      clear hC4
      have HX' : Hid (absorbAll X (bys (T k)) = hsTo T (k + 1)) := by rw [Hid, hsTo_succ, HX.out]
      clear hbel o0 o1 o2
      cases hF : F k with
      | false =>
        rw [hF] at c1
        go_wp2_with fail
        obtain ⟨wq, hwq⟩ : ∃ wq, wr.alloc (.cells #[.string (T k), .bool false, .bool (A k)] 34) = wq := ⟨_, rfl⟩
        have hPq : PI w wq p X (.slice a cur.length cap') cur := by rw [← hwq]; exact hP.alloc _
        have obq : wq.heap[wr.heap.size]? = some (.cells #[.string (T k), .bool false, .bool (A k)] 34 (0, 0)) := by rw [← hwq]; exact block_alloc_at _ _
        have hplt := hP.his.lt
        rw [hwq]
        clear c0 c1 c2 hP hwq
        have HKq : Hid (GK wq) := HK.out.below hPq.bel
        go_wp2_with fail
        refine (write_any (T k) X p wq hPq.his (by have := hPq.low; omega) HKq.out (by have := HXz.out; have := HT.out; omega)).mono ?_
        rintro e3 w3 ⟨rfl, q3, k3⟩
        have hap := his_apart hPq.his hPq.row
        have r3 := row_keeps hPq.row k3 (fun i hi e => hap (by rw [hi, e]))
        have B3 : Below w.heap.size w w3 := hPq.bel.trans (k3.below hPq.bel.size (fun i hi => by rw [hi]; exact hPq.low))
        have ob3 := (k3.block _ (lt_of_block obq) (by have := hPq.low; omega)).trans obq
        have g0 := cell_of_block (o := 0) ob3 rfl
        have hb3 := B3.size
        clear k3 hap HKq obq
        have hlow := hPq.low
        clear hPq
        go_wp2_with (at_builtin; refine Lib.wpList_append_own_string _ rfl (.tmp 34) (.tmp 36) 28 9 rfl w.heap.size 5 i0 Tryd.underlying28 Tryd.underlying9 hi hz0 hz1 hz2 _ _ _ rfl r3 (T k) rfl ?c3 ?c4 hb3 ?_)
        case c3 => have := HT.out; unfold maxLen; omega
        case c4 => have := HT.out; omega
        intro v4 w4 hown4 hgrow4 _
        have hP4 : PI w w4 p (absorbAll X (bys (T k))) v4 C4 := ⟨his_grown q3 hgrow4 (his_apart q3 r3), hlow, by
          rw [← HC4.out, cellsOf_append, List.length_append]; exact hown4, B3.grown hgrow4 hb3 (fun i hi => (r3.lt i hi).1)⟩
        have ob4 := (hgrow4.block _ (lt_of_block ob3) (fun e => piece_apart ob3 r3 e.symm)).trans ob3
        have g2 := cell_of_block (o := 2) ob4 rfl
        clear hown4 hgrow4 r3 q3 ob3 g0 B3 hb3
        have hrow4 := hP4.row
        obtain ⟨a4, cap4, rfl⟩ := form_of_row hrow4
        clear hrow4
        cases hA : A k with
        | false =>
          rw [hA] at g2
          go_wp2_with fail
          go_region
          go_wp2_with fail
          exact ⟨⟨k + 1, p, _, _, by omega, rfl, by go_num, HX'.out, HC'.out, hP4.drew⟩, by simp [intOf]; omega⟩
        | true =>
          rw [hA] at g2
          obtain ⟨L, hL⟩ : ∃ L : ByteArray, L = ⟨C4.toArray⟩ := ⟨_, rfl⟩
          have hLs : L.size = C4.length := by rw [hL, mk_size]
          have hLm : L.size ≤ 1048576 := by have := HT.out; have := HC4l.out; rw [hLs]; omega
          obtain ⟨D, hD⟩ : ∃ D : ByteArray, D = ⟨(sha L).toArray⟩ := ⟨_, rfl⟩
          have HP20 : Hid (∀ W : World, PI w W p (absorbAll X (bys (T k))) (.slice a4 C4.length cap4) C4 → Calls Tryd.prog 20 #[.pointer (some ⟨p, 0, none⟩)] W fun e W' => e = .returned (.string D) ∧ Below W.heap.size W W') := by
            intro W hW
            have := hsum_any p _ W hW.his (HK.out.below hW.bel) (by rw [absorbAll_z, bys_length]; have := HXz.out; have := HT.out; omega)
            rw [HX'.out, hsTo_sum, ← HC'.out, ← hL, ← hD] at this
            exact this
          have HP11 : Hid (∀ W : World, Calls Tryd.prog 11 #[.string L] W fun e W' => e = .returned (.string D) ∧ Below W.heap.size W W') := by
            rw [Hid, hD]; exact fun W => refSum_any L W (by omega)
          have HP21 : Hid (∀ W : World, PI w W p (absorbAll X (bys (T k))) (.slice a4 C4.length cap4) C4 → Calls Tryd.prog 21 #[.pointer (some ⟨p, 0, none⟩)] W fun e W' => e = .returned (.int .i64 (C4.length : Int)) ∧ W' = W) := by
            intro W hW
            have := len_any p _ W hW.his
            rw [HX'.out, hsTo_z, ← HC'.out] at this
            exact this
          have HCV : Hid (∀ W : World, W.ownsRow w.heap.size 5 1 (.slice a4 C4.length cap4) C4.length (cellsOf C4) → (convert 28 9 (.slice a4 C4.length cap4)).run Tryd.prog W = .ok (.string L) W) := by
            rw [Hid, hL]; exact fun W h => conv_row h
          have hPd := hP4.drew
          have cvd := HCV.out _ hPd.row
          have gd : w4.drew.cell? ⟨wr.heap.size, 2, none⟩ = some (.bool true) := g2
          clear hL hD hLs
          go_wp2_with fail
          go_region_with (first
            | (go_at_call 20; refine (HP20.out _ hPd).mono ?_; rintro e5 w5 ⟨rfl, B5⟩; have hP5 := hPd.below B5; have cv5 := HCV.out w5 hP5.row; clear B5)
            | (go_at_call 11; refine (HP11.out _).mono ?_; rintro e6 w6 ⟨rfl, B6⟩; have hP6 := hP5.below B6; clear B6)
            | (go_at_call 21; refine (HP21.out _ hP6).mono ?_; rintro e7 w7 ⟨rfl, rfl⟩))
          all_goals
            go_wp2_with fail
            exact ⟨⟨k + 1, p, _, _, by omega, rfl, by go_num, HX'.out, HC'.out, hP6⟩, by simp [intOf]; omega⟩
      | true =>
        rw [hF] at c1
        go_wp2_with fail
        obtain ⟨wf, hwf⟩ : ∃ wf, wr.alloc (.cells #[.string (T k), .bool true, .bool (A k)] 34) = wf := ⟨_, rfl⟩
        have hPf : PI w wf p X (.slice a cur.length cap') cur := by rw [← hwf]; exact hP.alloc _
        have obf : wf.heap[wr.heap.size]? = some (.cells #[.string (T k), .bool true, .bool (A k)] 34 (0, 0)) := by rw [← hwf]; exact block_alloc_at _ _
        have hplt := hP.his.lt
        obtain ⟨nb, hnb⟩ : ∃ nb, wf.heap.size = nb := ⟨_, rfl⟩
        have hnb3 : wr.heap.size < nb := by rw [← hnb, ← hwf]; simp
        rw [hwf]
        clear c0 c1 c2 hP hwf
        refine (fork_any p X wf hPf.his).mono ?_
        rintro e1 w5 ⟨rfl, q5, k5⟩
        rw [hnb] at q5 ⊢
        have B5 : Below wf.heap.size wf w5 := k5.below (Nat.le_refl _) (fun _ f => f.elim)
        have hP5 := hPf.below B5
        have ob5 := (B5.block _ (lt_of_block obf)).trans obf
        have HK5 : Hid (GK w5) := HK.out.below hP5.bel
        have hlowp := hP5.low
        clear k5 hPf obf B5
        go_wp2_with fail
        refine (write_any ⟨#[111, 116, 104, 101, 114]⟩ X p w5 hP5.his (by omega) HK5.out (by have := HXz.out; have := HLn.out; show X.z + 5 ≤ _; omega)).mono ?_
        rintro e2 wq ⟨rfl, q6, k6⟩
        have hap6 := his_apart hP5.his hP5.row
        have hPq : PI w wq nb X (.slice a cur.length cap') cur := ⟨q5.kept k6 (by omega), by omega, row_keeps hP5.row k6 (fun i hi e => hap6 (by rw [hi, e])), hP5.bel.trans (k6.below hP5.bel.size (fun i hi => by rw [hi]; exact hP5.low))⟩
        have obq := (k6.block _ (lt_of_block ob5) (by omega)).trans ob5
        have gq := cell_of_block (o := 0) obq rfl
        clear q5 q6 k6 hap6 hP5 ob5 HK5 hnb
        have HKq : Hid (GK wq) := HK.out.below hPq.bel
        go_wp2_with fail
        refine (write_any (T k) X nb wq hPq.his (by have := hPq.low; omega) HKq.out (by have := HXz.out; have := HT.out; omega)).mono ?_
        rintro e3 w3 ⟨rfl, q3, k3⟩
        have hap := his_apart hPq.his hPq.row
        have r3 := row_keeps hPq.row k3 (fun i hi e => hap (by rw [hi, e]))
        have B3 : Below w.heap.size w w3 := hPq.bel.trans (k3.below hPq.bel.size (fun i hi => by rw [hi]; exact hPq.low))
        have ob3 := (k3.block _ (lt_of_block obq) (by have := hPq.low; omega)).trans obq
        have g0 := cell_of_block (o := 0) ob3 rfl
        have hb3 := B3.size
        clear k3 hap HKq obq
        have hlow := hPq.low
        clear hPq
        go_wp2_with (at_builtin; refine Lib.wpList_append_own_string _ rfl (.tmp 34) (.tmp 36) 28 9 rfl w.heap.size 5 i0 Tryd.underlying28 Tryd.underlying9 hi hz0 hz1 hz2 _ _ _ rfl r3 (T k) rfl ?c3 ?c4 hb3 ?_)
        case c3 => have := HT.out; unfold maxLen; omega
        case c4 => have := HT.out; omega
        intro v4 w4 hown4 hgrow4 _
        have hP4 : PI w w4 nb (absorbAll X (bys (T k))) v4 C4 := ⟨his_grown q3 hgrow4 (his_apart q3 r3), hlow, by
          rw [← HC4.out, cellsOf_append, List.length_append]; exact hown4, B3.grown hgrow4 hb3 (fun i hi => (r3.lt i hi).1)⟩
        have ob4 := (hgrow4.block _ (lt_of_block ob3) (fun e => piece_apart ob3 r3 e.symm)).trans ob3
        have g2 := cell_of_block (o := 2) ob4 rfl
        clear hown4 hgrow4 r3 q3 ob3 g0 B3 hb3
        have hrow4 := hP4.row
        obtain ⟨a4, cap4, rfl⟩ := form_of_row hrow4
        clear hrow4
        cases hA : A k with
        | false =>
          rw [hA] at g2
          go_wp2_with fail
          go_region
          go_wp2_with fail
          exact ⟨⟨k + 1, nb, _, _, by omega, rfl, by go_num, HX'.out, HC'.out, hP4.drew⟩, by simp [intOf]; omega⟩
        | true =>
          rw [hA] at g2
          obtain ⟨L, hL⟩ : ∃ L : ByteArray, L = ⟨C4.toArray⟩ := ⟨_, rfl⟩
          have hLs : L.size = C4.length := by rw [hL, mk_size]
          have hLm : L.size ≤ 1048576 := by have := HT.out; have := HC4l.out; rw [hLs]; omega
          obtain ⟨D, hD⟩ : ∃ D : ByteArray, D = ⟨(sha L).toArray⟩ := ⟨_, rfl⟩
          have HP20 : Hid (∀ W : World, PI w W nb (absorbAll X (bys (T k))) (.slice a4 C4.length cap4) C4 → Calls Tryd.prog 20 #[.pointer (some ⟨nb, 0, none⟩)] W fun e W' => e = .returned (.string D) ∧ Below W.heap.size W W') := by
            intro W hW
            have := hsum_any nb _ W hW.his (HK.out.below hW.bel) (by rw [absorbAll_z, bys_length]; have := HXz.out; have := HT.out; omega)
            rw [HX'.out, hsTo_sum, ← HC'.out, ← hL, ← hD] at this
            exact this
          have HP11 : Hid (∀ W : World, Calls Tryd.prog 11 #[.string L] W fun e W' => e = .returned (.string D) ∧ Below W.heap.size W W') := by
            rw [Hid, hD]; exact fun W => refSum_any L W (by omega)
          have HP21 : Hid (∀ W : World, PI w W nb (absorbAll X (bys (T k))) (.slice a4 C4.length cap4) C4 → Calls Tryd.prog 21 #[.pointer (some ⟨nb, 0, none⟩)] W fun e W' => e = .returned (.int .i64 (C4.length : Int)) ∧ W' = W) := by
            intro W hW
            have := len_any nb _ W hW.his
            rw [HX'.out, hsTo_z, ← HC'.out] at this
            exact this
          have HCV : Hid (∀ W : World, W.ownsRow w.heap.size 5 1 (.slice a4 C4.length cap4) C4.length (cellsOf C4) → (convert 28 9 (.slice a4 C4.length cap4)).run Tryd.prog W = .ok (.string L) W) := by
            rw [Hid, hL]; exact fun W h => conv_row h
          have hPd := hP4.drew
          have cvd := HCV.out _ hPd.row
          have gd : w4.drew.cell? ⟨wr.heap.size, 2, none⟩ = some (.bool true) := g2
          clear hL hD hLs
          go_wp2_with fail
          go_region_with (first
            | (go_at_call 20; refine (HP20.out _ hPd).mono ?_; rintro e5 w5 ⟨rfl, B5⟩; have hP5 := hPd.below B5; have cv5 := HCV.out w5 hP5.row; clear B5)
            | (go_at_call 11; refine (HP11.out _).mono ?_; rintro e6 w6 ⟨rfl, B6⟩; have hP6 := hP5.below B6; clear B6)
            | (go_at_call 21; refine (HP21.out _ hP6).mono ?_; rintro e7 w7 ⟨rfl, rfl⟩))
          all_goals
            go_wp2_with fail
            exact ⟨⟨k + 1, nb, _, _, by omega, rfl, by go_num, HX'.out, HC'.out, hP6⟩, by simp [intOf]; omega⟩
    · obtain rfl : k = len := by omega
      obtain ⟨L, hL⟩ : ∃ L : ByteArray, L = ⟨cur.toArray⟩ := ⟨_, rfl⟩
      have hLs : L.size = cur.length := by rw [hL, mk_size]
      have hLm : L.size ≤ 1048576 := by rw [hLs]; exact HLn.out
      obtain ⟨D, hD⟩ : ∃ D : ByteArray, D = ⟨(sha L).toArray⟩ := ⟨_, rfl⟩
      have HP20 : Hid (∀ W : World, PI w W p X (.slice a cur.length cap') cur → Calls Tryd.prog 20 #[.pointer (some ⟨p, 0, none⟩)] W fun e W' => e = .returned (.string D) ∧ Below W.heap.size W W') := by
        intro W hW
        have := hsum_any p _ W hW.his (HK.out.below hW.bel) (by have := HXz.out; have := HLn.out; omega)
        rw [HX.out, hsTo_sum, ← HC.out, ← hL, ← hD] at this
        exact this
      have HP11 : Hid (∀ W : World, Calls Tryd.prog 11 #[.string L] W fun e W' => e = .returned (.string D) ∧ Below W.heap.size W W') := by
        rw [Hid, hD]; exact fun W => refSum_any L W (by omega)
      have HP10 : Hid (∀ W : World, PI w W p X (.slice a cur.length cap') cur → Calls Tryd.prog 10 #[.string L] W fun e W' => e = .returned (.string D) ∧ Below W.heap.size W W') := by
        rw [Hid, hD]; exact fun W hW => sum_any L W (HK.out.below hW.bel) (by omega)
      have HP21 : Hid (∀ W : World, PI w W p X (.slice a cur.length cap') cur → Calls Tryd.prog 21 #[.pointer (some ⟨p, 0, none⟩)] W fun e W' => e = .returned (.int .i64 (cur.length : Int)) ∧ W' = W) := by
        intro W hW
        have := len_any p _ W hW.his
        rw [HXz.out] at this
        exact this
      have HCV : Hid (∀ W : World, W.ownsRow w.heap.size 5 1 (.slice a cur.length cap') cur.length (cellsOf cur) → (convert 28 9 (.slice a cur.length cap')).run Tryd.prog W = .ok (.string L) W) := by
        rw [Hid, hL]; exact fun W h => conv_row h
      have hPd := hP.drew
      have cvd := HCV.out _ hPd.row
      clear hL hD hLs hP
      go_wp2_with fail
      go_region_with (first
        | (go_at_call 20; first
          | (refine (HP20.out _ hP6).mono ?_; rintro e7 w7 ⟨rfl, B7⟩; have hP7 := hP6.below B7; have cv7 := HCV.out w7 hP7.row; clear B7)
          | (refine (HP20.out _ hPd).mono ?_; rintro e5 w5 ⟨rfl, B5⟩; have hP5 := hPd.below B5; have cv5 := HCV.out w5 hP5.row; clear B5))
        | (go_at_call 10; refine (HP10.out _ hP5).mono ?_; rintro e6 w6 ⟨rfl, B6⟩; have hP6 := hP5.below B6; have cv6 := HCV.out w6 hP6.row; clear B6)
        | (go_at_call 11; refine (HP11.out _).mono ?_; rintro e8 w8 ⟨rfl, B8⟩; have hP8 := hP7.below B8; clear B8)
        | (go_at_call 21; refine (HP21.out _ hP8).mono ?_; rintro e9 w9 ⟨rfl, rfl⟩))
      all_goals
        go_wp2_with fail
        go_ret
        exact ⟨rfl, hP8.bel⟩
end Go.Proofs.YtcpbofjpfapegaaDoor
