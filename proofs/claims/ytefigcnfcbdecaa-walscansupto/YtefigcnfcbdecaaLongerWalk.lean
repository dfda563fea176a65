/-
  The walk of WalLonger: what bytes hold, more bytes hold too.
-/
import Derived.Test.YtefigcnfcbdecaaCopies
import Derived.Test.YtefigcnfcbdecaaMore
namespace Go.Proofs.Ytefigcnfcbdecaa
open Go.RowKit
theorem textsOf_take {rs : List Rec} {n : Nat} : (textsOf rs).take n = textsOf (rs.take n) := by simp [textsOf, List.map_take]
theorem strs_prefix {w : World} {a : Option Addr} {ks ls : List ByteArray} (h : StrsAt w a ls) (hp : ks <+: ls) : StrsAt w a ks := by
  obtain ⟨z, rfl⟩ := hp
  intro j s hj
  exact h j s (by rw [List.getElem?_append_left (List.getElem?_eq_some_iff.1 hj).1]; exact hj)
set_option maxRecDepth 100000 in
set_option maxHeartbeats 8000000 in
theorem longer_walk (a b : Option Addr) (ca cb : Nat) (es bs : List UInt8) (w : World) (ha : BytesAt w a es) (hb : BytesAt w b bs) (hla : es.length ≤ 1048576) (hlb : bs.length ≤ 1048576)
    (hca : es.length ≤ ca) (hc0 : a = none → ca = 0) (hsp : ∀ ad, a = some ad → ad.spot = none ∨ ca = 0) (hcb0 : b = none → cb = 0) :
    Calls Try.prog 6 #[.slice a es.length ca, .slice b bs.length cb] w fun r w' => r = .returned (.bool true) ∧ Below w.heap.size w w' := by
  obtain ⟨n, hn⟩ : ∃ n, es.length = n := ⟨_, rfl⟩
  obtain ⟨m, hm⟩ : ∃ m, bs.length = m := ⟨_, rfl⟩
  have HS1 : Hid (∀ W : World, Below w.heap.size w W → Calls Try.prog 17 #[.slice a n ca] W fun r w' => ∃ v, r = .returned (.tuple #[v, .int .i64 (endOf (scanL es).1 : Nat), .int .i64 ((scanL es).2 : Nat)]) ∧ w'.ownsRow W.heap.size 9 1 v (scanL es).1.length ((scanL es).1.map textV) ∧ Below W.heap.size W w') := fun W hB => by
    have := scan_any a ca es W (ha.below (Nat.le_refl _) hB) (by omega) hca hc0 hsp
    rw [hn] at this
    exact this
  have HS2 : Hid (∀ (W : World) (base : Nat) (c : Nat) (d : Option Addr), W.ownsRow base 5 1 (.slice d (n + m) c) (n + m) (bl (es ++ bs)) → Calls Try.prog 17 #[.slice d ((n + m : Nat)) c] W fun r w' => ∃ v, r = .returned (.tuple #[v, .int .i64 (endOf (scanL (es ++ bs)).1 : Nat), .int .i64 ((scanL (es ++ bs)).2 : Nat)]) ∧ w'.ownsRow W.heap.size 9 1 v (scanL (es ++ bs)).1.length ((scanL (es ++ bs)).1.map textV) ∧ Below W.heap.size W w') := fun W base c d ho => by
    have hl : (es ++ bs).length = n + m := by rw [List.length_append, hn, hm]
    obtain ⟨m1, m2, m3⟩ := owns_meta ho
    have := scan_any d c (es ++ bs) W (bytes_of_owns ho hl) (by omega) (by omega) m2 m3
    rw [hl] at this
    exact this
  have HA : Hid (∀ W : World, Below w.heap.size w W → BytesAt W a es) := fun W k => ha.below (Nat.le_refl _) k
  have HB : Hid (∀ W : World, Below w.heap.size w W → BytesAt W b bs) := fun W k => hb.below (Nat.le_refl _) k
  have HN : Hid _ := hn
  have HM : Hid _ := hm
  have HC0 : Hid _ := hc0
  have HCB : Hid _ := hcb0
  have HPF : Hid _ := scan_more es bs
  have hl1 : (scanL es).1.length ≤ 1048576 := Nat.le_trans (scan_len es) hla
  have hl2 : (scanL (es ++ bs)).1.length ≤ 2097152 := Nat.le_trans (scan_len _) (by rw [List.length_append]; omega)
  have hll : (scanL es).1.length ≤ (scanL (es ++ bs)).1.length := (scan_more es bs).length_le
  have hna : n ≤ 1048576 := by omega
  have hmb : m ≤ 1048576 := by omega
  rw [hn, hm]
  clear ha hb hn hm hla hlb hca hc0 hsp hcb0
  obtain ⟨R1, hR1⟩ : ∃ R, (scanL es).1 = R := ⟨_, rfl⟩
  obtain ⟨R2, hR2⟩ : ∃ R, (scanL (es ++ bs)).1 = R := ⟨_, rfl⟩
  rw [hR1, hR2] at HPF hll
  rw [hR1] at HS1 hl1
  rw [hR2] at HS2 hl2
  generalize (scanL es).2 = y1 at *
  generalize (scanL (es ++ bs)).2 = y2 at *
  obtain ⟨e1, he1⟩ : ∃ e, endOf R1 = e := ⟨_, rfl⟩
  obtain ⟨e2, he2⟩ : ∃ e, endOf R2 = e := ⟨_, rfl⟩
  rw [he1] at HS1
  rw [he2] at HS2
  obtain ⟨n1, hn1⟩ : ∃ k, R1.length = k := ⟨_, rfl⟩
  obtain ⟨n2, hn2⟩ : ∃ k, R2.length = k := ⟨_, rfl⟩
  rw [hn1] at HS1 hl1 hll
  rw [hn2] at HS2 hl2 hll
  have HN1 : Hid _ := hn1
  have HN2 : Hid _ := hn2
  clear hR1 hR2 he1 he2 hn1 hn2
  go_enter Try.func6, Try.ntmps6
  go_wp2_with fail
  refine (lives_any _).mono ?_
  rintro e w1 ⟨rfl, B1⟩
  go_wp2_with fail
  refine (HS1.out _ B1).mono ?_
  rintro e w2 ⟨v, rfl, o2, b2⟩
  obtain ⟨ra, rc, rfl⟩ := form9 o2
  have B2 : Hid (Below w.heap.size w w2) := B1.trans (b2.mono B1.size)
  have hc1 : n1 ≤ rc := by
    rcases o2.2 with ⟨hv, h0⟩ | ⟨g, cap, cur, hv, _, _, h1, _⟩
    · omega
    · simp only [Value.slice.injEq, true_and] at hv
      obtain ⟨rfl, rfl⟩ := hv
      exact h1
  have p1 : Hid (StrsAt w2 ra (textsOf R1)) := strs_of_owns o2 HN1.out
  clear b2 o2 B1
  go_wp2_with (at_builtin; refine wpList_copy5 rfl (.tmp 20) (.tmp 21) rfl w2 es a n ca rfl rfl HN.out (HA.out _ B2.out) HC0.out (by omega) ?_)
  intro g1 cap1 w3 hcap1 O3
  have B3 : Hid (Below w.heap.size w w3) := B2.out.trans (O3.bel.mono B2.out.size)
  have b23 : Hid (Below w2.heap.size w2 w3) := O3.bel
  have o3 : Hid _ := O3.row
  clear O3
  go_wp2_with (at_builtin; refine wpList_onto5 rfl (.tmp 22) (.tmp 23) rfl w2.heap.size _ n (bl es) rfl o3.out bs b m cb rfl HM.out (HB.out _ B3.out) HCB.out (by omega) b23.out.size ?_)
  intro v4 w4 o4 b34
  obtain ⟨a4, c4, rfl⟩ := form_of_row o4
  have B4 : Hid (Below w.heap.size w w4) := B3.out.trans (b34.mono B2.out.size)
  have b24 : Hid (Below w2.heap.size w2 w4) := b23.out.trans b34
  rw [show bl es ++ bl bs = bl (es ++ bs) by simp [bl]] at o4
  have H4 := HS2.out w4 _ c4 a4 o4
  clear o4 b34 B3 b23 o3
  go_wp2_with fail
  refine H4.mono ?_
  rintro e w5 ⟨v5, rfl, o5, b5⟩
  obtain ⟨rb, rd, rfl⟩ := form9 o5
  have B5 : Hid (Below w.heap.size w w5) := B4.out.trans (b5.mono B4.out.size)
  have hc2 : n2 ≤ rd := by
    rcases o5.2 with ⟨hv, h0⟩ | ⟨g, cap, cur, hv, _, _, h1, _⟩
    · omega
    · simp only [Value.slice.injEq, true_and] at hv
      obtain ⟨rfl, rfl⟩ := hv
      exact h1
  have p2 : Hid (StrsAt w5 rb (textsOf R1)) := strs_prefix (strs_of_owns o5 HN2.out) (by obtain ⟨z, hz⟩ := HPF.out; exact ⟨textsOf z, by simp [textsOf, ← hz]⟩)
  have p1' : Hid (StrsAt w5 ra (textsOf R1)) := fun j s hj => by
    obtain ⟨bb, off, e, hlt, hc⟩ := p1.out j s hj
    exact ⟨bb, off, e, Nat.lt_of_lt_of_le hlt (b24.out.trans (b5.mono b24.out.size)).size, ((b24.out.trans (b5.mono b24.out.size)).cell (p := ⟨bb, off + j, none⟩) hlt).trans hc⟩
  have HST : Hid (∀ c1 c2, Calls Try.prog 19 #[.slice ra n1 c1, .slice rb n1 c2] w5 fun r w' => r = .returned (.bool true) ∧ Below w5.heap.size w5 w') := fun c1 c2 => by
    have := sameTexts_eq ra rb c1 c2 (textsOf R1) w5 p1'.out p2.out (by simp only [textsOf, List.length_map, HN1.out]; omega)
    rw [show (textsOf R1).length = n1 by simp [textsOf, HN1.out]] at this
    exact this
  clear o5 b5 p1 p2 p1' H4 HS1 HS2
  go_wp2_with fail
  refine (HST.out _ _).mono ?_
  rintro e w6 ⟨rfl, b6⟩
  go_wp2_with fail
  go_ret
  exact ⟨rfl, B5.out.trans (b6.mono B5.out.size)⟩
end Go.Proofs.Ytefigcnfcbdecaa
