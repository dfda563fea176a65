/-
  The walk of TextEncodes: both write any numbers alike, if they are runes; back they are they; the list stays.
-/
import Derived.Test.YtbhlpiilklgnkaaLives
import Derived.Test.YtbhlpiilklgnkaaEnc
namespace Go.Proofs.Ytbhlpiilklgnkaa
open Go.RowKit
/-- Numbers as cells. -/
def icells (l : List Int) : List Value := l.map (Value.int .i32)
theorem icells_one (l : List Int) : ∀ u ∈ icells l, u.oneCell' = true := by
  intro u hu
  simp only [icells, List.mem_map] at hu
  obtain ⟨c, _, rfl⟩ := hu
  rfl
theorem row_ints {W : World} {base : Nat} {a : Option Addr} {cap : Nat} {l : List Int} (h : W.ownsRow base 21 1 (.slice a l.length cap) l.length (icells l)) : RunesAt W a l := by
  intro j z hj
  rcases h.2 with ⟨hv, h0⟩ | ⟨g, cp, cur, hv, hg, hr⟩
  · rw [List.eq_nil_of_length_eq_zero h0] at hj
    simp at hj
  · simp only [Value.slice.injEq] at hv
    obtain ⟨rfl, _, rfl⟩ := hv
    have := h.cells rfl j (.int .i32 z) (by simp [icells, hj])
    rw [add_off] at this
    exact ⟨g, 0, rfl, (h.lt g rfl).2, this⟩
theorem encode_both (z : Int) (h0 : -2147483648 ≤ z) (h1 : z ≤ 2147483647) : ∃ (t : ByteArray) (e : Int), (∀ w : World, Calls Try.prog 20 #[.int .i32 z] w fun r w' => r = .returned (.tuple #[.string t, .int .i64 e]) ∧ Below w.heap.size w w') ∧ (∀ w : World, Calls Try.prog 21 #[.int .i32 z] w fun r w' => r = .returned (.tuple #[.string t, .int .i64 e]) ∧ Below w.heap.size w w') := by
  cases h : isRn z with
  | true => exact ⟨_, _, fun w => (encode_ok z h w).mono fun e w' ⟨a, b⟩ => ⟨a, by rw [b]; exact Below.refl _ _⟩, fun w => rencode_ok z h w⟩
  | false => exact ⟨_, _, fun w => (encode_bad z h w).mono fun e w' ⟨a, b⟩ => ⟨a, by rw [b]; exact Below.refl _ _⟩, fun w => (rencode_bad z h0 h1 h w).mono fun e w' ⟨a, b⟩ => ⟨a, by rw [b]; exact Below.refl _ _⟩⟩
theorem textV_cases (l : List Int) : (l.all isRn = true ∧ textV l = #[.string (runesBytes l), .int .i64 0]) ∨ textV l = #[.string ⟨#[]⟩, .int .i64 150] := by
  by_cases h : l.all isRn = true
  · exact Or.inl ⟨h, by rw [textV, if_pos h]⟩
  · exact Or.inr (by rw [textV, if_neg h])
set_option maxRecDepth 20000 in
set_option maxHeartbeats 8000000 in
theorem encodes_walk (a : Option Addr) (cap : Nat) (l : List Int) (z : Int) (w : World) (h : RunesAt w a l) (hc0 : a = none → cap = 0) (hl : l.length ≤ 1048576) (hz : ∀ z ∈ l, -2147483648 ≤ z ∧ z ≤ 2147483647) (z0 : -2147483648 ≤ z) (z1 : z ≤ 2147483647) :
    Calls Try.prog 4 #[.slice a l.length cap, .int .i32 z] w fun e w' => e = .returned (.bool true) ∧ Below w.heap.size w w' := by
  obtain ⟨i0, hi, hz0, hz1, hz2⟩ := info_parts info21
  obtain ⟨u, g, G1, G2⟩ := encode_both z z0 z1
  have H3 : Hid (∀ W : World, _) := G1
  have H4 : Hid (∀ W : World, _) := G2
  have H5 : Hid (∀ W : World, _) := fun W => lives_any W
  have H1 : Hid (∀ (W : World) (b : Option Addr) (c : Nat), RunesAt W b l → Calls Try.prog 18 #[.slice b l.length c] W fun e w' => e = .returned (.tuple (textV l)) ∧ w' = W) := fun W b c hr => text_any b c l W hr (by omega)
  have H2 : Hid (∀ (W : World), RunesAt W a l → Calls Try.prog 19 #[.slice a l.length cap] W fun e w' => e = .returned (.tuple (textV l)) ∧ Below W.heap.size W w') := fun W hr => rtext_any a cap l W hr hl hz
  have H6 : Hid (∀ (W : World) (b c : Option Addr) (cb cc : Nat), RunesAt W b l → RunesAt W c l → Calls Try.prog 11 #[.slice b l.length cb, .slice c l.length cc] W fun e w' => e = .returned (.bool true) ∧ Below W.heap.size W w') := fun W b c cb cc hb hc => sameRunes_eq b c cb cc l W hb hc (by omega)
  have H7 : Hid (l.all isRn = true → ∀ W : World, Calls Try.prog 12 #[.string (runesBytes l)] W fun e w' => ∃ b c, e = .returned (.slice b l.length c) ∧ RunesAt w' b l ∧ Below W.heap.size W w') := fun ha W => by
    have hsz := runesBytes_size_le l
    refine (runes_any (runesBytes l) W (by omega)).mono ?_
    rintro e w' ⟨b, c, rfl, ho, hb⟩
    have hr := row_runes ho
    have hbk := text_back l ha
    rw [hbk] at hr
    have hlen : (runesOf (runesBytes l)).length = l.length := by
      have := congrArg List.length hbk
      rw [List.length_map] at this
      exact this
    rw [hlen]
    exact ⟨b, c, rfl, hr, hb⟩
  have HA0 : Hid _ := h
  have hrow : (w.alloc (.cells #[] 21)).ownsRow w.heap.size 21 1 (.slice (some ⟨w.heap.size, 0, none⟩) 0 0) 0 [] := World.ownsRow_made w #[] 0 (Nat.le_refl _) (by decide) rfl
  have hbel : Below w.heap.size w (w.alloc (.cells #[] 21)) := (Below.refl _ w).alloc (Nat.le_refl _) _
  have hcut : ∀ (v : Value) (W1 : World), W1.ownsRow w.heap.size 21 1 v l.length (icells l) → Below w.heap.size w W1 → ∃ a1 c1, v = .slice a1 l.length c1 ∧ RunesAt W1 a1 l ∧ RunesAt W1 a l := fun v W1 ho hb => by
    obtain ⟨a1, c1, rfl⟩ := form_of_row ho
    exact ⟨a1, c1, rfl, row_ints ho, RunesAt.below HA0.out hb⟩
  have HCUT : Hid _ := hcut
  clear G1 G2 hcut hz
  go_enter Try.func4, Try.ntmps4
  cases a with
  | none =>
    obtain rfl : l = [] := by
      cases l with
      | nil => rfl
      | cons x r => obtain ⟨_, _, e, _⟩ := HA0.out 0 x rfl; cases e
    obtain rfl := hc0 rfl
    clear h HA0 hc0
    go_wp2_with (at_builtin; refine wpList_append_own_none rfl (.tmp 14) (.tmp 15) 26 rfl w.heap.size 21 i0 1 Try.underlying26 hi _ 0 [] rfl hrow rfl ?_)
    go_wp2_with fail
    have q1 : RunesAt (w.alloc (.cells #[] 21)) (some ⟨w.heap.size, 0, none⟩) [] := fun j x hj => by simp at hj
    have q2 : ∀ W : World, RunesAt W none [] := fun W j x hj => by simp at hj
    have q3 : ∀ (W : World) (b : Option Addr), RunesAt W b [] := fun W b j x hj => by simp at hj
    have htv : textV [] = #[.string ⟨#[]⟩, .int .i64 0] := rfl
    rw [htv] at H1 H2
    have H7' : Hid (∀ W : World, _) := H7.out rfl
    rw [show runesBytes [] = (⟨#[]⟩ : ByteArray) from rfl] at H7'
    have Q3 : Hid _ := q3
    clear q1 q2 q3 H7 htv hrow
    refine (H1.out _ _ _ (Q3.out _ _)).mono ?_
    rintro _ w1 ⟨rfl, rfl⟩
    go_wp2_with fail
    refine (H2.out _ (Q3.out _ _)).mono ?_
    rintro _ w2 ⟨rfl, b2⟩
    have B2 := hbel.trans (b2.mono (by simp))
    clear hbel b2
    go_wp2_with fail
    refine (H3.out _).mono ?_
    rintro _ w3 ⟨rfl, b3⟩
    have B3 := B2.trans (b3.mono B2.size)
    clear B2 b3
    go_wp2_with fail
    refine (H4.out _).mono ?_
    rintro _ w4 ⟨rfl, b4⟩
    have B4 := B3.trans (b4.mono B3.size)
    clear B3 b4
    go_wp2_with fail
    refine (H5.out _).mono ?_
    rintro _ w5 ⟨rfl, b5⟩
    have B5 := B4.trans (b5.mono B4.size)
    clear B4 b5
    go_wp2_with fail
    refine (H6.out _ _ _ _ _ (Q3.out _ _) (Q3.out _ _)).mono ?_
    rintro _ w6 ⟨rfl, b6⟩
    have B6 := B5.trans (b6.mono B5.size)
    clear B5 b6
    go_wp2_with fail
    refine (H7'.out _).mono ?_
    rintro _ w7 ⟨b, c, rfl, _, b7⟩
    have B7 := B6.trans (b7.mono B6.size)
    clear B6 b7
    go_wp2_with fail
    refine (H6.out _ _ _ _ _ (Q3.out _ _) (Q3.out _ _)).mono ?_
    rintro _ w8 ⟨rfl, b8⟩
    have B8 := B7.trans (b8.mono B7.size)
    go_wp2_with fail
    go_ret
    exact ⟨rfl, B8⟩
  | some ad =>
    have hnews : ∀ j x, (icells l)[j]? = some x → (w.alloc (.cells #[] 21)).cell? (ad.add j) = some x := fun j x hj => by
      simp only [icells, List.getElem?_map] at hj
      cases hq : l[j]? with
      | none => rw [hq] at hj; cases hj
      | some y =>
        rw [hq] at hj
        simp only [Option.map_some, Option.some.injEq] at hj
        subst hj
        obtain ⟨b, off, e, hlt, hcell⟩ := HA0.out j y hq
        cases e
        rw [add_off]
        exact (hbel.cell (p := ⟨b, off + j, none⟩) hlt).trans hcell
    have HNW : Hid _ := hnews
    clear h hc0 hnews
    go_wp2_with (at_builtin; refine wpList_append_own _ rfl (.tmp 14) (.tmp 15) 26 rfl w.heap.size 21 i0 (.int .i32 0) 1 4 Try.underlying26 hi hz0 hz1 hz2 rfl (by decide) _ 0 [] rfl hrow ad l.length cap (icells l) rfl (by simp [icells]) HNW.out (icells_one l) (by unfold maxLen; omega) (by omega) (by simp) ?_)
    intro v1 w1 hown1 hgrow _
    have B1 := hbel.grown hgrow (by simp) (fun i hi => (hrow.lt i hi).1)
    obtain ⟨a1, c1, rfl, R1, RA⟩ := HCUT.out _ _ hown1 B1
    clear hown1 hgrow hrow hbel HCUT HNW
    go_wp2_with fail
    refine (H1.out _ _ _ R1).mono ?_
    rcases textV_cases l with ⟨hall, htv⟩ | htv
    all_goals rw [htv] at H2 ⊢
    case' inl => have H7' : Hid (∀ W : World, _) := H7.out hall
    case' inl => clear hall
    all_goals
      clear htv H7
      rintro _ w2 ⟨rfl, rfl⟩
      go_wp2_with fail
      refine (H2.out _ RA).mono ?_
      rintro _ w2 ⟨rfl, b2⟩
      have B2 := B1.trans (b2.mono B1.size)
      have R1' := R1.below b2
      have RA' := RA.below b2
      clear B1 b2 R1 RA
      go_wp2_with fail
      refine (H3.out _).mono ?_
      rintro _ w3 ⟨rfl, b3⟩
      have B3 := B2.trans (b3.mono B2.size)
      have R1 := R1'.below b3
      have RA := RA'.below b3
      clear B2 b3 R1' RA'
      go_wp2_with fail
      refine (H4.out _).mono ?_
      rintro _ w4 ⟨rfl, b4⟩
      have B4 := B3.trans (b4.mono B3.size)
      have R1' := R1.below b4
      have RA' := RA.below b4
      clear B3 b4 R1 RA
      go_wp2_with fail
      refine (H5.out _).mono ?_
      rintro _ w5 ⟨rfl, b5⟩
      have B5 := B4.trans (b5.mono B4.size)
      have R1 := R1'.below b5
      have RA := RA'.below b5
      clear B4 b5 R1' RA'
      go_wp2_with fail
      refine (H6.out _ _ _ _ _ R1 RA).mono ?_
      rintro _ w6 ⟨rfl, b6⟩
      have B6 := B5.trans (b6.mono B5.size)
      have RA' := RA.below b6
      clear B5 b6 R1 RA
      go_wp2_with fail
    · refine (H7'.out _).mono ?_
      rintro _ w7 ⟨b, c, rfl, r7, b7⟩
      have B7 := B6.trans (b7.mono B6.size)
      have RA := RA'.below b7
      clear B6 b7 RA'
      go_wp2_with fail
      refine (H6.out _ _ _ _ _ r7 RA).mono ?_
      rintro _ w8 ⟨rfl, b8⟩
      have B8 := B7.trans (b8.mono B7.size)
      go_wp2_with fail
      go_ret
      exact ⟨rfl, B8⟩
    · go_ret
      exact ⟨rfl, B6⟩
end Go.Proofs.Ytbhlpiilklgnkaa
