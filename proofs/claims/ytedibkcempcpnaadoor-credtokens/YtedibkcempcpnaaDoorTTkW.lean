/-
  The walk of CredTokens.
-/
import Derived.Test.YtedibkcempcpnaaDoorTLiv
namespace Go.Proofs.YtedibkcempcpnaaDoor.T
open Go.RowKit
set_option maxRecDepth 20000 in
set_option maxHeartbeats 8000000 in
theorem tokens_walk (n d m o : Nat) (s : ByteArray) (hn : n < 18446744073709551616) (hd : d < 18446744073709551616) (hm : m < 18446744073709551616) (ho : o < 18446744073709551616) (hs : s.size ≤ 140737488351232) (w : World) (x : Int) (hx : w.cell? ⟨1, 0, none⟩ = some (.int .i64 x)) (hK : GK w) :
    Calls Tryd.prog 6 #[.int .u64 n, .int .u64 d, .int .u64 m, .int .u64 o, .string s] w fun e w' => e = .returned (.bool true) ∧ Below w.heap.size w w' := by
  have H1 : Hid (∀ W : World, _) := fun W => token_any n d hn hd W
  have H2 : Hid (∀ W : World, _) := fun W => ptoken_any (tokT n d) (by rw [tokT_size]; decide) W
  rw [parT_tok hn hd] at H2
  have H3 : Hid (∀ W : World, _) := fun W => ptoken_any s hs W
  have H4 : Hid (∀ W : World, _) := fun W => qptoken_any s hs W
  have H5 : Hid (∀ W, Below w.heap.size w W → _) := fun W b => lives_any x W (mx_below hx b) (hK.below b)
  have H6 : Hid (∀ W : World, _) := fun W => qtoken_any n d hn hd W
  have H7 : Hid (∀ W : World, _) := fun W => token_any (parT s).1 (parT s).2.1 (parT_lt s).1 (parT_lt s).2 W
  have H8 : Hid (∀ W : World, _) := fun W => token_any m o hm ho W
  have HJ : Hid (_ ↔ _) := tok_inj hn hd hm ho
  have HP : Hid ((parT s).2.2 = 0 → _) := tok_parT (s := s)
  obtain ⟨T, hT⟩ : ∃ T, tokT n d = T := ⟨_, rfl⟩
  rw [hT] at H1 H2 H6 HJ
  obtain ⟨U, hU⟩ : ∃ U, tokT m o = U := ⟨_, rfl⟩
  rw [hU] at H8 HJ
  obtain ⟨R, hR⟩ : ∃ R, parT s = R := ⟨_, rfl⟩
  rw [hR] at H3 H4 H7 HP
  obtain ⟨r1, r2, r3⟩ := R
  simp only at H2 H3 H4 H7 HP
  obtain ⟨V, hV⟩ : ∃ V, tokT r1 r2 = V := ⟨_, rfl⟩
  rw [hV] at H7 HP
  have e0 : (T.toList != T.toList) = false := by simp
  have e1 : ((n : Int) != (n : Int)) = false := by simp
  have e2 : ((d : Int) != (d : Int)) = false := by simp
  have e3 : ((r1 : Int) != (r1 : Int)) = false := by simp
  have e4 : ((r2 : Int) != (r2 : Int)) = false := by simp
  have e5 : (r3 != r3) = false := by simp
  have HE : Hid ((U.toList == T.toList) = (((m : Int) == (n : Int)) && ((o : Int) == (d : Int)))) := by
    rw [Hid]
    by_cases q : m = n ∧ o = d
    · obtain rfl := HJ.out.2 q
      obtain ⟨rfl, rfl⟩ := q
      simp
    · have q1 : U ≠ T := fun e => q (HJ.out.1 e)
      rw [toList_ne q1]
      by_cases q2 : m = n
      · have q3 : o ≠ d := fun e => q ⟨q2, e⟩
        have : ((o : Int) == (d : Int)) = false := by simp; omega
        rw [this, Bool.and_false]
      · have : ((m : Int) == (n : Int)) = false := by simp; omega
        rw [this, Bool.false_and]
  clear hT hU hR hV hx hK hs
  go_enter Tryd.func6, Tryd.ntmps6
  go_wp2_with fail
  refine (H1.out _).mono ?_
  rintro e w1 ⟨rfl, b1⟩
  have HB1 : Hid (Below w.heap.size w w1) := b1
  clear b1
  go_wp2_with fail
  refine (H2.out _).mono ?_
  rintro e w2 ⟨rfl, b2⟩
  have HB2 : Hid (Below w.heap.size w w2) := HB1.out.trans (b2.mono HB1.out.size)
  clear b2
  go_wp2_with fail
  refine (H3.out _).mono ?_
  rintro e w3 ⟨rfl, b3⟩
  have HB3 : Hid (Below w.heap.size w w3) := HB2.out.trans (b3.mono HB2.out.size)
  clear b3
  go_wp2_with fail
  refine (H4.out _).mono ?_
  rintro e w4 ⟨rfl, b4⟩
  have HB4 : Hid (Below w.heap.size w w4) := HB3.out.trans (b4.mono HB3.out.size)
  clear b4
  go_wp2_with fail
  refine (H5.out _ HB4.out).mono ?_
  rintro e w5 ⟨rfl, b5⟩
  have HB5 : Hid (Below w.heap.size w w5) := HB4.out.trans (b5.mono HB4.out.size)
  clear b5
  go_wp2_with fail
  refine (H6.out _).mono ?_
  rintro e w6 ⟨rfl, b6⟩
  have HB6 : Hid (Below w.heap.size w w6) := HB5.out.trans (b6.mono HB5.out.size)
  clear b6
  have HTAIL : Hid (∀ w7, Below w.heap.size w w7 → ∀ (q : Bool) (Z : Prop), True) := fun _ _ _ _ => trivial
  cases hr : (r3 == 0) with
  | false =>
    go_wp2_with fail
    refine (H8.out _).mono ?_
    rintro e w8 ⟨rfl, b8⟩
    have HB8 : Hid (Below w.heap.size w w8) := HB6.out.trans (b8.mono HB6.out.size)
    clear b8
    have hE := HE.out
    cases h1 : ((m : Int) == (n : Int)) <;> cases h2 : ((o : Int) == (d : Int)) <;> rw [h1, h2] at hE <;> simp only [Bool.and_self, Bool.and_true, Bool.and_false] at hE <;> (go_wp2_with fail; go_ret; exact ⟨rfl, HB8.out⟩)
  | true =>
    have h0 : r3 = 0 := by simpa using hr
    obtain rfl : V = s := HP.out h0
    have e6 : (V.toList != V.toList) = false := by simp
    go_wp2_with fail
    refine (H7.out _).mono ?_
    rintro e w7 ⟨rfl, b7⟩
    have HB7 : Hid (Below w.heap.size w w7) := HB6.out.trans (b7.mono HB6.out.size)
    clear b7
    go_wp2_with fail
    refine (H8.out _).mono ?_
    rintro e w8 ⟨rfl, b8⟩
    have HB8 : Hid (Below w.heap.size w w8) := HB7.out.trans (b8.mono HB7.out.size)
    clear b8
    have hE := HE.out
    cases h1 : ((m : Int) == (n : Int)) <;> cases h2 : ((o : Int) == (d : Int)) <;> rw [h1, h2] at hE <;> simp only [Bool.and_self, Bool.and_true, Bool.and_false] at hE <;> (go_wp2_with fail; go_ret; exact ⟨rfl, HB8.out⟩)
end Go.Proofs.YtedibkcempcpnaaDoor.T
