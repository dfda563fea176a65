/-
  The heap's own Push, Pop and Fix, over the methods of heads.
-/
import Derived.Test.YtohamjoiohfoiaaHdown
import Derived.Test.YtohamjoiohfoiaaHpush
namespace Go.Proofs.Ytohamjoiohfoiaa
open Go.RowKit
theorem downL_length : ∀ (m : Nat) (hs : List Hd) (i n : Nat), n - i ≤ m → (downL hs i n).1.length = hs.length
  | 0, hs, i, n, h => by rw [downL_end (by omega)]
  | m + 1, hs, i, n, h => by
    by_cases h1 : 2 * i + 1 < n
    · cases e : lessAt hs (kid hs i n) i with
      | true =>
        have := kid_gt hs i n
        rw [downL_go h1 e, downL_length m _ _ _ (by omega), swapAt_length]
      | false => rw [downL_stay h1 e]
    · rw [downL_end h1]
theorem downL_len (hs : List Hd) (i n : Nat) : (downL hs i n).1.length = hs.length := downL_length (n - i) hs i n (Nat.le_refl _)
/-- The heads behind heap.Pop. -/
def popL (hs : List Hd) : List Hd := (downL (swapAt hs 0 (hs.length - 1)) 0 (hs.length - 1)).1.dropLast
set_option maxRecDepth 100000 in
set_option maxHeartbeats 2000000 in
theorem push44_any (z p : Nat) (hs : List Hd) (x : Hd) (W : World) (h : HAt z W p hs) (hl : hs.length < 900000) (hx : CA z W (some ⟨x.b, x.off, none⟩) x.cs ∧ x.cs.length ≤ x.cap) (hne : ∀ h ∈ hs ++ [x], 0 < h.cs.length) :
    Calls Try.prog 44 #[.iface 61 (.pointer (some ⟨p, 0, none⟩)), .iface 72 (.agg #[.slice (some ⟨x.b, x.off, none⟩) x.cs.length x.cap, .int .i64 (x.nth : Nat)])] W fun r W' => (∃ v, r = .returned v) ∧ HAt z W' p (upL (hs ++ [x]) hs.length) ∧ Kh z p W W' := by
  have i1 := invPush p
  have i2 := invLen p
  have H1 : Hid _ := hpush_any z p hs x W h (by omega) hx
  have H2 : Hid (∀ V, HAt z V p (hs ++ [x]) → Calls Try.prog 36 #[.pointer (some ⟨p, 0, none⟩)] V fun r W' => r = .returned (.int .i64 ((hs.length : Int) + 1)) ∧ W' = V) := fun V hV => by
    have := len_any z p _ V hV
    rw [List.length_append] at this
    exact this
  have H3 : Hid (∀ V, HAt z V p (hs ++ [x]) → Calls Try.prog 47 #[.iface 61 (.pointer (some ⟨p, 0, none⟩)), .int .i64 (hs.length : Nat)] V fun r W' => (∃ v, r = .returned v) ∧ HAt z W' p (upL (hs ++ [x]) hs.length) ∧ Kh z p V W') := fun V hV => up_any z p hs.length (hs ++ [x]) V hV (by simp) (by simp; omega) hne
  obtain ⟨n, hn⟩ : ∃ n, hs.length = n := ⟨_, rfl⟩
  have hn9 : n < 900000 := by omega
  rw [hn] at H2 H3 ⊢
  have he : (n : Int) + 1 - 1 = (n : Int) := by omega
  clear h hx hne hn hl
  go_enter Try.func44, Try.ntmps44
  go_wp2_with fail
  refine Calls.mono H1.out ?_
  rintro e w1 ⟨⟨v, rfl⟩, h1, k1⟩
  have HH1 : Hid _ := h1
  have HK1 : Hid _ := k1
  clear h1 k1
  go_wp2_with fail
  refine Calls.mono (H2.out _ HH1.out) ?_
  rintro e w2 ⟨rfl, rfl⟩
  go_wp2_with fail
  refine Calls.mono (H3.out _ HH1.out) ?_
  rintro e w3 ⟨⟨v3, rfl⟩, h3, k3⟩
  have HH3 : Hid _ := h3
  have HK3 : Hid _ := k3
  clear h3 k3
  go_wp2_with fail
  go_end0
  exact ⟨⟨_, rfl⟩, HH3.out, HK1.out.trans HK3.out⟩
set_option maxRecDepth 100000 in
set_option maxHeartbeats 2000000 in
theorem pop45_any (z p : Nat) (hs : List Hd) (W : World) (h : HAt z W p hs) (h0 : 0 < hs.length) (hl : hs.length < 900000) (hne : NE (swapAt hs 0 (hs.length - 1)) (hs.length - 1)) :
    Calls Try.prog 45 #[.iface 61 (.pointer (some ⟨p, 0, none⟩))] W fun r W' => (∃ v, r = .returned v) ∧ HAt z W' p (popL hs) ∧ Kh z p W W' := by
  have i1 := invLen p
  have i2 := invSwap p
  have i3 := invPop p
  obtain ⟨n, hn⟩ : ∃ n, hs.length = n + 1 := ⟨hs.length - 1, by omega⟩
  have hn9 : n < 900000 := by omega
  have he : (n : Int) + 1 - 1 = (n : Int) := by omega
  have H1 : Hid (Calls Try.prog 36 #[.pointer (some ⟨p, 0, none⟩)] W fun r W' => r = .returned (.int .i64 ((n : Int) + 1)) ∧ W' = W) := by
    have := len_any z p _ W h
    rw [hn] at this
    exact this
  have H2 : Hid (Calls Try.prog 68 #[.pointer (some ⟨p, 0, none⟩), .int .i64 0, .int .i64 (n : Nat)] W fun r W' => (∃ v, r = .returned v) ∧ HAt z W' p (swapAt hs 0 n) ∧ Kh z p W W') := swapAt_any z p 0 n hs W h h0 (by omega)
  rw [hn, Nat.add_sub_cancel] at hne
  have hp : popL hs = (downL (swapAt hs 0 n) 0 n).1.dropLast := by rw [popL, hn, Nat.add_sub_cancel]
  have H3 : Hid (∀ V, HAt z V p (swapAt hs 0 n) → Calls Try.prog 48 #[.iface 61 (.pointer (some ⟨p, 0, none⟩)), .int .i64 0, .int .i64 (n : Nat)] V fun r W' => r = .returned (.bool (decide (0 < (downL (swapAt hs 0 n) 0 n).2))) ∧ HAt z W' p (downL (swapAt hs 0 n) 0 n).1 ∧ Kh z p V W') := fun V hV => down_any z p 0 n (swapAt hs 0 n) V hV (by decide) (by rw [swapAt_length]; omega) (by rw [swapAt_length]; omega) hne
  have hdl : (downL (swapAt hs 0 n) 0 n).1.length = n + 1 := by rw [downL_len, swapAt_length, hn]
  rw [hp]
  obtain ⟨D, hD⟩ : ∃ D, downL (swapAt hs 0 n) 0 n = D := ⟨_, rfl⟩
  rw [hD] at H3 hdl ⊢
  have H4 : Hid (∀ V, HAt z V p D.1 → Calls Try.prog 66 #[.pointer (some ⟨p, 0, none⟩)] V fun r W' => (∃ v, r = .returned v) ∧ HAt z W' p D.1.dropLast ∧ Kh z p V W') := fun V hV => by
    have hne2 : D.1 ≠ [] := fun e => by rw [e] at hdl; simp at hdl
    have hsp := List.dropLast_concat_getLast hne2
    exact hpop_any z p D.1.dropLast (D.1.getLast hne2) V (by rw [hsp]; exact hV) (by rw [List.length_dropLast]; omega)
  clear h hn hl hne h0 hp hdl hD
  go_enter Try.func45, Try.ntmps45
  go_wp2_with fail
  refine Calls.mono H1.out ?_
  rintro e w1 ⟨rfl, rfl⟩
  go_wp2_with fail
  refine Calls.mono H2.out ?_
  rintro e w2 ⟨⟨v2, rfl⟩, h2, k2⟩
  have HH2 : Hid _ := h2
  have HK2 : Hid _ := k2
  clear h2 k2
  go_wp2_with fail
  refine Calls.mono (H3.out _ HH2.out) ?_
  rintro e w3 ⟨rfl, h3, k3⟩
  have HH3 : Hid _ := h3
  have HK3 : Hid _ := k3
  clear h3 k3
  go_wp2_with fail
  refine Calls.mono (H4.out _ HH3.out) ?_
  rintro e w4 ⟨⟨v4, rfl⟩, h4, k4⟩
  have HH4 : Hid _ := h4
  have HK4 : Hid _ := k4
  clear h4 k4
  go_wp2_with fail
  go_ret
  exact ⟨⟨_, rfl⟩, HH4.out, (HK2.out.trans HK3.out).trans HK4.out⟩
theorem downL_none : ∀ (m : Nat) (hs : List Hd) (i n : Nat), n - i ≤ m → i ≤ (downL hs i n).2
  | 0, hs, i, n, h => by rw [downL_end (by omega)]; exact Nat.le_refl _
  | m + 1, hs, i, n, h => by
    by_cases h1 : 2 * i + 1 < n
    · cases e : lessAt hs (kid hs i n) i with
      | true =>
        have h2 := kid_gt hs i n
        rw [downL_go h1 e]
        have := downL_none m (swapAt hs i (kid hs i n)) (kid hs i n) n (by omega)
        omega
      | false => rw [downL_stay h1 e]; exact Nat.le_refl _
    · rw [downL_end h1]; exact Nat.le_refl _
set_option maxRecDepth 100000 in
set_option maxHeartbeats 2000000 in
theorem fix46_any (z p : Nat) (hs : List Hd) (W : World) (h : HAt z W p hs) (h0 : 0 < hs.length) (hl : hs.length < 900000) (hne : ∀ h ∈ hs, 0 < h.cs.length) (hnd : ∀ h ∈ (downL hs 0 hs.length).1, 0 < h.cs.length) :
    Calls Try.prog 46 #[.iface 61 (.pointer (some ⟨p, 0, none⟩)), .int .i64 0] W fun r W' => (∃ v, r = .returned v) ∧ HAt z W' p (downL hs 0 hs.length).1 ∧ Kh z p W W' := by
  have i1 := invLen p
  have H1 : Hid (Calls Try.prog 36 #[.pointer (some ⟨p, 0, none⟩)] W fun r W' => r = .returned (.int .i64 (hs.length : Nat)) ∧ W' = W) := len_any z p _ W h
  have H2 : Hid (Calls Try.prog 48 #[.iface 61 (.pointer (some ⟨p, 0, none⟩)), .int .i64 0, .int .i64 (hs.length : Nat)] W fun r W' => r = .returned (.bool (decide (0 < (downL hs 0 hs.length).2))) ∧ HAt z W' p (downL hs 0 hs.length).1 ∧ Kh z p W W') := down_any z p 0 hs.length hs W h (by decide) (Nat.le_refl _) (by omega) (NE.of_all hne)
  have hdl := downL_len hs 0 hs.length
  obtain ⟨D, hD⟩ : ∃ D, downL hs 0 hs.length = D := ⟨_, rfl⟩
  rw [hD] at H2 hdl hnd ⊢
  have H3 : Hid (∀ V, HAt z V p D.1 → Calls Try.prog 47 #[.iface 61 (.pointer (some ⟨p, 0, none⟩)), .int .i64 0] V fun r W' => (∃ v, r = .returned v) ∧ HAt z W' p D.1 ∧ Kh z p V W') := fun V hV => by
    have := up_any z p 0 D.1 V hV (by omega) (by omega) hnd
    rw [upL_zero] at this
    exact this
  obtain ⟨n, hn⟩ : ∃ n, hs.length = n := ⟨_, rfl⟩
  rw [hn] at H1 H2
  clear h hne hnd hdl hD hl h0 hn
  by_cases hd : 0 < D.2
  · rw [show decide (0 < D.2) = true by simp [hd]] at H2
    clear hd
    go_enter Try.func46, Try.ntmps46
    go_wp2_with fail
    refine Calls.mono H1.out ?_
    rintro e w1 ⟨rfl, rfl⟩
    go_wp2_with fail
    refine Calls.mono H2.out ?_
    rintro e w2 ⟨rfl, h2, k2⟩
    have HH2 : Hid _ := h2
    have HK2 : Hid _ := k2
    clear h2 k2
    go_wp2_with fail
    go_end0
    exact ⟨⟨_, rfl⟩, HH2.out, HK2.out⟩
  · rw [show decide (0 < D.2) = false by simp; omega] at H2
    clear hd
    go_enter Try.func46, Try.ntmps46
    go_wp2_with fail
    refine Calls.mono H1.out ?_
    rintro e w1 ⟨rfl, rfl⟩
    go_wp2_with fail
    refine Calls.mono H2.out ?_
    rintro e w2 ⟨rfl, h2, k2⟩
    have HH2 : Hid _ := h2
    have HK2 : Hid _ := k2
    clear h2 k2
    go_wp2_with fail
    refine Calls.mono (H3.out _ HH2.out) ?_
    rintro e w3 ⟨⟨v3, rfl⟩, h3, k3⟩
    have HH3 : Hid _ := h3
    have HK3 : Hid _ := k3
    clear h3 k3
    go_wp2_with fail
    go_end0
    exact ⟨⟨_, rfl⟩, HH3.out, HK2.out.trans HK3.out⟩
end Go.Proofs.Ytohamjoiohfoiaa
