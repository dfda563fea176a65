/-
  A head on its way up.
-/
import Derived.Test.YtohamjoiohfoiaaHless
import Derived.Test.YtohamjoiohfoiaaHswap
namespace Go.Proofs.Ytohamjoiohfoiaa
open Go.RowKit
set_option maxRecDepth 100000 in
theorem invLess (p : Nat) (W : World) : (method 200 61 (.pointer (some ⟨p, 0, none⟩)) "Less").run Try.prog W = .ok (65, .pointer (some ⟨p, 0, none⟩)) W := by kernel_rfl
set_option maxRecDepth 100000 in
theorem invSwap (p : Nat) (W : World) : (method 200 61 (.pointer (some ⟨p, 0, none⟩)) "Swap").run Try.prog W = .ok (68, .pointer (some ⟨p, 0, none⟩)) W := by kernel_rfl
set_option maxRecDepth 100000 in
theorem invLen (p : Nat) (W : World) : (method 200 61 (.pointer (some ⟨p, 0, none⟩)) "Len").run Try.prog W = .ok (36, .pointer (some ⟨p, 0, none⟩)) W := by kernel_rfl
set_option maxRecDepth 100000 in
theorem invPush (p : Nat) (W : World) : (method 200 61 (.pointer (some ⟨p, 0, none⟩)) "Push").run Try.prog W = .ok (67, .pointer (some ⟨p, 0, none⟩)) W := by kernel_rfl
set_option maxRecDepth 100000 in
theorem invPop (p : Nat) (W : World) : (method 200 61 (.pointer (some ⟨p, 0, none⟩)) "Pop").run Try.prog W = .ok (66, .pointer (some ⟨p, 0, none⟩)) W := by kernel_rfl
/-- Does head x come out ahead of head y? -/
def lessD (x y : Hd) : Bool := match x.cs[0]?, y.cs[0]? with
  | some a, some b => lessH a b x.nth y.nth
  | _, _ => false
theorem lessD_any (z p i j : Nat) (hs : List Hd) (x y : Hd) (W : World) (h : HAt z W p hs) (hx : hs[i]? = some x) (hy : hs[j]? = some y) (hne : ∀ h ∈ hs, 0 < h.cs.length) :
    Calls Try.prog 65 #[.pointer (some ⟨p, 0, none⟩), .int .i64 (i : Nat), .int .i64 (j : Nat)] W fun r W' => r = .returned (.bool (lessD x y)) ∧ Below W.heap.size W W' := by
  obtain ⟨cx, hcx⟩ : ∃ cx, x.cs[0]? = some cx := ⟨x.cs[0]'(hne x (List.mem_of_getElem? hx)), List.getElem?_eq_getElem _⟩
  obtain ⟨cy, hcy⟩ : ∃ cy, y.cs[0]? = some cy := ⟨y.cs[0]'(hne y (List.mem_of_getElem? hy)), List.getElem?_eq_getElem _⟩
  have := hless_any z p i j hs x y cx cy W h hx hy hcx hcy
  rw [lessD, hcx, hcy]
  exact this
/-- A heap's heads, when the one at j has gone up. -/
def upL (hs : List Hd) (j : Nat) : List Hd :=
  if _h : j = 0 then hs else
    match hs[(j - 1) / 2]?, hs[j]? with
    | some x, some y => if lessD y x then upL (swapL hs ((j - 1) / 2) j x y) ((j - 1) / 2) else hs
    | _, _ => hs
termination_by j
decreasing_by omega
theorem upL_zero (hs : List Hd) : upL hs 0 = hs := by rw [upL]; simp
theorem upL_stay {hs : List Hd} {m q : Nat} {x y : Hd} (hq : m / 2 = q) (hx : hs[q]? = some x) (hy : hs[m + 1]? = some y) (h : lessD y x = false) : upL hs (m + 1) = hs := by
  subst hq
  rw [upL, dif_neg (by omega), Nat.add_sub_cancel, hx, hy]
  simp [h]
theorem upL_go {hs : List Hd} {m q : Nat} {x y : Hd} (hq : m / 2 = q) (hx : hs[q]? = some x) (hy : hs[m + 1]? = some y) (h : lessD y x = true) : upL hs (m + 1) = upL (swapL hs q (m + 1) x y) q := by
  subst hq
  rw [upL, dif_neg (by omega), Nat.add_sub_cancel, hx, hy]
  simp [h]
theorem swapL_length (hs : List Hd) (i j : Nat) (x y : Hd) : (swapL hs i j x y).length = hs.length := by simp [swapL]
theorem swapL_all {hs : List Hd} {i j : Nat} {x y : Hd} {P : Hd → Prop} (h : ∀ a ∈ hs, P a) (hx : hs[i]? = some x) (hy : hs[j]? = some y) : ∀ a ∈ swapL hs i j x y, P a := by
  intro a ha
  rcases List.mem_or_eq_of_mem_set ha with ha | rfl
  · rcases List.mem_or_eq_of_mem_set ha with ha | rfl
    · exact h a ha
    · exact h _ (List.mem_of_getElem? hy)
  · exact h _ (List.mem_of_getElem? hx)
set_option maxRecDepth 100000 in
set_option maxHeartbeats 2000000 in
theorem up_any (z p j : Nat) (hs : List Hd) (W : World) (h : HAt z W p hs) (hj : j < hs.length) (hl : hs.length < 1000000) (hne : ∀ h ∈ hs, 0 < h.cs.length) :
    Calls Try.prog 47 #[.iface 61 (.pointer (some ⟨p, 0, none⟩)), .int .i64 (j : Nat)] W fun r W' => (∃ v, r = .returned v) ∧ HAt z W' p (upL hs j) ∧ Kh z p W W' := by
  have HL : Hid _ := hl
  obtain ⟨R, hR⟩ : ∃ R, upL hs j = R := ⟨_, rfl⟩
  have H0 : Hid (HAt z W p hs ∧ upL hs j = R ∧ (∀ h ∈ hs, 0 < h.cs.length) ∧ j < hs.length) := ⟨h, hR, hne, hj⟩
  rw [hR]
  have hj6 : j < 1000000 := by omega
  clear h hne hR hl hj
  go_enter Try.func47, Try.ntmps47
  go_wp2_with fail
  go_loopw [1] (fun s wr => ∃ (k : Nat), k < 1000000 ∧ s = .int .i64 (k : Nat) ∧ Hid (∃ ts, HAt z wr p ts ∧ upL ts k = R ∧ (∀ h ∈ ts, 0 < h.cs.length) ∧ k < ts.length) ∧ Hid (Kh z p W wr)) (fun s _ => (intOf s).toNat)
  case atStart => exact ⟨j, hj6, rfl, ⟨hs, H0.out⟩, Kh.of_below (Below.refl _ _)⟩
  case round =>
    obtain ⟨k, hk6, rfl, HT, HK⟩ := hrel
    cases k with
    | zero =>
      go_wp2_with fail
      go_end0
      obtain ⟨ts, h1, h2, _⟩ := HT.out
      rw [upL_zero] at h2
      subst h2
      exact ⟨⟨_, rfl⟩, h1, HK.out⟩
    | succ m =>
      obtain ⟨ts, t1, t2, t3, t4⟩ := HT.out
      clear HT
      obtain ⟨x, hx⟩ : ∃ x, ts[m / 2]? = some x := ⟨ts[m / 2]'(by omega), List.getElem?_eq_getElem _⟩
      obtain ⟨y, hy⟩ : ∃ y, ts[m + 1]? = some y := ⟨ts[m + 1]'(by omega), List.getElem?_eq_getElem _⟩
      have ec : ((m + 1 : Nat) : Int) = (m : Int) + 1 := by omega
      have e1 : wrap64 (((m + 1 : Nat) : Int) - 1) = (m : Int) := by unfold wrap64; omega
      obtain ⟨q, hq⟩ : ∃ q, m / 2 = q := ⟨_, rfl⟩
      have e2 : (m : Int).tdiv 2 = (q : Int) := by rw [Int.tdiv_eq_ediv_of_nonneg (by omega)]; omega
      have e3 : wrap64 (q : Int) = (q : Int) := by unfold wrap64; omega
      have eb : ((q : Int) == (m : Int) + 1) = false := by
        rw [beq_eq_false_iff_ne]
        omega
      have hq2 : q < m + 1 := by omega
      rw [hq] at hx
      have HC := lessD_any z p (m + 1) q ts y x wr t1 hy hx t3
      rw [ec] at HC
      have HS : Hid (∀ V, Below wr.heap.size wr V → Calls Try.prog 68 #[.pointer (some ⟨p, 0, none⟩), .int .i64 (q : Nat), .int .i64 ((m : Int) + 1)] V fun r W' => (∃ v, r = .returned v) ∧ HAt z W' p (swapL ts q (m + 1) x y) ∧ Kh z p V W') := fun V hV => by
        have := hswap_any z p q (m + 1) ts x y V (t1.below hV t1.zle) hx hy
        rw [ec] at this
        exact this
      have i1 := invLess p
      have i2 := invSwap p
      cases hld : lessD y x with
      | false =>
        have HR : Hid (ts = R) := (upL_stay hq hx hy hld).symm.trans t2
        rw [hld] at HC
        have HC' : Hid _ := HC
        have HT : Hid _ := t1
        clear HC t1 t2 t3 t4 hx hy hld hq HS
        go_wp2_with (go_at_call 65; refine Calls.mono HC'.out ?_; rintro e w3 ⟨rfl, b3⟩; have HB3 : Hid _ := b3; clear b3)
        go_end0
        have h1 := HR.out
        subst h1
        exact ⟨⟨_, rfl⟩, HT.out.below HB3.out HT.out.zle, HK.out.trans (Kh.of_below HB3.out)⟩
      | true =>
        have HR : Hid (upL (swapL ts q (m + 1) x y) q = R ∧ (∀ a ∈ swapL ts q (m + 1) x y, 0 < a.cs.length) ∧ q < (swapL ts q (m + 1) x y).length) := ⟨(upL_go hq hx hy hld).symm.trans t2, swapL_all t3 hx hy, by rw [swapL_length]; omega⟩
        rw [hld] at HC
        have HC' : Hid _ := HC
        clear HC t1 t2 t3 t4 hx hy hld hq
        go_wp2_with (first
          | (go_at_call 65; refine Calls.mono HC'.out ?_; rintro e w3 ⟨rfl, b3⟩; have HB3 : Hid _ := b3; clear b3)
          | (go_at_call 68; refine Calls.mono (HS.out _ HB3.out) ?_; rintro e w4 ⟨⟨v, rfl⟩, b4⟩; have HB4 : Hid _ := b4; clear b4))
        go_roundw
        case rel => exact ⟨q, by omega, rfl, ⟨_, HB4.out.1, HR.out⟩, (HK.out.trans (Kh.of_below HB3.out)).trans HB4.out.2⟩
        case measure => simp [intOf]; omega
end Go.Proofs.Ytohamjoiohfoiaa
