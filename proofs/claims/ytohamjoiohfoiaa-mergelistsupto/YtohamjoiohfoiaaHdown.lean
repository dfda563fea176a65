/-
  A head on its way down.
-/
import Derived.Test.YtohamjoiohfoiaaHup
namespace Go.Proofs.Ytohamjoiohfoiaa
open Go.RowKit
/-- Does the head at i come out ahead of that at j? -/
def lessAt (hs : List Hd) (i j : Nat) : Bool := match hs[i]?, hs[j]? with
  | some x, some y => lessD x y
  | _, _ => false
def swapAt (hs : List Hd) (i j : Nat) : List Hd := match hs[i]?, hs[j]? with
  | some x, some y => swapL hs i j x y
  | _, _ => hs
theorem swapAt_length (hs : List Hd) (i j : Nat) : (swapAt hs i j).length = hs.length := by
  unfold swapAt
  split
  · exact swapL_length _ _ _ _ _
  · rfl
theorem swapAt_all {hs : List Hd} {i j : Nat} {P : Hd → Prop} (h : ∀ a ∈ hs, P a) : ∀ a ∈ swapAt hs i j, P a := by
  unfold swapAt
  split
  · rename_i hx hy
    exact swapL_all h hx hy
  · exact h
/-- Of the first n heads none is empty. -/
def NE (hs : List Hd) (n : Nat) : Prop := ∀ (i : Nat) (x : Hd), i < n → hs[i]? = some x → 0 < x.cs.length
theorem NE.of_all {hs : List Hd} {n : Nat} (h : ∀ a ∈ hs, 0 < a.cs.length) : NE hs n := fun _ x _ e => h x (List.mem_of_getElem? e)
theorem NE.swap {hs : List Hd} {n i j : Nat} (h : NE hs n) (hi : i < n) (hj : j < n) : NE (swapAt hs i j) n := by
  unfold swapAt
  split
  · rename_i x y hx hy
    intro k a hk e
    unfold swapL at e
    by_cases e1 : k = j
    · subst e1
      have hlt := (List.getElem?_eq_some_iff.1 e).1
      rw [List.getElem?_set_self (by simpa using hlt)] at e
      cases e
      exact h i _ hi hx
    · rw [List.getElem?_set_ne (by omega)] at e
      by_cases e2 : k = i
      · subst e2
        have hlt := (List.getElem?_eq_some_iff.1 e).1
        rw [List.getElem?_set_self (by simpa using hlt)] at e
        cases e
        exact h j _ hj hy
      · rw [List.getElem?_set_ne (by omega)] at e
        exact h k a hk e
  · exact h
theorem lessAt_any (z p i j n : Nat) (hs : List Hd) (W : World) (h : HAt z W p hs) (hn : n ≤ hs.length) (hi : i < n) (hj : j < n) (hne : NE hs n) :
    Calls Try.prog 65 #[.pointer (some ⟨p, 0, none⟩), .int .i64 (i : Nat), .int .i64 (j : Nat)] W fun r W' => r = .returned (.bool (lessAt hs i j)) ∧ Below W.heap.size W W' := by
  have hx := List.getElem?_eq_getElem (show i < hs.length by omega)
  have hy := List.getElem?_eq_getElem (show j < hs.length by omega)
  have lx := hne i _ hi hx
  have ly := hne j _ hj hy
  have := hless_any z p i j hs _ _ _ _ W h hx hy (List.getElem?_eq_getElem lx) (List.getElem?_eq_getElem ly)
  rw [lessAt, hx, hy]
  simp only
  rw [lessD, List.getElem?_eq_getElem lx, List.getElem?_eq_getElem ly]
  exact this
theorem swapAt_any (z p i j : Nat) (hs : List Hd) (W : World) (h : HAt z W p hs) (hi : i < hs.length) (hj : j < hs.length) :
    Calls Try.prog 68 #[.pointer (some ⟨p, 0, none⟩), .int .i64 (i : Nat), .int .i64 (j : Nat)] W fun r W' => (∃ v, r = .returned v) ∧ HAt z W' p (swapAt hs i j) ∧ Kh z p W W' := by
  have := hswap_any z p i j hs hs[i] hs[j] W h (List.getElem?_eq_getElem hi) (List.getElem?_eq_getElem hj)
  rw [swapAt, List.getElem?_eq_getElem hi, List.getElem?_eq_getElem hj]
  exact this
/-- The child of i that comes out first. -/
def kid (hs : List Hd) (i n : Nat) : Nat := if 2 * i + 2 < n then (if lessAt hs (2 * i + 2) (2 * i + 1) then 2 * i + 2 else 2 * i + 1) else 2 * i + 1
theorem kid_gt (hs : List Hd) (i n : Nat) : i < kid hs i n := by
  unfold kid
  split
  · split <;> omega
  · omega
theorem kid_lt {hs : List Hd} {i n : Nat} (h : 2 * i + 1 < n) : kid hs i n < n := by
  unfold kid
  split
  · split <;> omega
  · omega
/-- A heap's heads, when the one at i has gone down among the first n; where it stands then. -/
def downL (hs : List Hd) (i n : Nat) : List Hd × Nat :=
  if _h : 2 * i + 1 < n then
    (if lessAt hs (kid hs i n) i then downL (swapAt hs i (kid hs i n)) (kid hs i n) n else (hs, i))
  else (hs, i)
termination_by n - i
decreasing_by
  have := kid_gt hs i n
  omega
theorem downL_end {hs : List Hd} {i n : Nat} (h : ¬ 2 * i + 1 < n) : downL hs i n = (hs, i) := by rw [downL, dif_neg h]
theorem downL_stay {hs : List Hd} {i n : Nat} (h : 2 * i + 1 < n) (e : lessAt hs (kid hs i n) i = false) : downL hs i n = (hs, i) := by rw [downL, dif_pos h, e]; rfl
theorem downL_go {hs : List Hd} {i n : Nat} (h : 2 * i + 1 < n) (e : lessAt hs (kid hs i n) i = true) : downL hs i n = downL (swapAt hs i (kid hs i n)) (kid hs i n) n := by rw [downL, dif_pos h, if_pos e]
set_option maxRecDepth 100000 in
set_option maxHeartbeats 4000000 in
theorem down_any (z p i n : Nat) (hs : List Hd) (W : World) (h : HAt z W p hs) (hi : i < 1000000) (hn : n ≤ hs.length) (hl : hs.length < 1000000) (hne : NE hs n) :
    Calls Try.prog 48 #[.iface 61 (.pointer (some ⟨p, 0, none⟩)), .int .i64 (i : Nat), .int .i64 (n : Nat)] W fun r W' => r = .returned (.bool (decide (i < (downL hs i n).2))) ∧ HAt z W' p (downL hs i n).1 ∧ Kh z p W W' := by
  obtain ⟨⟨R, at'⟩, hR⟩ : ∃ R, downL hs i n = R := ⟨_, rfl⟩
  have H0 : Hid (HAt z W p hs ∧ downL hs i n = (R, at') ∧ NE hs n ∧ n ≤ hs.length) := ⟨h, hR, hne, hn⟩
  rw [hR]
  simp only
  have hn6 : n < 1000000 := by omega
  clear h hne hR hl hn
  have i1 := invLess p
  have i2 := invSwap p
  go_enter Try.func48, Try.ntmps48
  go_wp2_with fail
  go_loopw [7] (fun s wr => ∃ (k : Nat), k < 1000000 ∧ s = .int .i64 (k : Nat) ∧ Hid (∃ ts, HAt z wr p ts ∧ downL ts k n = (R, at') ∧ NE ts n ∧ n ≤ ts.length) ∧ Hid (Kh z p W wr)) (fun s _ => n - (intOf s).toNat)
  case atStart => exact ⟨i, hi, rfl, ⟨hs, H0.out⟩, Kh.of_below (Below.refl _ _)⟩
  case round =>
    obtain ⟨k, hk6, rfl, HT, HK⟩ := hrel
    obtain ⟨ts, t1, t2, t3, t4⟩ := HT.out
    clear HT
    have HD : Hid (decide ((i : Int) < (k : Int)) = decide (i < k)) := by rw [Hid]; simp
    by_cases hkn : 2 * k + 1 < n
    · obtain ⟨j, hj⟩ : ∃ j, kid ts k n = j := ⟨_, rfl⟩
      have hjn : j < n := by rw [← hj]; exact kid_lt hkn
      have hjk : k < j := by rw [← hj]; exact kid_gt ts k n
      have HB0 : Hid (∀ V, Below wr.heap.size wr V → HAt z V p ts) := fun V hV => t1.below hV t1.zle
      have HLB : Hid (∀ V, Below wr.heap.size wr V → Calls Try.prog 65 #[.pointer (some ⟨p, 0, none⟩), .int .i64 (j : Nat), .int .i64 (k : Nat)] V fun r W' => r = .returned (.bool (lessAt ts j k)) ∧ Below V.heap.size V W') := fun V hV => lessAt_any z p j k n ts V (HB0.out V hV) t4 hjn (by omega) t3
      have HSW : Hid (∀ V, Below wr.heap.size wr V → Calls Try.prog 68 #[.pointer (some ⟨p, 0, none⟩), .int .i64 (k : Nat), .int .i64 (j : Nat)] V fun r W' => (∃ v, r = .returned v) ∧ HAt z W' p (swapAt ts k j) ∧ Kh z p V W') := fun V hV => swapAt_any z p k j ts V (HB0.out V hV) (by omega) (by omega)
      have HST : Hid (lessAt ts j k = false → ts = R ∧ k = at') := fun e => by
        rw [downL_stay hkn (by rw [hj]; exact e)] at t2
        simpa using t2
      have HGO : Hid (lessAt ts j k = true → downL (swapAt ts k j) j n = (R, at') ∧ NE (swapAt ts k j) n ∧ n ≤ (swapAt ts k j).length) := fun e => by
        rw [downL_go hkn (by rw [hj]; exact e), hj] at t2
        exact ⟨t2, t3.swap (by omega) hjn, by rw [swapAt_length]; exact t4⟩
      by_cases hlt2 : 2 * k + 1 + 1 < n
      · have HLA : Hid (Calls Try.prog 65 #[.pointer (some ⟨p, 0, none⟩), .int .i64 ((2 * k + 2 : Nat) : Int), .int .i64 ((2 * k + 1 : Nat) : Int)] wr fun r W' => r = .returned (.bool (lessAt ts (2 * k + 2) (2 * k + 1))) ∧ Below wr.heap.size wr W') := lessAt_any z p _ _ n ts wr t1 t4 (by omega) (by omega) t3
        have hkid : j = if lessAt ts (2 * k + 2) (2 * k + 1) then 2 * k + 2 else 2 * k + 1 := by
          rw [← hj, kid, if_pos (by omega)]
        rw [show ((2 * k + 2 : Nat) : Int) = 2 * (k : Int) + 1 + 1 by omega, show ((2 * k + 1 : Nat) : Int) = 2 * (k : Int) + 1 by omega] at HLA
        cases hA : lessAt ts (2 * k + 2) (2 * k + 1) with
        | true =>
          rw [hA] at hkid HLA
          have ej : (j : Int) = 2 * (k : Int) + 1 + 1 := by
            have : j = 2 * k + 2 := hkid
            omega
          clear hkid hA
          have HTT : Hid _ := t1
          have HJ : Hid (j < 1000000 ∧ k < j ∧ j < n) := ⟨by omega, hjk, hjn⟩
          have HJE : Hid _ := ej
          rw [ej] at HLB HSW
          clear HB0 t1 t2 t3 t4 hj hjn hjk ej
          cases hB : lessAt ts j k with
          | true =>
            rw [hB] at HLB HGO
            have HGO' : Hid _ := HGO.out rfl
            clear hB HST HGO
            go_wp2_with (first
              | (go_at_call 65; refine Calls.mono HLA.out ?_; clear HLA; rintro e w2 ⟨rfl, b2⟩; have HB2 : Hid (Below wr.heap.size wr w2) := b2; clear b2)
              | (go_at_call 65; refine Calls.mono (HLB.out _ HB2.out) ?_; clear HLB; rintro e w3 ⟨rfl, b3⟩; have HB3 : Hid (Below wr.heap.size wr w3) := HB2.out.trans (b3.mono HB2.out.size); clear b3)
              | (go_at_call 68; refine Calls.mono (HSW.out _ HB3.out) ?_; rintro e w4 ⟨⟨v, rfl⟩, b4⟩; have HB4 : Hid _ := b4; clear b4))
            go_roundw
            case rel => exact ⟨j, HJ.out.1, by rw [HJE.out], ⟨_, HB4.out.1, HGO'.out⟩, (HK.out.trans (Kh.of_below HB3.out)).trans HB4.out.2⟩
            case measure =>
              have h1 := HJ.out
              have h2 := HJE.out
              simp [intOf]
              omega
          | false =>
            rw [hB] at HLB HST
            have HR : Hid _ := HST.out rfl
            clear hB HST HGO HSW
            go_wp2_with (first
              | (go_at_call 65; refine Calls.mono HLA.out ?_; clear HLA; rintro e w2 ⟨rfl, b2⟩; have HB2 : Hid (Below wr.heap.size wr w2) := b2; clear b2)
              | (go_at_call 65; refine Calls.mono (HLB.out _ HB2.out) ?_; clear HLB; rintro e w3 ⟨rfl, b3⟩; have HB3 : Hid (Below wr.heap.size wr w3) := HB2.out.trans (b3.mono HB2.out.size); clear b3))
            go_ret
            obtain ⟨h1, h2⟩ := HR.out
            subst h1
            subst h2
            exact ⟨by rw [← HD.out]; rfl, HTT.out.below HB3.out HTT.out.zle, HK.out.trans (Kh.of_below HB3.out)⟩
        | false =>
          rw [hA] at hkid HLA
          have ej : (j : Int) = 2 * (k : Int) + 1 := by
            have : j = 2 * k + 1 := by simpa using hkid
            omega
          clear hkid hA
          have HTT : Hid _ := t1
          have HJ : Hid (j < 1000000 ∧ k < j ∧ j < n) := ⟨by omega, hjk, hjn⟩
          have HJE : Hid _ := ej
          rw [ej] at HLB HSW
          clear HB0 t1 t2 t3 t4 hj hjn hjk ej
          cases hB : lessAt ts j k with
          | true =>
            rw [hB] at HLB HGO
            have HGO' : Hid _ := HGO.out rfl
            clear hB HST HGO
            go_wp2_with (first
              | (go_at_call 65; refine Calls.mono HLA.out ?_; clear HLA; rintro e w2 ⟨rfl, b2⟩; have HB2 : Hid (Below wr.heap.size wr w2) := b2; clear b2)
              | (go_at_call 65; refine Calls.mono (HLB.out _ HB2.out) ?_; clear HLB; rintro e w3 ⟨rfl, b3⟩; have HB3 : Hid (Below wr.heap.size wr w3) := HB2.out.trans (b3.mono HB2.out.size); clear b3)
              | (go_at_call 68; refine Calls.mono (HSW.out _ HB3.out) ?_; rintro e w4 ⟨⟨v, rfl⟩, b4⟩; have HB4 : Hid _ := b4; clear b4))
            go_roundw
            case rel => exact ⟨j, HJ.out.1, by rw [HJE.out], ⟨_, HB4.out.1, HGO'.out⟩, (HK.out.trans (Kh.of_below HB3.out)).trans HB4.out.2⟩
            case measure =>
              have h1 := HJ.out
              have h2 := HJE.out
              simp [intOf]
              omega
          | false =>
            rw [hB] at HLB HST
            have HR : Hid _ := HST.out rfl
            clear hB HST HGO HSW
            go_wp2_with (first
              | (go_at_call 65; refine Calls.mono HLA.out ?_; clear HLA; rintro e w2 ⟨rfl, b2⟩; have HB2 : Hid (Below wr.heap.size wr w2) := b2; clear b2)
              | (go_at_call 65; refine Calls.mono (HLB.out _ HB2.out) ?_; clear HLB; rintro e w3 ⟨rfl, b3⟩; have HB3 : Hid (Below wr.heap.size wr w3) := HB2.out.trans (b3.mono HB2.out.size); clear b3))
            go_ret
            obtain ⟨h1, h2⟩ := HR.out
            subst h1
            subst h2
            exact ⟨by rw [← HD.out]; rfl, HTT.out.below HB3.out HTT.out.zle, HK.out.trans (Kh.of_below HB3.out)⟩
      · have ej : (j : Int) = 2 * (k : Int) + 1 := by
          have : j = 2 * k + 1 := by rw [← hj, kid, if_neg (by omega)]
          omega
        have HTT : Hid _ := t1
        have HJ : Hid (j < 1000000 ∧ k < j ∧ j < n) := ⟨by omega, hjk, hjn⟩
        have HJE : Hid _ := ej
        rw [ej] at HLB HSW
        clear HB0 t1 t2 t3 t4 hj hjn hjk ej
        cases hB : lessAt ts j k with
        | true =>
          rw [hB] at HLB HGO
          have HGO' : Hid _ := HGO.out rfl
          clear hB HST HGO
          go_wp2_with (first
            | (go_at_call 65; refine Calls.mono (HLB.out _ (Below.refl _ _)) ?_; clear HLB; rintro e w3 ⟨rfl, b3⟩; have HB3 : Hid (Below wr.heap.size wr w3) := b3; clear b3)
            | (go_at_call 68; refine Calls.mono (HSW.out _ HB3.out) ?_; rintro e w4 ⟨⟨v, rfl⟩, b4⟩; have HB4 : Hid _ := b4; clear b4))
          go_roundw
          case rel => exact ⟨j, HJ.out.1, by rw [HJE.out], ⟨_, HB4.out.1, HGO'.out⟩, (HK.out.trans (Kh.of_below HB3.out)).trans HB4.out.2⟩
          case measure =>
            have h1 := HJ.out
            have h2 := HJE.out
            simp [intOf]
            omega
        | false =>
          rw [hB] at HLB HST
          have HR : Hid _ := HST.out rfl
          clear hB HST HGO HSW
          go_wp2_with (first
            | (go_at_call 65; refine Calls.mono (HLB.out _ (Below.refl _ _)) ?_; clear HLB; rintro e w3 ⟨rfl, b3⟩; have HB3 : Hid (Below wr.heap.size wr w3) := b3; clear b3))
          go_ret
          obtain ⟨h1, h2⟩ := HR.out
          subst h1
          subst h2
          exact ⟨by rw [← HD.out]; rfl, HTT.out.below HB3.out HTT.out.zle, HK.out.trans (Kh.of_below HB3.out)⟩
    · rw [downL_end hkn] at t2
      have HR : Hid (ts = R ∧ k = at') := by rw [Hid]; simpa using t2
      have HT : Hid _ := t1
      clear t1 t2 t3 t4
      go_wp2_with fail
      go_ret
      obtain ⟨h1, h2⟩ := HR.out
      subst h1
      subst h2
      exact ⟨by rw [← HD.out]; rfl, HT.out, HK.out⟩
end Go.Proofs.Ytohamjoiohfoiaa
