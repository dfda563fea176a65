/-
  ScriptQuotes' walk.
-/
import Derived.Test.YtcdagmgbfihbdaaDoorDig
import Derived.Test.YtcdagmgbfihbdaaDoorQqt
import Derived.Test.YtcdagmgbfihbdaaDoorFui
namespace Go.Proofs.YtcdagmgbfihbdaaDoor
open Go.RowKit
theorem ub_of (y : UInt8) (q : List UInt8) : ∃ n, UB (qB y ++ q) y n := by
  have hy := y.toNat_lt
  unfold qB
  split
  · rename_i h1
    refine ⟨4, ub_four (c := 92) (d := 120) rfl rfl (fun a b h2 h3 => ?_)⟩
    have n1 := nib_at ⟨y.toNat / 16, by omega⟩
    have n2 := nib_at ⟨y.toNat % 16, by omega⟩
    simp only at n1 n2
    omega
  · split
    · rename_i h1 h2
      exact ⟨2, ub_two (c := 92) (d := y) rfl (.inl (by omega))⟩
    · rename_i h1 h2
      exact ⟨1, ub_self (by omega)⟩
theorem qBs_inj : ∀ a b : List UInt8, a.flatMap qB = b.flatMap qB → a = b
  | [], b, h => (flat_nil h.symm).symm
  | x :: a, [], h => flat_nil h
  | x :: a, y :: b, h => by
    rw [List.flatMap_cons, List.flatMap_cons] at h
    obtain ⟨n, hn⟩ := ub_of y (b.flatMap qB)
    obtain ⟨rfl, _⟩ := hn.2.2 x (a.flatMap qB) h.symm
    rw [qBs_inj a b (List.append_cancel_left h)]
theorem quoteL_inj {a b : List UInt8} (h : quoteL a = quoteL b) : a = b := by
  unfold quoteL at h
  rw [List.cons.injEq] at h
  exact qBs_inj a b (List.append_cancel_right h.2)
open Classical in
/-- What a text reads as. -/
noncomputable def uqV (l : List UInt8) : List UInt8 × Bool := if h : ∃ x, quoteL x = l then (Classical.choose h, true) else ([], false)
theorem uq_fix {l d : List UInt8} {ok : Bool} (h : UqR l d ok) : uqV l = (d, ok) := by
  unfold uqV
  cases ok with
  | true =>
    obtain ⟨h1, h2⟩ := h.1 rfl
    have hx : ∃ x, quoteL x = l := ⟨d, h1⟩
    rw [dif_pos hx, ← h2 _ (Classical.choose_spec hx)]
  | false =>
    obtain ⟨rfl, h2⟩ := h.2 rfl
    rw [dif_neg (fun ⟨x, hx⟩ => h2 x hx)]
theorem qlen_le : ∀ x : List UInt8, x.length ≤ (x.flatMap qB).length
  | [] => by simp
  | y :: r => by
    obtain ⟨a, q, e⟩ := qB_head y
    have := qlen_le r
    rw [List.flatMap_cons, e, List.length_append, List.length_cons, List.length_cons]
    omega
theorem uqV_true {l : List UInt8} (h : (uqV l).2 = true) : quoteL (uqV l).1 = l := by
  unfold uqV at h ⊢
  split
  · rename_i hx
    exact Classical.choose_spec hx
  · rename_i hx
    rw [dif_neg hx] at h
    cases h
set_option maxRecDepth 100000 in
set_option maxHeartbeats 4000000 in
theorem quotes_walk (l : List UInt8) (hl : l.length ≤ 1048576) (w : World) (hT : TabP w)
    (hQU : ∀ W : World, Calls Tryd.prog 10 #[.string (bOf l)] W fun e w' => ∃ d ok, e = .returned (.tuple #[.string (bOf d), .bool ok]) ∧ UqR l d ok ∧ d.length ≤ l.length ∧ Below W.heap.size W w') :
    Calls Tryd.prog 3 #[.string (bOf l)] w fun e w' => e = .returned (.bool true) ∧ Below w.heap.size w w' := by
  have HAW : Hid (∀ W, Below w.heap.size w W → _) := fun W hb => awake_any W (tab_on hT hb) fuint
  have HQA : Hid (∀ x : List UInt8, x.length ≤ 5000000 → ∀ W : World, _) := fun x hx W => quote_any x W (by omega)
  have HUA : Hid (∀ x : List UInt8, x.length ≤ 5000000 → ∀ W : World, Calls Tryd.prog 9 #[.string (bOf x)] W fun e w' => e = .returned (.tuple #[.string (bOf (uqV x).1), .bool (uqV x).2]) ∧ Below W.heap.size W w') := fun x hx W =>
    (unquote_any x W (by omega)).mono fun e w' ⟨d, ok, he, hu, _, hb⟩ => by rw [uq_fix hu]; exact ⟨he, hb⟩
  have HQV : Hid (∀ W : World, Calls Tryd.prog 10 #[.string (bOf l)] W fun e w' => e = .returned (.tuple #[.string (bOf (uqV l).1), .bool (uqV l).2]) ∧ Below W.heap.size W w') := fun W =>
    (hQU W).mono fun e w' ⟨d, ok, he, hu, _, hb⟩ => by rw [uq_fix hu]; exact ⟨he, hb⟩
  have HQQ : Hid (∀ W : World, _) := fun W => qquote_any l W (by omega)
  have hql := quoteL_len l
  have HLL : Hid (l.length ≤ 5000000 ∧ (quoteL l).length ≤ 5000000) := by rw [Hid]; omega
  have HUV : Hid (uqV (quoteL l) = (l, true)) := by
    obtain ⟨D, hD⟩ : ∃ q, uqV (quoteL l) = q := ⟨_, rfl⟩
    have hk : (uqV (quoteL l)).2 = true := by
      unfold uqV
      rw [dif_pos ⟨l, rfl⟩]
    have h1 := uqV_true hk
    have h2 : (uqV (quoteL l)).1 = l := quoteL_inj h1
    rw [← h2, ← hk, h2]
    rw [Prod.ext_iff]
    exact ⟨h2, rfl⟩
  have HTR : Hid ((uqV l).2 = true → quoteL (uqV l).1 = l) := uqV_true
  obtain ⟨Q, hQ⟩ : ∃ Q, quoteL l = Q := ⟨_, rfl⟩
  rw [hQ] at HLL HUV hql
  have HQL : Hid (quoteL l = Q) := hQ
  obtain ⟨⟨D, K⟩, hD⟩ : ∃ q, uqV l = q := ⟨_, rfl⟩
  have HDK : Hid (uqV l = (D, K)) := hD
  rw [hD] at HQV HTR
  simp only at HQV HTR
  clear hT hQU hQ hD hql hl
  rw [HQL.out] at HQQ
  go_enter Tryd.func3, Tryd.ntmps3
  go_wp2_with fail
  refine (HQA.out l HLL.out.1 _).mono ?_
  rintro e w1 ⟨rfl, b1⟩
  have HB1 : Hid (Below w.heap.size w w1) := b1
  clear b1
  rw [HQL.out]
  go_wp2_with fail
  refine (HUA.out Q HLL.out.2 _).mono ?_
  rintro e w2 ⟨rfl, b2⟩
  have HB2 : Hid (Below w.heap.size w w2) := HB1.out.trans (b2.mono HB1.out.size)
  clear b2
  rw [HUV.out]
  go_wp2_with fail
  refine (HUA.out l HLL.out.1 _).mono ?_
  rintro e w3 ⟨rfl, b3⟩
  have HB3 : Hid (Below w.heap.size w w3) := HB2.out.trans (b3.mono HB2.out.size)
  clear b3
  rw [HDK.out]
  go_wp2_with fail
  refine (HQV.out _).mono ?_
  rintro e w4 ⟨rfl, b4⟩
  have HB4 : Hid (Below w.heap.size w w4) := HB3.out.trans (b4.mono HB3.out.size)
  clear b4
  go_wp2_with fail
  refine (HAW.out _ HB4.out).mono ?_
  rintro e w5 ⟨rfl, b5⟩
  have HB5 : Hid (Below w.heap.size w w5) := HB4.out.trans (b5.mono HB4.out.size)
  clear b5
  go_wp2_with fail
  refine (HQQ.out _).mono ?_
  rintro e w6 ⟨rfl, b6⟩
  have HB6 : Hid (Below w.heap.size w w6) := HB5.out.trans (b6.mono HB5.out.size)
  clear b6
  cases K with
  | false =>
    go_wp2_with fail
    go_ret
    exact ⟨rfl, HB6.out⟩
  | true =>
    have HE : Hid (quoteL D = l) := HTR.out rfl
    have hdl : D.length ≤ 5000000 := by
      have h1 := congrArg List.length HE.out
      have h2 := qlen_le D
      have h3 := HLL.out.1
      unfold quoteL at h1
      simp only [List.length_cons, List.length_append, List.length_nil] at h1
      omega
    go_wp2_with fail
    refine (HQA.out D hdl _).mono ?_
    rintro e w7 ⟨rfl, b7⟩
    have HB7 : Hid (Below w.heap.size w w7) := HB6.out.trans (b7.mono HB6.out.size)
    clear b7
    rw [HE.out]
    go_wp2_with fail
    go_ret
    exact ⟨rfl, HB7.out⟩
end Go.Proofs.YtcdagmgbfihbdaaDoor
