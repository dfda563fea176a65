/-
  The twin's digit; what a text that is no quoted one lacks.
-/
import Derived.Test.YtcdagmgbfihbdaaDoorUnq
namespace Go.Proofs.YtcdagmgbfihbdaaDoor
open Go.RowKit
theorem nib_dec : ∀ c : Fin 256, nibI (UInt8.ofNat c.val) = if 48 ≤ c.val ∧ c.val ≤ 57 then (c.val : Int) - 48 else if 97 ≤ c.val ∧ c.val ≤ 102 then (c.val : Int) - 97 + 10 else -1 := by decide +kernel
theorem nib_eq (c : UInt8) : nibI c = if 48 ≤ c.toNat ∧ c.toNat ≤ 57 then (c.toNat : Int) - 48 else if 97 ≤ c.toNat ∧ c.toNat ≤ 102 then (c.toNat : Int) - 97 + 10 else -1 := by
  have := nib_dec ⟨c.toNat, c.toNat_lt⟩
  simpa using this
theorem nib_bound (c : UInt8) : nibI c = -1 ∨ ∃ a : Fin 16, nibI c = (a.val : Int) := by
  rw [nib_eq]
  split
  · exact .inr ⟨⟨c.toNat - 48, by omega⟩, by simp only; omega⟩
  · split
    · exact .inr ⟨⟨c.toNat - 97 + 10, by omega⟩, by simp only; omega⟩
    · exact .inl rfl
set_option maxRecDepth 100000 in
set_option maxHeartbeats 4000000 in
theorem digit_any (c : UInt8) (w : World) : Calls Tryd.prog 23 #[.int .u8 ((c.toNat : Nat) : Int)] w fun e w' => e = .returned (.int .i64 (nibI c)) ∧ w' = w := by
  have hn := nib_eq c
  have hlt := c.toNat_lt
  obtain ⟨x, hx⟩ : ∃ x, c.toNat = x := ⟨_, rfl⟩
  rw [hx] at hn hlt ⊢
  obtain ⟨N, hN⟩ : ∃ N, nibI c = N := ⟨_, rfl⟩
  rw [hN] at hn ⊢
  clear hN hx
  by_cases h1 : 48 ≤ x ∧ x ≤ 57
  · rw [if_pos h1] at hn
    have a1 : (48 : Int) ≤ (x : Int) := by omega
    have a2 : (x : Int) ≤ 57 := by omega
    have a3 : IntKind.u8.wrap ((x : Int) - 48) = (x : Int) - 48 := by rw [IntKind.wrap_u8]; omega
    have a4 : IntKind.i64.wrap ((x : Int) - 48) = (x : Int) - 48 := by rw [IntKind.wrap_i64]; omega
    clear h1
    go_enter Tryd.func23, Tryd.ntmps23
    go_wp2_with fail
    go_ret
    exact ⟨by first | rfl | (rw [hn]; rfl), rfl⟩
  · rw [if_neg h1] at hn
    have hs : (¬ (48 : Int) ≤ (x : Int)) ∨ ((48 : Int) ≤ (x : Int) ∧ ¬ (x : Int) ≤ 57) := by omega
    by_cases h2 : 97 ≤ x ∧ x ≤ 102
    · rw [if_pos h2] at hn
      have a0 : (48 : Int) ≤ (x : Int) := by omega
      have a1 : (97 : Int) ≤ (x : Int) := by omega
      have a2 : (x : Int) ≤ 102 := by omega
      have a9 : ¬ (x : Int) ≤ 57 := by omega
      have a3 : IntKind.u8.wrap ((x : Int) - 97) = (x : Int) - 97 := by rw [IntKind.wrap_u8]; omega
      have a4 : IntKind.i64.wrap ((x : Int) - 97) = (x : Int) - 97 := by rw [IntKind.wrap_i64]; omega
      have a5 : wrap64 ((x : Int) - 97 + 10) = (x : Int) - 97 + 10 := by unfold wrap64; omega
      clear h1 h2 hs
      go_enter Tryd.func23, Tryd.ntmps23
      go_wp2_with fail
      go_ret
      exact ⟨by first | rfl | (rw [hn]; rfl), rfl⟩
    · rw [if_neg h2] at hn
      have ht : (¬ (97 : Int) ≤ (x : Int)) ∨ ((97 : Int) ≤ (x : Int) ∧ ¬ (x : Int) ≤ 102) := by omega
      clear h1 h2
      rcases hs with b1 | ⟨b1, b2⟩ <;> rcases ht with d1 | ⟨d1, d2⟩
      · go_enter Tryd.func23, Tryd.ntmps23
        go_wp2_with fail
        go_ret
        exact ⟨by first | rfl | (rw [hn]; rfl), rfl⟩
      · omega
      · go_enter Tryd.func23, Tryd.ntmps23
        go_wp2_with fail
        go_ret
        exact ⟨by first | rfl | (rw [hn]; rfl), rfl⟩
      · go_enter Tryd.func23, Tryd.ntmps23
        go_wp2_with fail
        go_ret
        exact ⟨by first | rfl | (rw [hn]; rfl), rfl⟩
theorem UI.none {l d r : List UInt8} (h : UI l d r) (h0 : r ≠ []) (hn : ∀ y q, r ≠ qB y ++ q) : ∀ x, quoteL x ≠ l := fun x hx => by
  obtain ⟨k, rfl, rfl⟩ := h x hx
  cases hk : x.drop k with
  | nil => rw [hk] at h0; exact h0 rfl
  | cons y q => rw [hk, List.flatMap_cons] at hn; exact hn y _ rfl
theorem no_one {c : UInt8} (h : c.toNat = 92) : ∀ y q, [c] ≠ qB y ++ q := fun y q e => by
  unfold qB at e
  split at e
  · simp at e
  · split at e
    · simp at e
    · rename_i h1 h2
      simp at e
      exact h2 (.inr (by rw [← e.1]; exact h))
theorem no_hex {c d : UInt8} {r : List UInt8} (h : c.toNat = 92) (hd : d.toNat = 120) (hr : r.length < 2 ∨ ∃ p q s, r = p :: q :: s ∧ (nibI p < 0 ∨ nibI q < 0)) : ∀ y q, c :: d :: r ≠ qB y ++ q := fun y q e => by
  unfold qB at e
  have hy := y.toNat_lt
  split at e
  · simp at e
    rcases hr with hr | ⟨p, p2, s, rfl, hr⟩
    · rw [e.2.2] at hr; simp at hr; omega
    · simp at e
      have n1 := nib_at ⟨y.toNat / 16, by omega⟩
      have n2 := nib_at ⟨y.toNat % 16, by omega⟩
      simp only at n1 n2
      rw [← e.2.2.1] at n1
      rw [← e.2.2.2.1] at n2
      omega
  · split at e
    · rename_i h1 h2
      simp at e
      rw [← e.2.1, hd] at h2
      omega
    · rename_i h1 h2
      simp at e
      exact h2 (.inr (by rw [← e.1]; exact h))
/-- What stands from the k-th byte on, short of the closing mark. -/
def midL (l : List UInt8) (n k : Nat) : List UInt8 := (l.drop k).take (n - 1 - k)
theorem mid_drop (l : List UInt8) (n k j : Nat) : (midL l n k).drop j = midL l n (k + j) := by
  unfold midL
  rw [List.drop_take, List.drop_drop]
  congr 1
  omega
theorem mid_nil {l : List UInt8} {n k : Nat} (h : n - 1 ≤ k) : midL l n k = [] := by
  unfold midL
  rw [show n - 1 - k = 0 by omega]
  rfl
theorem mid_len {l : List UInt8} {n k : Nat} (hn : l.length = n) : (midL l n k).length = n - 1 - k := by
  unfold midL
  rw [List.length_take, List.length_drop]
  omega
theorem mid_cons {l : List UInt8} {n k : Nat} {c : UInt8} (hc : l[k]? = some c) (h : k < n - 1) : midL l n k = c :: midL l n (k + 1) := by
  unfold midL
  have : l.drop k = c :: l.drop (k + 1) := by
    have hl := (List.getElem?_eq_some_iff.1 hc)
    rw [List.drop_eq_getElem_cons hl.1, hl.2]
  rw [this, show n - 1 - k = (n - 1 - (k + 1)) + 1 by omega, List.take_succ_cons]
theorem quote_ends {x l : List UInt8} {n : Nat} (h : quoteL x = l) (hn : l.length = n) : l[0]? = some 34 ∧ l[n - 1]? = some 34 := by
  subst h hn
  unfold quoteL
  refine ⟨rfl, ?_⟩
  simp
end Go.Proofs.YtcdagmgbfihbdaaDoor
