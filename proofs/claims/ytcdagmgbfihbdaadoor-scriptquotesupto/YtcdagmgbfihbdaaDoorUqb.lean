/-
  What a quoted byte reads as: unquoteByte.
-/
import Derived.Test.YtcdagmgbfihbdaaDoorQut
import Derived.Deep.RegionHeld
namespace Go.Proofs.YtcdagmgbfihbdaaDoor
open Go.RowKit
def nibI (c : UInt8) : Int := Lib.indexByte digitsL c
theorem nib_at (q : Fin 16) : nibI (hexL q.val) = (q.val : Int) := by
  revert q
  decide +kernel
theorem nib_any (c : UInt8) (W : World) : Calls Tryd.prog 36 #[.string ⟨#[48, 49, 50, 51, 52, 53, 54, 55, 56, 57, 97, 98, 99, 100, 101, 102]⟩, .int .u8 ((c.toNat : Nat) : Int)] W fun e w' => e = .returned (.int .i64 (nibI c)) ∧ w' = W := by
  have := Tryd.strings_IndexByte ⟨#[48, 49, 50, 51, 52, 53, 54, 55, 56, 57, 97, 98, 99, 100, 101, 102]⟩ ((c.toNat : Nat) : Int) W
  rw [Int.toNat_natCast, show c.toNat.toUInt8 = c from UInt8.ofNat_toNat] at this
  exact this
/-- What unquoteByte answers of these bytes. -/
def UB (s : List UInt8) (c : UInt8) (n : Nat) : Prop := 1 ≤ n ∧ n ≤ s.length ∧ ∀ x r, s = qB x ++ r → c = x ∧ n = (qB x).length
theorem qB_head (x : UInt8) : ∃ a r, qB x = a :: r := by
  unfold qB
  split
  · exact ⟨_, _, rfl⟩
  · split
    · exact ⟨_, _, rfl⟩
    · exact ⟨_, _, rfl⟩
/-- A byte that stands for itself. -/
theorem ub_self {c : UInt8} {s : List UInt8} (h : c.toNat ≠ 92) : UB (c :: s) c 1 := by
  refine ⟨Nat.le_refl _, by simp, fun x r e => ?_⟩
  unfold qB at e ⊢
  split at e
  · simp at e; exact absurd (by rw [e.1]; rfl) h
  · split at e
    · simp at e; exact absurd (by rw [e.1]; rfl) h
    · rename_i h1 h2
      rw [if_neg h1, if_neg h2]
      simp at e
      exact ⟨e.1, rfl⟩
theorem ub_one {c : UInt8} (h : c.toNat = 92) : UB [c] c 1 := by
  refine ⟨Nat.le_refl _, by simp, fun x r e => ?_⟩
  unfold qB at e ⊢
  split at e
  · simp at e
  · split at e
    · simp at e
    · rename_i h1 h2
      simp at e
      exact absurd (.inr (by rw [← e.1]; exact h)) h2
theorem ub_two {c d : UInt8} {s : List UInt8} (h : c.toNat = 92) (hd : d.toNat ≠ 120 ∨ s.length < 2) : UB (c :: d :: s) d 2 := by
  refine ⟨by omega, by simp, fun x r e => ?_⟩
  unfold qB at e ⊢
  split at e
  · simp at e
    rcases hd with hd | hd
    · exact absurd (by rw [e.2.1]; rfl) hd
    · rw [e.2.2] at hd; simp at hd; omega
  · split at e
    · rename_i h1 h2
      rw [if_neg h1, if_pos h2]
      simp at e
      exact ⟨e.2.1, rfl⟩
    · rename_i h1 h2
      simp at e
      exact absurd (.inr (by rw [← e.1]; exact h)) h2
theorem ub_four {c d p q : UInt8} {s : List UInt8} {y : UInt8} (h : c.toNat = 92) (hd : d.toNat = 120) (hy : ∀ a b : Fin 16, nibI p = (a.val : Int) → nibI q = (b.val : Int) → y.toNat = 16 * a.val + b.val) : UB (c :: d :: p :: q :: s) y 4 := by
  refine ⟨by omega, by simp, fun x r e => ?_⟩
  unfold qB at e ⊢
  split at e
  · rename_i h1
    rw [if_pos h1]
    simp at e
    have hx := x.toNat_lt
    have := hy ⟨x.toNat / 16, by omega⟩ ⟨x.toNat % 16, by omega⟩ (by rw [e.2.2.1]; exact nib_at ⟨x.toNat / 16, by omega⟩) (by rw [e.2.2.2.1]; exact nib_at ⟨x.toNat % 16, by omega⟩)
    refine ⟨UInt8.toNat_inj.1 (by rw [this]; simp only; omega), rfl⟩
  · split at e
    · rename_i h1 h2
      simp at e
      rcases h2 with h2 | h2
      · rw [← e.2.1, hd] at h2; omega
      · rw [← e.2.1, hd] at h2; omega
    · rename_i h1 h2
      simp at e
      exact absurd (.inr (by rw [← e.1]; exact h)) h2
theorem u8_of (i : Int) : ∃ y : UInt8, i % 256 = ((y.toNat : Nat) : Int) := by
  refine ⟨UInt8.ofNat (i % 256).toNat, ?_⟩
  rw [UInt8.toNat_ofNat_of_lt' (by show (i % 256).toNat < 256; omega)]
  omega
theorem or_at : ∀ a b : Fin 16, bits BinOp.or IntKind.i64 (wrap64 (((a.val : Nat) : Int) * 16)) ((b.val : Nat) : Int) % 256 = ((16 * a.val + b.val : Nat) : Int) := by decide +kernel
theorem below_drew1 {B : Nat} {a w : World} (h : Below B a w) : Below B a w.drew := ⟨h.os, h.tape, h.output, h.size, h.block⟩
theorem at_bOf {s : List UInt8} {k x : Nat} {c : UInt8} (h : s[k]? = some c) (hx : c.toNat = x) : ∀ p : k < (bOf s).size, ((bOf s)[k]'p).toNat = x := by
  intro p
  have := (List.getElem?_eq_some_iff.1 h).2
  rw [← hx, ← this]
  rfl
set_option maxRecDepth 100000 in
set_option maxHeartbeats 4000000 in
theorem unquoteByte_any (s : List UInt8) (hs : 0 < s.length) (hs2 : s.length ≤ 140737488355328) (w : World) :
    Calls Tryd.prog 22 #[.string (bOf s)] w fun e w' => ∃ (c : UInt8) (n : Nat), e = .returned (.tuple #[.int .u8 ((c.toNat : Nat) : Int), .int .i64 ((n : Nat) : Int)]) ∧ UB s c n ∧ Below w.heap.size w w' := by
  obtain ⟨n, hn⟩ : ∃ q, s.length = q := ⟨_, rfl⟩
  have hsz : (bOf s).size = n := by rw [bOf_size, hn]
  rw [hn] at hs hs2
  match s, hn with
  | [], hn => simp at hn; omega
  | c :: r, hn =>
    obtain ⟨x, hx⟩ : ∃ x, c.toNat = x := ⟨_, rfl⟩
    have HX : Hid (c.toNat = x) := hx
    have g0 := at_bOf (s := c :: r) (k := 0) rfl hx
    by_cases h1 : x = 92
    · subst h1
      match r, hn with
      | [], hn =>
        have HR : Hid (UB [c] c 1) := ub_one hx
        generalize bOf [c] = S at hsz g0 ⊢
        obtain rfl : n = 1 := by simpa using hn.symm
        clear hx hn
        go_enter Tryd.func22, Tryd.ntmps22
        go_wp2_with fail
        go_ret2
        exact ⟨c, 1, by rw [HX.out]; rfl, HR.out, Below.refl _ _⟩
      | d :: r2, hn =>
        obtain ⟨z, hz⟩ : ∃ z, d.toNat = z := ⟨_, rfl⟩
        have HZ : Hid (d.toNat = z) := hz
        have g1 := at_bOf (s := c :: d :: r2) (k := 1) rfl hz
        have hn2 : 2 ≤ n := by simp at hn; omega
        have y3 : (((n : Nat) : Int) == 1) = false := by simp; omega
        by_cases h2 : z = 120 ∧ 4 ≤ n
        · obtain ⟨h2, h4⟩ := h2
          subst h2
          have y4 : ¬ ((n : Nat) : Int) < 4 := by omega
          have z2 : (2 : Int) < ((n : Nat) : Int) := by omega
          have z3 : (3 : Int) < ((n : Nat) : Int) := by omega
          match r2, hn with
          | [], hn => simp at hn; omega
          | [_], hn => simp at hn; omega
          | p :: q :: r4, hn =>
            have g2 := at_bOf (s := c :: d :: p :: q :: r4) (k := 2) rfl (rfl : p.toNat = p.toNat)
            have g3 := at_bOf (s := c :: d :: p :: q :: r4) (k := 3) rfl (rfl : q.toNat = q.toNat)
            have HN1 : Hid (∀ W : World, _) := fun W => nib_any p W
            have HN2 : Hid (∀ W : World, _) := fun W => nib_any q W
            have HUB : Hid (∀ y : UInt8, (∀ a b : Fin 16, nibI p = (a.val : Int) → nibI q = (b.val : Int) → y.toNat = 16 * a.val + b.val) → UB (c :: d :: p :: q :: r4) y 4) := fun y hy => ub_four hx hz hy
            generalize bOf (c :: d :: p :: q :: r4) = S at hsz g0 g1 g2 g3 ⊢
            obtain ⟨P, hP⟩ : ∃ P, nibI p = P := ⟨_, rfl⟩
            obtain ⟨Q, hQ⟩ : ∃ Q, nibI q = Q := ⟨_, rfl⟩
            rw [hP, hQ] at HUB
            rw [hP] at HN1
            rw [hQ] at HN2
            clear hx hn hz hP hQ
            go_enter Tryd.func22, Tryd.ntmps22
            go_wp2_with fail
            refine wp_region_held_drew (S := fun _ => True) (by kernel_rfl) trivial (fun hHeld => ?_)
            refine wpAnyH_take (i := 0) (oi := ({ dst := some 26, op := Op.move (Operand.tmp 0), type := 9, pos := "quote.go:65", after := #[], guard := none } : Oper)) (v := ?_) rfl (by kernel_rfl) (by kernel_rfl) (by kernel_rfl) (fun _ _ _ h => h) (Or.inl ⟨by rfl, ?_⟩) (by assumption) ?_
            rotate_left
            · (intro w hSw; go_simp; try with_reducible rfl)
            try simp only [Act.put, List.setIfInBounds_toArray, List.set_cons_zero, List.set_cons_succ]
            refine wpAnyH_take (i := 1) (oi := ({ dst := some 27, op := Op.index 9 (Operand.tmp 26) (Operand.const (Value.int IntKind.i64 2)), type := 5, pos := "quote.go:65", after := #[{ on := 0, ground := Ground.data }], guard := none } : Oper)) (v := ?_) rfl (by kernel_rfl) (by kernel_rfl) (by kernel_rfl) (fun _ _ _ h => h) (Or.inl ⟨by rfl, ?_⟩) (by assumption) ?_
            rotate_left
            · (intro w hSw; go_simp; try with_reducible rfl)
            try simp only [Act.put, List.setIfInBounds_toArray, List.set_cons_zero, List.set_cons_succ]
            refine wpAnyH_take (i := 3) (oi := ({ dst := some 29, op := Op.move (Operand.tmp 0), type := 9, pos := "quote.go:65", after := #[], guard := none } : Oper)) (v := ?_) rfl (by kernel_rfl) (by kernel_rfl) (by kernel_rfl) (fun _ _ _ h => h) (Or.inl ⟨by rfl, ?_⟩) (by assumption) ?_
            rotate_left
            · (intro w hSw; go_simp; try with_reducible rfl)
            try simp only [Act.put, List.setIfInBounds_toArray, List.set_cons_zero, List.set_cons_succ]
            refine wpAnyH_take (i := 4) (oi := ({ dst := some 30, op := Op.index 9 (Operand.tmp 29) (Operand.const (Value.int IntKind.i64 3)), type := 5, pos := "quote.go:65", after := #[{ on := 3, ground := Ground.data }], guard := none } : Oper)) (v := ?_) rfl (by kernel_rfl) (by kernel_rfl) (by kernel_rfl) (fun _ _ _ h => h) (Or.inl ⟨by rfl, ?_⟩) (by assumption) ?_
            rotate_left
            · (intro w hSw; go_simp; try with_reducible rfl)
            try simp only [Act.put, List.setIfInBounds_toArray, List.set_cons_zero, List.set_cons_succ]
            refine wpAnyH_ready (rs := [2]) (by kernel_rfl) (by simp) ?_
            refine (AllReadyH.cons rfl (fun K hK => ?_) AllReadyH.nil)
            go_simp
            go_wp2_with (go_at_call 36; refine (HN1.out _).mono ?_; rintro e w2 ⟨rfl, rfl⟩)
            refine hK.out _ _ trivial (fun hHeld => ?_)
            clear hK K
            refine wpAnyH_ready (rs := [5]) (by kernel_rfl) (by simp) ?_
            refine (AllReadyH.cons rfl (fun K hK => ?_) AllReadyH.nil)
            go_simp
            go_wp2_with (go_at_call 36; refine (HN2.out _).mono ?_; rintro e w5 ⟨rfl, rfl⟩)
            refine hK.out _ _ trivial (fun hHeld => ?_)
            clear hK K
            refine wpAnyH_take (i := 6) (oi := ({ dst := some 4, op := Op.assign (Operand.tmp 28), type := 3, pos := "quote.go:65", after := #[{ on := 2, ground := Ground.data }, { on := 5, ground := Ground.chain }, { on := 0, ground := Ground.phase }, { on := 1, ground := Ground.phase }, { on := 2, ground := Ground.phase }, { on := 3, ground := Ground.textOnly Departure.lateStores }, { on := 4, ground := Ground.textOnly Departure.lateStores }, { on := 5, ground := Ground.textOnly Departure.lateStoresUnsure }], guard := none } : Oper)) (v := ?_) rfl (by kernel_rfl) (by kernel_rfl) (by kernel_rfl) (fun _ _ _ h => h) (Or.inl ⟨by rfl, ?_⟩) (by assumption) ?_
            rotate_left
            · (intro w hSw; go_simp; try with_reducible rfl)
            try simp only [Act.put, List.setIfInBounds_toArray, List.set_cons_zero, List.set_cons_succ]
            refine wpAnyH_take (i := 7) (oi := ({ dst := some 5, op := Op.assign (Operand.tmp 31), type := 3, pos := "quote.go:65", after := #[{ on := 5, ground := Ground.data }, { on := 6, ground := Ground.chain }, { on := 0, ground := Ground.phase }, { on := 1, ground := Ground.phase }, { on := 2, ground := Ground.phase }, { on := 3, ground := Ground.phase }, { on := 4, ground := Ground.phase }, { on := 5, ground := Ground.phase }, { on := 6, ground := Ground.phase }], guard := none } : Oper)) (v := ?_) rfl (by kernel_rfl) (by kernel_rfl) (by kernel_rfl) (fun _ _ _ h => h) (Or.inl ⟨by rfl, ?_⟩) (by assumption) ?_
            rotate_left
            · (intro w hSw; go_simp; try with_reducible rfl)
            refine wpAnyH_done (by kernel_rfl) ?_ _
            go_wp2_with fail
            go_ret2
            obtain ⟨y, hy⟩ := u8_of (bits BinOp.or IntKind.i64 (wrap64 (P * 16)) Q)
            exact ⟨y, 4, by rw [← hy]; rfl, HUB.out y (fun a b ha hb => by subst ha hb; rw [or_at] at hy; exact Int.ofNat.inj hy.symm), below_drew1 (Below.refl _ _)⟩
        · have HR : Hid (UB (c :: d :: r2) d 2) := ub_two hx (by simp at hn; rw [hz]; omega)
          have hsp : (¬ ((z : Nat) : Int) = 120) ∨ (z = 120 ∧ ((n : Nat) : Int) < 4) := by
            by_cases h : z = 120
            · exact .inr ⟨h, by omega⟩
            · exact .inl (by omega)
          generalize bOf (c :: d :: r2) = S at hsz g0 g1 ⊢
          clear hx hn h2 hz
          rcases hsp with y2 | ⟨rfl, y4⟩
          · skip
            go_enter Tryd.func22, Tryd.ntmps22
            go_wp2_with fail
            go_ret2
            exact ⟨d, 2, by rw [HZ.out]; rfl, HR.out, Below.refl _ _⟩
          · skip
            go_enter Tryd.func22, Tryd.ntmps22
            go_wp2_with fail
            go_ret2
            exact ⟨d, 2, by rw [HZ.out]; rfl, HR.out, Below.refl _ _⟩
    · have HR : Hid (UB (c :: r) c 1) := ub_self (by rw [hx]; exact h1)
      have y1 : ¬ ((x : Nat) : Int) = 92 := by omega
      generalize bOf (c :: r) = S at hsz g0 ⊢
      clear hx h1 hn
      go_enter Tryd.func22, Tryd.ntmps22
      go_wp2_with fail
      go_ret2
      exact ⟨c, 1, by rw [HX.out]; rfl, HR.out, Below.refl _ _⟩
end Go.Proofs.YtcdagmgbfihbdaaDoor
