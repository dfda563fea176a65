/-
  MergeUnseen's walk.
-/
import Derived.Test.YtohamjoiohfoiaaAwake
import Derived.Test.YtohamjoiohfoiaaRBad
import Derived.Test.YtohamjoiohfoiaaUnseen
namespace Go.Proofs.Ytohamjoiohfoiaa
open Go.RowKit
theorem drpA_len (l : List Cl) (o : Nat) (b : Bool) : (drpA l o b).length ≤ l.length := by
  have h1 := drp_le l o b (allG l)
  have h2 := allG_sum l
  unfold drpA
  omega
theorem visA_len (l : List Cl) (s : Nat) : (visA l s).length ≤ l.length := by
  have h1 := visP_len l s (allG l)
  have h2 := allG_len l
  unfold visA
  omega
theorem drop_ca (x : Option Addr) (m c o : Nat) (bt : Bool) (l : List Cl) (V : World) (hx : CA V.heap.size V x l) (hl : l.length = m) (hm : m ≤ c) (hmx : m * 48 ≤ 140737488355328) :
    Calls Try.prog 21 #[.slice x m c, .int .u64 (o : Nat), .bool bt] V fun r w' => ∃ xa xc, r = .returned (.slice xa (drpA l o bt).length xc) ∧ (drpA l o bt).length ≤ xc ∧ CA w'.heap.size w' xa (drpA l o bt) ∧ Below V.heap.size V w' :=
  Calls.mono (drop_any x m c o bt l V hx hl hm hmx) (by
    rintro r w' ⟨v, rfl, hr, b⟩
    obtain ⟨xa, xc, rfl, h, hca⟩ := ca_row hr
    exact ⟨xa, xc, rfl, h, hca, b⟩)
theorem visible_ca (x : Option Addr) (m c s : Nat) (l : List Cl) (V : World) (hx : CA V.heap.size V x l) (hl : l.length = m) (hm : m ≤ c) (hmx : m * 48 ≤ 140737488355328) :
    Calls Try.prog 19 #[.slice x m c, .int .u64 (s : Nat)] V fun r w' => ∃ xa xc, r = .returned (.slice xa (visA l s).length xc) ∧ CA w'.heap.size w' xa (visA l s) ∧ Below V.heap.size V w' :=
  Calls.mono (visible_any x m c s l V hx hl hm hmx) (by
    rintro r w' ⟨v, rfl, hr, b⟩
    obtain ⟨xa, xc, rfl, h, hca⟩ := ca_row hr
    exact ⟨xa, xc, rfl, hca, b⟩)
theorem same_ca (V : World) (x y : Option Addr) (cx cy n : Nat) (L : List Cl) (hx : CA V.heap.size V x L) (hy : CA V.heap.size V y L) (hl : L.length = n) (hn : n < 1000000000000000) : Calls Try.prog 16 #[.slice x n cx, .slice y n cy] V fun r w' => r = .returned (.bool true) ∧ Below V.heap.size V w' :=
  Calls.mono (same_eq x y n cx cy L V hx hy hl hn) (by
    rintro r w' ⟨rfl, q, rfl⟩
    exact ⟨rfl, belD V q⟩)
theorem cl_eq {x c : Cl} (h1 : x.key.toList = c.key.toList) (h2 : x.seq = c.seq) (h3 : x.val.toList = c.val.toList) (h4 : x.gone = c.gone) : x = c := by
  obtain ⟨a1, a2, a3, a4⟩ := x
  obtain ⟨b1, b2, b3, b4⟩ := c
  simp only at h1 h2 h3 h4
  have ext : ∀ {p q : ByteArray}, p.toList = q.toList → p = q := fun {p q} h => by
    rw [ByteArray.toList_eq, ByteArray.toList_eq] at h
    cases p; cases q
    simpa using h
  rw [ext h1, h2, ext h3, h4]
/-- Two cells, as they are compared. -/
theorem cl_cases (x c : Cl) : (x.key.toList == c.key.toList) = false ∨ ((x.key.toList == c.key.toList) = true ∧ ((x.seq : Int) == (c.seq : Int)) = false) ∨ ((x.key.toList == c.key.toList) = true ∧ ((x.seq : Int) == (c.seq : Int)) = true ∧ (x.val.toList == c.val.toList) = false) ∨ ((x.key.toList == c.key.toList) = true ∧ ((x.seq : Int) == (c.seq : Int)) = true ∧ (x.val.toList == c.val.toList) = true ∧ (x.gone == c.gone) = false) ∨ x = c := by
  cases h1 : (x.key.toList == c.key.toList) with
  | false => exact Or.inl rfl
  | true =>
    cases h2 : ((x.seq : Int) == (c.seq : Int)) with
    | false => exact Or.inr (Or.inl ⟨rfl, rfl⟩)
    | true =>
      cases h3 : (x.val.toList == c.val.toList) with
      | false => exact Or.inr (Or.inr (Or.inl ⟨rfl, rfl, rfl⟩))
      | true =>
        cases h4 : (x.gone == c.gone) with
        | false => exact Or.inr (Or.inr (Or.inr (Or.inl ⟨rfl, rfl, rfl, rfl⟩)))
        | true =>
          simp at h1 h2 h3 h4
          exact Or.inr (Or.inr (Or.inr (Or.inr (cl_eq h1 (by omega) h3 h4))))
theorem cl_ne {x c : Cl} (h : (x.key.toList == c.key.toList) = false ∨ ((x.key.toList == c.key.toList) = true ∧ ((x.seq : Int) == (c.seq : Int)) = false) ∨ ((x.key.toList == c.key.toList) = true ∧ ((x.seq : Int) == (c.seq : Int)) = true ∧ (x.val.toList == c.val.toList) = false) ∨ ((x.key.toList == c.key.toList) = true ∧ ((x.seq : Int) == (c.seq : Int)) = true ∧ (x.val.toList == c.val.toList) = true ∧ (x.gone == c.gone) = false)) : x ≠ c := by
  rintro rfl
  simp at h
theorem muns_unsorted (a : Option Addr) (m cp o sq : Nat) (bt : Bool) (l : List Cl) (w : World) (hca : CA w.heap.size w a l) (hl : l.length = m) (hmx : m * 48 ≤ 140737488355328) (hs : sortedC l = false) :
    Calls Try.prog 8 #[.slice a m cp, .agg #[.int .u64 (o : Nat), .int .u64 (sq : Nat)], .bool bt] w fun r w' => r = .returned (.bool true) ∧ Below w.heap.size w w' := by
  have HAW : Hid (∀ V, Below w.heap.size w V → Calls Try.prog 9 #[] V fun r w' => r = .returned (.bool true) ∧ Below w.heap.size w w') := fun V hV => Calls.mono (awake_any V) (by rintro r w' ⟨rfl, b⟩; exact ⟨rfl, hV.trans (b.mono hV.size)⟩)
  have H13 : Hid (∀ V, Below w.heap.size w V → Calls Try.prog 13 #[.slice a m cp] V fun r w' => r = .returned (.bool false) ∧ Below w.heap.size w w') := fun V hV => Calls.mono (rsorted_any V.heap.size m cp a l V ((hca.below (fun b hb => hV.block b hb)).up hV.size) hl (Nat.le_refl _) (by omega)) (by rintro r w' ⟨rfl, b⟩; rw [hs]; exact ⟨rfl, hV.trans (b.mono hV.size)⟩)
  have HB0 : Hid (Below w.heap.size w (w.alloc (.cells #[.int .u64 (o : Nat), .int .u64 (sq : Nat)] 45))) := (Below.refl _ w).alloc (Nat.le_refl _) _
  clear hca hl hs hmx
  go_enter Try.func8, Try.ntmps8
  go_wp2_with fail
  go_quiet (fail)
  have HB1 : Hid (Below w.heap.size w ((w.alloc (.cells #[.int .u64 (o : Nat), .int .u64 (sq : Nat)] 45)).drewN nq)) := HB0.out.trans ((belD _ nq).mono HB0.out.size)
  go_wp2_with (first
    | (go_at_call 9; refine Calls.mono (HAW.out _ HB1.out) ?_; rintro e w1 ⟨rfl, b1⟩; have HB2 : Hid _ := b1; clear b1 HB1)
    | (go_at_call 13; refine Calls.mono (H13.out _ HB2.out) ?_; rintro e w1 ⟨rfl, b1⟩; have HB3 : Hid _ := b1; clear b1 HB2)
    | (go_at_call 9; refine Calls.mono (HAW.out _ HB3.out) ?_; rintro e w1 ⟨rfl, b1⟩; have HB4 : Hid _ := b1; clear b1 HB3))
  go_ret
  exact ⟨rfl, HB4.out⟩
end Go.Proofs.Ytohamjoiohfoiaa
