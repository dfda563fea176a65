/-
  The contract of lives: it returns true, and turns nothing that was there.
-/
import Derived.Test.YtefmhghdehokcaaRun
import Derived.Test.YtefmhghdehokcaaNew
namespace Go.Proofs.Ytefmhghdehokcaa
open Go.RowKit
theorem acts_three {w : World} {g : Nat} (h : w.heap[g]? = some (.cells #[.int .i64 4, .int .i64 0, .int .i64 5, .int .i64 0, .int .i64 5, .int .i64 0] 54 (0, 0))) : ∀ j x, [((4 : Int), (0 : Int)), (5, 0), (5, 0)][j]? = some x → w.cell? ⟨g, 2 * j, none⟩ = some (.int .i64 x.1) ∧ w.cell? ⟨g, 2 * j + 1, none⟩ = some (.int .i64 x.2) := by
  intro j x hj
  have hl := (List.getElem?_eq_some_iff.1 hj).1
  have c := cells_of_block h
  match j, hl, hj with
  | 0, _, hj => simp at hj; subst hj; exact ⟨by rw [c]; rfl, by rw [c]; rfl⟩
  | 1, _, hj => simp at hj; subst hj; exact ⟨by rw [c]; rfl, by rw [c]; rfl⟩
  | 2, _, hj => simp at hj; subst hj; exact ⟨by rw [c]; rfl, by rw [c]; rfl⟩
  | j + 3, hl, _ => simp at hl; omega
theorem owns_mono {W : World} {base base' : Nat} {e : TypeId} {size : Nat} {v : Value} {n : Nat} {xs : List Value} (h : W.ownsRow base e size v n xs) (hb : base' ≤ base) : W.ownsRow base' e size v n xs := by
  rcases h with ⟨h1, h2 | ⟨g, cap, cur, hv, hB, hr⟩⟩
  · exact ⟨h1, Or.inl h2⟩
  · exact ⟨h1, Or.inr ⟨g, cap, cur, hv, Nat.le_trans hb hB, hr⟩⟩
set_option maxRecDepth 100000 in
set_option maxHeartbeats 8000000 in
theorem lives_any (w : World) : Calls Try.prog 21 #[] w fun r w' => r = .returned (.bool true) ∧ Below w.heap.size w w' := by
  have HN : Hid (∀ W : World, ∀ g2 g3, W.cell? ⟨g2, 0, none⟩ = some (.int .i64 3) → W.cell? ⟨g3, 0, none⟩ = some (.int .u64 9) → Calls Try.prog 25 #[.agg #[.slice none 0 0, .slice (some ⟨g2, 0, none⟩) 1 1, .slice (some ⟨g3, 0, none⟩) 1 1]] W fun r w' => ∃ p a2 c2 a3 c3, r = .returned (.tuple #[.pointer (some ⟨p, 0, none⟩), .int .i64 0]) ∧
      w'.heap[p]? = some (.cells #[.slice none 0 0, .slice (some ⟨a2, 0, none⟩) 1 c2, .slice none 0 0, .slice none 0 0, .int .i64 0, .int .u64 0, .slice (some ⟨a3, 0, none⟩) 1 c3, .int .u64 0] 83 (0, 0)) ∧ W.heap.size ≤ p ∧ a2 < p ∧ a3 < p ∧ 1 ≤ c3 ∧ w'.cell? ⟨a2, 0, none⟩ = some (.int .i64 3) ∧ w'.cell? ⟨a3, 0, none⟩ = some (.int .u64 9) ∧ w'.heap.size = p + 1 ∧ Below W.heap.size W w') := fun W g2 g3 h2 h3 => new_one g2 g3 3 9 W h2 h3 (by omega) (by omega)
  have HA : Hid (∀ (W : World) (g : Nat), W.heap[g]? = some (.cells #[.int .i64 4, .int .i64 0, .int .i64 5, .int .i64 0, .int .i64 5, .int .i64 0] 54 (0, 0)) → Calls Try.prog 23 #[.slice (some ⟨g, 0, none⟩) 3 3] W fun r w' => ∃ q g' ca', r = .returned (.pointer (some ⟨q, 0, none⟩)) ∧ W.heap.size ≤ q ∧ W.heap.size ≤ g' ∧ 3 ≤ ca' ∧ w'.heap[q]? = some (.cells #[.slice (some ⟨g', 0, none⟩) 3 ca', .slice none 0 0] 91 (0, 0)) ∧ ActsAt w' (some ⟨g', 0, none⟩) [(4, 0), (5, 0), (5, 0)] ∧ Below W.heap.size W w') := fun W g h => newActs_some g 3 3 _ W rfl (by omega) (acts_three h) (Array.getElem?_eq_some_iff.1 h).1
  go_enter Try.func21, Try.ntmps21
  go_wp2_with fail
  refine (HN.out _ _ _ (by go_simp) (by go_simp)).mono ?_
  rintro e w1 ⟨p, a2, c2, a3, c3, rfl, hp1, hpw, ha2, ha3, hc3, x2, x3, hsz, b1⟩
  have B1 : Hid (Below w.heap.size w w1) := (((Below.refl _ w).alloc (Nat.le_refl _) _).alloc (by simp) _).trans (b1.mono (by simp; omega))
  have hwp : w.heap.size ≤ p := by simp at hpw; omega
  have HP1 : Hid _ := hp1
  have X2 : Hid _ := x2
  have X3 : Hid _ := x3
  clear hp1 hpw x2 x3 b1 HN
  go_wp2_with fail
  have hal : (w1.alloc (.cells #[.int .i64 4, .int .i64 0, .int .i64 5, .int .i64 0, .int .i64 5, .int .i64 0] 54)).heap[p + 1]? = some (.cells #[.int .i64 4, .int .i64 0, .int .i64 5, .int .i64 0, .int .i64 5, .int .i64 0] 54 (0, 0)) := by
    have := World.alloc_heap_new w1 (.cells #[.int .i64 4, .int .i64 0, .int .i64 5, .int .i64 0, .int .i64 5, .int .i64 0] 54)
    rw [hsz] at this
    exact this
  refine (HA.out _ _ hal).mono ?_
  rintro e w2 ⟨q, g', ca', rfl, hqw, hgw, hca, hq2, hact, b2⟩
  have b12 : Below w1.heap.size w1 w2 := ((Below.refl _ w1).alloc (Nat.le_refl _) _).trans (b2.mono (by simp))
  have hqp : p + 1 ≤ q := by simp at hqw; omega
  have hp2 := (b12.block p (by omega)).trans HP1.out
  have y2 : w2.cell? ⟨a2, 0, none⟩ = some (.int .i64 3) := (b12.cell (p := ⟨a2, 0, none⟩) (by show a2 < w1.heap.size; omega)).trans X2.out
  have y3 : w2.cell? ⟨a3, 0, none⟩ = some (.int .u64 9) := (b12.cell (p := ⟨a3, 0, none⟩) (by show a3 < w1.heap.size; omega)).trans X3.out
  have hs2 : p + 1 ≤ w2.heap.size := by have := b12.size; omega
  have HAD : Hid _ := add_first p q (.slice none 0 0) (.slice (some ⟨a2, 0, none⟩) 1 c2) (.slice (some ⟨a3, 0, none⟩) 1 c3) (.int .i64 0) (.int .u64 0) (.int .u64 0) w2 hp2
  have B2 : Hid (Below w.heap.size w w2) := B1.out.trans (b12.mono B1.out.size)
  have HF : Hid (∀ w3 vs vw, w3.heap[p]? = some (.cells #[.slice none 0 0, .slice (some ⟨a2, 0, none⟩) 1 c2, vs, vw, .int .i64 0, .int .u64 0, .slice (some ⟨a3, 0, none⟩) 1 c3, .int .u64 0] 83 (0, 0)) → w3.ownsRow w2.heap.size 86 1 vs 1 [.iface 58 (.pointer (some ⟨q, 0, none⟩))] → w3.ownsRow w2.heap.size 3 1 vw 1 [.int .i64 0] → Kb (fun b => b = p) w2 w3 →
      L1 w3 p 0 0 [9] 0 0 { q := q, acts := [(4, 0), (5, 0), (5, 0)], aa := some ⟨g', 0, none⟩, ca := ca', vt := .slice none 0 0, told := [] } a2 c2 vs vw (.slice (some ⟨a3, 0, none⟩) 1 c3) ∧ Below w.heap.size w w3) := fun w3 vs vw h1 h2 h3 k => by
    have low : ∀ b, b < p → w3.heap[b]? = w2.heap[b]? := fun b hb => k.block b (by omega) (by omega)
    have lc : ∀ b v, b < p → w2.cell? ⟨b, 0, none⟩ = some v → w3.cell? ⟨b, 0, none⟩ = some v := fun b v hb hc => by
      simp only [World.cell?] at hc ⊢
      rw [low b hb]
      exact hc
    have tk2 : TkAt (p + 1) w2 { q := q, acts := [(4, 0), (5, 0), (5, 0)], aa := some ⟨g', 0, none⟩, ca := ca', vt := .slice none 0 0, told := [] } := ⟨hq2, hqp, hact, hca, fun e => (by cases e), World.ownsRow_nil _ _ _ _⟩
    refine ⟨⟨h1, ⟨ha2, lc _ _ ha2 y2⟩, ⟨some ⟨a3, 0, none⟩, c3, rfl, fun j v hj => ?_, hc3, fun e => (by cases e)⟩, owns_mono h2 hs2, owns_mono h3 hs2, tk2.kb k (by show ¬ q = p; omega) (fun g e => by cases e) (fun ad e => ?_)⟩, B2.out.trans (k.below B2.out.size (fun b e => by omega))⟩
    · have h0 : j = 0 := by have := (List.getElem?_eq_some_iff.1 hj).1; simp at this; omega
      subst h0
      simp at hj
      subst hj
      exact ⟨a3, 0, rfl, ha3, lc _ _ ha3 y3⟩
    · cases e
      show ¬ g' = p
      simp at hgw
      omega
  clear b2 b12 hp2 y2 y3 hq2 hact hal HP1 X2 X3 HA hqw hgw
  go_wp2_with fail
  refine Calls.mono HAD.out ?_
  rintro e w3 ⟨vs, vw, rfl, k1, k2, k3, k4⟩
  obtain ⟨hL, hB3⟩ := HF.out w3 vs vw k1 k2 k3 k4
  have HR : Hid _ := run_three p _ a2 c2 vs vw _ w3 hL rfl rfl
  have B3 : Hid _ := hB3
  clear k1 k2 k3 k4 hL hB3 HF HAD
  go_wp2_with fail
  refine Calls.mono HR.out ?_
  rintro e w4 ⟨rfl, t', vd', e1, e2, hL4, b4⟩
  have B4 : Hid (Below w.heap.size w w4) := B3.out.trans (b4.mono hwp)
  have HT : Hid _ := told_three hL4.tk _ _ _ e2
  have HL4 : Hid _ := hL4
  rw [e1] at HT
  clear e1 e2 hL4 b4 HR
  go_wp2_with fail
  refine Calls.mono HT.out ?_
  rintro e w5 ⟨g5, c5, rfl, z0, z1, z2, b5⟩
  have B5 : Hid (Below w.heap.size w w5) := B4.out.trans (b5.mono B4.out.size)
  have HD : Hid (∀ W, Below w5.heap.size w5 W → Calls Try.prog 27 #[.pointer (some ⟨p, 0, none⟩)] W fun r w' => r = .returned (.bool true) ∧ Below W.heap.size W w') := fun W k => done_gone ((HL4.out.below b5).below k)
  have HX : Hid (∀ W : World, Calls Try.prog 32 #[.int .u64 1] W fun r w' => r = .returned (.int .u64 (mixI 1)) ∧ w' = W) := fun W => rmix_any 1 W
  have hmm : (mixI 1 == mixI 1) = true := by simp
  clear b5 HT
  go_wp2_with fail
  go_region_with (first
    | (go_at_call 32; refine (HX.out _).mono ?_; rintro e w7 ⟨rfl, hw7⟩; subst hw7)
    | (go_at_call 27; refine (HD.out w5.drew (Below.refl _ _).drew).mono ?_; rintro e w6 ⟨rfl, b6⟩))
  all_goals
    go_wp2_with fail
    go_ret
    exact ⟨rfl, B5.out.drew.trans (Below.mono b6 B5.out.size)⟩
end Go.Proofs.Ytefmhghdehokcaa
