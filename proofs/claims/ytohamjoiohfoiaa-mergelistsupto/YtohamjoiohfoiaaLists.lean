/-
  Lists of cells as a row in memory; whether all are in order.
-/
import Derived.Test.YtohamjoiohfoiaaSorted
namespace Go.Proofs.Ytohamjoiohfoiaa
open Go.RowKit
/-- A list of cells as a slice. -/
structure Sl where
  a : Option Addr
  c : Nat
  cs : List Cl
def slV (s : Sl) : Value := .slice s.a s.cs.length s.c
/-- Lists from a slice's address on, all in blocks below B. -/
def LA (B : Nat) (w : World) (a : Option Addr) (ls : List Sl) : Prop :=
  ∀ j s, ls[j]? = some s → (∃ b off, a = some ⟨b, off, none⟩ ∧ b < B ∧ w.cell? ⟨b, off + j, none⟩ = some (slV s)) ∧ CA B w s.a s.cs ∧ s.cs.length ≤ s.c ∧ s.cs.length < 1000000000000000
theorem LA.below {B : Nat} {w w' : World} {a : Option Addr} {ls : List Sl} (h : LA B w a ls) (k : ∀ b, b < B → w'.heap[b]? = w.heap[b]?) : LA B w' a ls := by
  intro j s hj
  obtain ⟨⟨b, off, ha, hb, h0⟩, h1, h2⟩ := h j s hj
  exact ⟨⟨b, off, ha, hb, by simp only [World.cell?] at h0 ⊢; rw [k b hb]; exact h0⟩, h1.below k, h2⟩
theorem LA.up {B B' : Nat} {w : World} {a : Option Addr} {ls : List Sl} (h : LA B w a ls) (hB : B ≤ B') : LA B' w a ls := by
  intro j s hj
  obtain ⟨⟨b, off, ha, hb, h0⟩, h1, h2⟩ := h j s hj
  exact ⟨⟨b, off, ha, by omega, h0⟩, h1.up hB, h2⟩
theorem LA.nil (B : Nat) (w : World) (a : Option Addr) : LA B w a [] := fun j v h => by simp at h
/-- Is each list in order? -/
def allS (ls : List Sl) : Bool := ls.all fun s => sortedC s.cs
theorem allS_true {ls : List Sl} (h : ∀ (j : Nat) s, ls[j]? = some s → sortedC s.cs = true) : allS ls = true := by
  rw [allS, List.all_eq_true]
  intro s hs
  obtain ⟨j, hj⟩ := List.getElem?_of_mem hs
  exact h j s hj
theorem allS_false {ls : List Sl} {j : Nat} {s : Sl} (h : ls[j]? = some s) (e : sortedC s.cs = false) : allS ls = false := by
  rw [allS, List.all_eq_false]
  exact ⟨s, List.mem_of_getElem? h, by rw [e]; decide⟩
set_option maxRecDepth 100000 in
set_option maxHeartbeats 2000000 in
theorem allSorted_any (B n c : Nat) (a : Option Addr) (ls : List Sl) (w : World) (h : LA B w a ls) (hl : ls.length = n) (hB : B ≤ w.heap.size) (hn : n < 1000000000000000) :
    Calls Try.prog 32 #[.slice a n c] w fun r w' => r = .returned (.bool (allS ls)) ∧ Below w.heap.size w w' := by
  have HC : Hid _ := h
  have HL : Hid _ := hl
  clear h hl
  go_enter Try.func32, Try.ntmps32
  go_wp2_with fail
  go_loopw [7] (fun i wr => ∃ (k : Nat), k ≤ n ∧ i = .int .i64 (k : Nat) ∧ Hid (∀ (j : Nat) s, j < k → ls[j]? = some s → sortedC s.cs = true) ∧ Hid (Below w.heap.size w wr)) (fun i _ => n - (intOf i).toNat)
  case atStart => exact ⟨0, by omega, rfl, fun j s h => by omega, Below.refl _ _⟩
  case round =>
    obtain ⟨k, hkn, rfl, HE, HB⟩ := hrel
    by_cases hlt : k < n
    · obtain ⟨s, hs⟩ : ∃ s, ls[k]? = some s := ⟨ls[k]'(by rw [HL.out]; exact hlt), List.getElem?_eq_getElem _⟩
      have HC2 : LA B wr a ls := LA.below HC.out (fun b hb => HB.out.block b (by omega))
      obtain ⟨⟨b, off, rfl, _, x0⟩, hca, _, hsn⟩ := HC2 k s hs
      have HX : Hid _ := hs
      have HS : Hid (∀ W, Below wr.heap.size wr W → Calls Try.prog 12 #[.slice s.a s.cs.length s.c] W fun r w' => r = .returned (.bool (sortedC s.cs)) ∧ Below W.heap.size W w') := fun W hW => sorted_any B _ _ _ _ W (hca.below (fun b hb => hW.block b (by have := HB.out.size; omega))) rfl (by have := HB.out.size; have := hW.size; omega) hsn
      rw [slV] at x0
      obtain ⟨sa, hsa⟩ : ∃ sa, s.a = sa := ⟨_, rfl⟩
      obtain ⟨sn, hsl⟩ : ∃ sn, s.cs.length = sn := ⟨_, rfl⟩
      obtain ⟨sc, hsc⟩ : ∃ sc, s.c = sc := ⟨_, rfl⟩
      rw [hsa, hsl, hsc] at HS x0
      clear hs HC2 hca hsn hsa hsl hsc
      cases hls : sortedC s.cs with
      | true =>
        rw [hls] at HS
        have HT : Hid _ := hls
        clear hls
        go_wp2_with (go_at_call 12; refine Calls.mono (HS.out _ (Below.refl _ _)) ?_; rintro e w3 ⟨rfl, b3⟩)
        have HB3 : Hid (Below w.heap.size w w3) := HB.out.trans (b3.mono HB.out.size)
        clear b3
        go_wp2_with fail
        go_roundw
        case rel =>
          refine ⟨k + 1, by omega, by go_num, fun j s' h1 h2 => ?_, HB3.out⟩
          by_cases hj : j < k
          · exact HE.out j s' hj h2
          · obtain rfl : j = k := by omega
            rw [HX.out] at h2
            cases h2
            exact HT.out
        case measure => simp [intOf]; omega
      | false =>
        rw [hls] at HS
        have HT : Hid (allS ls = false) := allS_false HX.out hls
        clear hls
        go_wp2_with (go_at_call 12; refine Calls.mono (HS.out _ (Below.refl _ _)) ?_; rintro e w3 ⟨rfl, b3⟩)
        have HB3 : Hid (Below w.heap.size w w3) := HB.out.trans (b3.mono HB.out.size)
        clear b3
        go_wp2_with fail
        go_ret
        exact ⟨by rw [HT.out]; rfl, HB3.out⟩
    · have HT : Hid (allS ls = true) := allS_true (fun j s h => HE.out j s (by have := (List.getElem?_eq_some_iff.1 h).1; have := HL.out; omega) h)
      go_wp2_with fail
      go_ret
      exact ⟨by rw [HT.out]; rfl, HB.out⟩
end Go.Proofs.Ytohamjoiohfoiaa
