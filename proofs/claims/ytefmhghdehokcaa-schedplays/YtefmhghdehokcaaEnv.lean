/-
  What a task sees: the clock, and draws.
-/
import Derived.Test.YtefmhghdehokcaaWake
namespace Go.Proofs.Ytefmhghdehokcaa
open Go.RowKit
theorem block_set {w : World} {b : Nat} {c : Array Value} {t : TypeId} {f : Nat × Nat} (h : w.heap[b]? = some (.cells c t f)) (o : Nat) (u : Value) :
    (w.setCell ⟨b, o, none⟩ u).heap[b]? = some (.cells (c.setIfInBounds o u) t f) := by
  have hlt := (Array.getElem?_eq_some_iff.1 h).1
  have h' : w.heap[b] = .cells c t f := by simpa [Array.getElem?_eq_getElem hlt] using h
  show (w.heap.modify b _)[b]? = _
  rw [Array.getElem?_eq_getElem (by simpa using hlt), Array.getElem_modify_self, h']
  rfl
theorem kb_one (w : World) (p o : Nat) (v : Value) : Kb (fun b => b = p) w (w.setCell ⟨p, o, none⟩ v) := Kb.setCell (S := fun b => b = p) (Kb.refl _ _) rfl o v
theorem RowAt.kb {p : Nat} {w w' : World} {v : Value} {l : List Value} (h : RowAt p w v l) (hp : p < w.heap.size) {S : Nat → Prop} (hS : ∀ b, S b → p ≤ b) (k : Kb S w w') : RowAt p w' v l := by
  obtain ⟨a, c, h1, h2, h3⟩ := h
  exact ⟨a, c, h1, h2.below (fun b hb => k.block b (by omega) (fun e => by have := hS b e; omega)), h3⟩
theorem envNow_any (p : Nat) (v0 v1 v2 v3 v4 v6 v7 : Value) (now : Int) (w : World) (hp : w.heap[p]? = some (.cells #[v0, v1, v2, v3, v4, .int .u64 now, v6, v7] 83 (0, 0))) :
    Calls Try.prog 28 #[.pointer (some ⟨p, 5, none⟩)] w fun r w' => r = .returned (.int .u64 now) ∧ w' = w := by
  have c5 := cells_of_block hp 5
  simp only [List.getElem?_toArray, List.getElem?_cons_succ, List.getElem?_cons_zero] at c5
  clear hp
  go_enter Try.func28, Try.ntmps28
  go_wp2
  go_ret
  exact ⟨rfl, rfl⟩
/-- What is drawn, and what is left behind it. -/
def drawI (draws : List Int) (fu : Nat) : Int := match draws with
  | d :: _ => d
  | [] => mixI ((fu + 1 : Nat) : Int)
def fuN (draws : List Int) (fu : Nat) : Nat := match draws with
  | _ :: _ => fu
  | [] => fu + 1
theorem draw_any (p : Nat) (v0 v1 v2 v3 v4 v5 vd : Value) (draws : List Int) (fu : Nat) (w : World) (hp : w.heap[p]? = some (.cells #[v0, v1, v2, v3, v4, v5, vd, .int .u64 (fu : Nat)] 83 (0, 0))) (hd : RowAt p w vd (draws.map nV)) (hdl : draws.length ≤ 65536) (hfu : fu < 1000000) :
    Calls Try.prog 29 #[.pointer (some ⟨p, 5, none⟩)] w fun r w' => ∃ vd', r = .returned (.int .u64 (drawI draws fu)) ∧ w'.heap[p]? = some (.cells #[v0, v1, v2, v3, v4, v5, vd', .int .u64 (fuN draws fu : Nat)] 83 (0, 0)) ∧ RowAt p w' vd' (draws.tail.map nV) ∧ Kb (fun b => b = p) w w' := by
  obtain ⟨a, c, rfl, ha, hc, h0⟩ := hd
  rw [List.length_map] at hc
  have c6 := cells_of_block hp 6
  have c7 := cells_of_block hp 7
  simp only [List.getElem?_toArray, List.getElem?_cons_succ, List.getElem?_cons_zero] at c6 c7
  rw [List.length_map] at c6
  have f : ∀ o, w.frozen? ⟨p, o, none⟩ = false := fun o => by simp [World.frozen?, hp]
  have f6 := f 6
  have f7 := f 7
  have HP : Hid _ := hp
  have HA : Hid _ := ha
  cases draws with
  | nil =>
    simp only [List.length_nil] at c6
    have HMX : Hid _ := mix_any (fu + 1)
    clear hp ha f
    go_enter Try.func29, Try.ntmps29
    go_wp2_with fail
    refine (HMX.out _).mono ?_
    rintro e w1 ⟨rfl, hw1⟩
    subst hw1
    go_wp2_with fail
    go_ret
    have hK : Kb (fun b => b = p) w (w.setCell ⟨p, 7, none⟩ (.int .u64 ((fu : Int) + 1))) := kb_one _ _ _ _
    refine ⟨_, rfl, block_set HP.out 7 _, ⟨a, c, rfl, VA.nil _ _ _, hc, h0⟩, hK⟩
  | cons d ds =>
    obtain ⟨b, off, rfl, hb, hcell⟩ := ha 0 (nV d) rfl
    simp only [nV] at hcell
    rw [Nat.add_zero] at hcell
    obtain ⟨n, hn⟩ : ∃ n, ds.length = n := ⟨_, rfl⟩
    rw [List.length_cons, hn] at c6 hc hdl
    have HN : Hid _ := hn
    clear hp ha f hn
    by_cases hc1 : c = 1
    · subst hc1
      obtain rfl : n = 0 := by omega
      go_enter Try.func29, Try.ntmps29
      go_wp2_with fail
      go_ret
      have hds : ds = [] := List.eq_nil_of_length_eq_zero HN.out
      subst hds
      exact ⟨_, rfl, block_set HP.out 6 _, ⟨_, _, rfl, VA.nil _ _ _, Nat.le_refl _, fun e => by cases e⟩, kb_one _ _ _ _⟩
    · have hc2 : 1 < c := by omega
      have HC : Hid (n + 1 ≤ c) := hc
      go_enter Try.func29, Try.ntmps29
      go_wp2_with fail
      go_ret
      have hK : Kb (fun b => b = p) w (w.setCell ⟨p, 6, none⟩ (.slice (some ⟨b, off + 1, none⟩) n (c - 1))) := kb_one _ _ _ _
      have hps : p < w.heap.size := (Array.getElem?_eq_some_iff.1 HP.out).1
      refine ⟨_, rfl, block_set HP.out 6 _, ⟨some ⟨b, off + 1, none⟩, c - 1, by rw [List.length_map, List.tail_cons, HN.out], ?_, by rw [List.length_map, List.tail_cons, HN.out]; have := HC.out; omega, fun e => by cases e⟩, hK⟩
      intro j v hj
      obtain ⟨b', off', e, hb', hc'⟩ := HA.out (j + 1) v (by simpa using hj)
      cases e
      refine ⟨b, off + 1, rfl, hb', ?_⟩
      rw [show off + 1 + j = off + (j + 1) by omega]
      have h2 := hK.block b (by omega) (by omega)
      simp only [World.cell?] at hc' ⊢
      rw [h2]
      exact hc'
end Go.Proofs.Ytefmhghdehokcaa
