/-
  The contract of fill.
-/
import Derived.Test.YtbpfggpljfpfcaaDoorIxf
import Derived.Test.YtbpfggpljfpfcaaDoorRed
namespace Go.Proofs.YtbpfggpljfpfcaaDoor
open Go.RowKit
theorem part1_any (g : Nat) (w : World) : Calls Tryd.prog 49 #[.pointer (some ⟨g, 0, none⟩)] w fun e w' => e = .returned (.pointer (some ⟨g, 1, none⟩)) ∧ w' = w := by
  go_enter Tryd.func49, Tryd.ntmps49
  go_wp2_with fail
  go_ret
  exact ⟨rfl, rfl⟩
theorem part2_any (g : Nat) (w : World) : Calls Tryd.prog 50 #[.pointer (some ⟨g, 0, none⟩)] w fun e w' => e = .returned (.pointer (some ⟨g, 2, none⟩)) ∧ w' = w := by
  go_enter Tryd.func50, Tryd.ntmps50
  go_wp2_with fail
  go_ret
  exact ⟨rfl, rfl⟩
def fillQ (r : Rule) (u : List UInt8) : Rt := if r.part = 1 then ⟨r.kind, u, [], 0, r.me⟩ else if r.part = 2 then ⟨r.kind, [], u, 0, r.me⟩ else ⟨r.kind, [], [], 0, r.me⟩
/-- The paths' holes. -/
theorem holes : ∀ r ∈ rulesT, (r.part = 0 ∧ ∀ (k : Nat) p, r.path[k]? = some p → p ≠ []) ∨ ((r.part = 1 ∨ r.part = 2) ∧ 2 ≤ r.path.length ∧ ∀ (k : Nat) p, r.path[k]? = some p → (p = [] ↔ k = 1)) := by
  have g : ∀ r ∈ rulesT, (r.part = 0 ∧ r.path.all (fun p => !p.isEmpty) = true) ∨ ((r.part = 1 ∨ r.part = 2) ∧ ∃ a t, r.path = a :: [] :: t ∧ a.isEmpty = false ∧ t.all (fun p => !p.isEmpty) = true) := by
    intro r hr
    simp only [rulesT, List.mem_cons, List.not_mem_nil, or_false] at hr
    rcases hr with rfl | rfl | rfl | rfl | rfl | rfl | rfl | rfl | rfl | rfl
    · exact Or.inl ⟨rfl, by decide⟩
    · exact Or.inr ⟨Or.inl rfl, _, _, rfl, by decide, by decide⟩
    · exact Or.inr ⟨Or.inl rfl, _, _, rfl, by decide, by decide⟩
    · exact Or.inr ⟨Or.inl rfl, _, _, rfl, by decide, by decide⟩
    · exact Or.inr ⟨Or.inr rfl, _, _, rfl, by decide, by decide⟩
    · exact Or.inl ⟨rfl, by decide⟩
    · exact Or.inr ⟨Or.inr rfl, _, _, rfl, by decide, by decide⟩
    · exact Or.inl ⟨rfl, by decide⟩
    · exact Or.inl ⟨rfl, by decide⟩
    · exact Or.inl ⟨rfl, by decide⟩
  have ne : ∀ {p : List UInt8}, p.isEmpty = false → p ≠ [] := fun h e => by rw [e] at h; cases h
  intro r hr
  rcases g r hr with ⟨h1, h2⟩ | ⟨h1, a, t, h2, h3, h4⟩
  · refine Or.inl ⟨h1, fun k p hp => ne ?_⟩
    have := List.all_eq_true.1 h2 p (List.mem_of_getElem? hp)
    simpa using this
  · refine Or.inr ⟨h1, by rw [h2]; simp, fun k p hp => ?_⟩
    rw [h2] at hp
    match k with
    | 0 =>
      simp only [List.getElem?_cons_zero, Option.some.injEq] at hp
      subst hp
      exact ⟨fun e => absurd e (ne h3), fun e => by omega⟩
    | 1 =>
      simp only [List.getElem?_cons_succ, List.getElem?_cons_zero, Option.some.injEq] at hp
      subst hp
      simp
    | k + 2 =>
      simp only [List.getElem?_cons_succ] at hp
      have h5 := List.all_eq_true.1 h4 p (List.mem_of_getElem? hp)
      have h6 : p ≠ [] := ne (by simpa using h5)
      exact ⟨fun e => absurd e h6, fun e => by omega⟩
theorem nonempty_false {p : List UInt8} (h : p ≠ []) : (bOf p).toList.isEmpty = false := by
  rw [bOf_empty]
  cases p with
  | nil => exact absurd rfl h
  | cons _ _ => rfl
theorem XB.tok {W : World} {g : Nat} {k : Int} {a b : List UInt8} {f : Int} {me : Bool} (h : XB W g ⟨k, a, b, f, me⟩) (u : List UInt8) : XB (W.setCell ⟨g, 1, none⟩ (.string (bOf u))) g ⟨k, u, b, f, me⟩ := set_block h 1 _
theorem XB.usr {W : World} {g : Nat} {k : Int} {a b : List UInt8} {f : Int} {me : Bool} (h : XB W g ⟨k, a, b, f, me⟩) (u : List UInt8) : XB (W.setCell ⟨g, 2, none⟩ (.string (bOf u))) g ⟨k, a, u, f, me⟩ := set_block h 2 _
def set5 (W : World) (g : Nat) (v0 v1 v2 v3 v4 : Value) : World := ((((W.setCell ⟨g, 0, none⟩ v0).setCell ⟨g, 1, none⟩ v1).setCell ⟨g, 2, none⟩ v2).setCell ⟨g, 3, none⟩ v3).setCell ⟨g, 4, none⟩ v4
/-- A route is stored. -/
def setX (W : World) (g : Nat) (x : Rt) : World := set5 W g (.int .i64 x.kind) (.string (bOf x.token)) (.string (bOf x.user)) (.int .i64 x.frm) (.bool x.me)
theorem XB.set {W : World} {g : Nat} {y : Rt} (h : XB W g y) (x : Rt) : XB (setX W g x) g x := by
  have := set_block (set_block (set_block (set_block (set_block h 0 (.int .i64 x.kind)) 1 (.string (bOf x.token))) 2 (.string (bOf x.user))) 3 (.int .i64 x.frm)) 4 (.bool x.me)
  simpa [XB, rtA, setX, set5] using this
theorem setX_below {B : Nat} {a W : World} (h : Below B a W) {g : Nat} (hg : B ≤ g) (x : Rt) : Below B a (setX W g x) :=
  ((((h.setCell (p := ⟨g, 0, none⟩) hg _).setCell (p := ⟨g, 1, none⟩) hg _).setCell (p := ⟨g, 2, none⟩) hg _).setCell (p := ⟨g, 3, none⟩) hg _).setCell (p := ⟨g, 4, none⟩) hg _
theorem XB.free {W : World} {g : Nat} {x : Rt} (h : XB W g x) : W.frozen? ⟨g, 0, none⟩ = false ∧ W.frozen? ⟨g, 1, none⟩ = false ∧ W.frozen? ⟨g, 2, none⟩ = false ∧ W.frozen? ⟨g, 3, none⟩ = false ∧ W.frozen? ⟨g, 4, none⟩ = false :=
  ⟨free_of_block h _, free_of_block h _, free_of_block h _, free_of_block h _, free_of_block h _⟩
/-- fill's three blocks: the rule, the result, the route that is filled. -/
def FR (w : World) (cs : Array Value) (x : Rt) (wr : World) : Prop := wr.heap[w.heap.size]? = some (.cells cs 50 (0, 0)) ∧ XB wr (w.heap.size + 1) rt0 ∧ XB wr (w.heap.size + 1 + 1) x ∧ Below w.heap.size w wr
theorem alloc_old {w : World} {b : Nat} {o o' : Obj} (h : w.heap[b]? = some o) : (w.alloc o').heap[b]? = some o := by
  rw [← h]
  exact (below_new w o').block b (Array.getElem?_eq_some_iff.1 h).1
theorem fr_start (w : World) (cs : Array Value) (kind : Int) (me : Bool) : FR w cs ⟨kind, [], [], 0, me⟩ (((w.alloc (.cells cs 50)).alloc (.cells #[.int .i64 0, .string ⟨#[]⟩, .string ⟨#[]⟩, .int .i64 0, .bool false] 23)).alloc (.cells #[.int .i64 kind, .string ⟨#[]⟩, .string ⟨#[]⟩, .int .i64 0, .bool me] 23)) := by
  have e1 : (w.alloc (.cells cs 50)).heap.size = w.heap.size + 1 := by simp
  refine ⟨alloc_old (alloc_old (block_alloc_at _ _)), ?_, ?_, ?_⟩
  · refine alloc_old ?_
    rw [← e1]
    exact block_alloc_at _ _
  · have e2 : ((w.alloc (.cells cs 50)).alloc (.cells #[.int .i64 0, .string ⟨#[]⟩, .string ⟨#[]⟩, .int .i64 0, .bool false] 23)).heap.size = w.heap.size + 1 + 1 := by simp
    rw [← e2]
    exact block_alloc_at _ _
  · exact (((Below.refl _ _).alloc (Nat.le_refl _) _).alloc (by simp) _).alloc (by simp; omega) _
theorem FR.drew {w : World} {cs : Array Value} {x : Rt} {wr : World} (h : FR w cs x wr) : FR w cs x wr.drew := ⟨h.1, h.2.1, h.2.2.1, ⟨h.2.2.2.os, h.2.2.2.tape, h.2.2.2.output, h.2.2.2.size, h.2.2.2.block⟩⟩
theorem FR.tok {w : World} {cs : Array Value} {k : Int} {a b : List UInt8} {f : Int} {me : Bool} {wr : World} (h : FR w cs ⟨k, a, b, f, me⟩ wr) (u : List UInt8) : FR w cs ⟨k, u, b, f, me⟩ (wr.setCell ⟨w.heap.size + 1 + 1, 1, none⟩ (.string (bOf u))) :=
  ⟨(Below.heap_setCell _ _ _ _ (show w.heap.size ≠ w.heap.size + 1 + 1 by omega)).trans h.1, (Below.heap_setCell _ _ _ _ (show w.heap.size + 1 ≠ w.heap.size + 1 + 1 by omega)).trans h.2.1, h.2.2.1.tok u, h.2.2.2.setCell (p := ⟨w.heap.size + 1 + 1, 1, none⟩) (by show w.heap.size ≤ w.heap.size + 1 + 1; omega) _⟩
theorem FR.usr {w : World} {cs : Array Value} {k : Int} {a b : List UInt8} {f : Int} {me : Bool} {wr : World} (h : FR w cs ⟨k, a, b, f, me⟩ wr) (u : List UInt8) : FR w cs ⟨k, a, u, f, me⟩ (wr.setCell ⟨w.heap.size + 1 + 1, 2, none⟩ (.string (bOf u))) :=
  ⟨(Below.heap_setCell _ _ _ _ (show w.heap.size ≠ w.heap.size + 1 + 1 by omega)).trans h.1, (Below.heap_setCell _ _ _ _ (show w.heap.size + 1 ≠ w.heap.size + 1 + 1 by omega)).trans h.2.1, h.2.2.1.usr u, h.2.2.2.setCell (p := ⟨w.heap.size + 1 + 1, 2, none⟩) (by show w.heap.size ≤ w.heap.size + 1 + 1; omega) _⟩
theorem FR.fin {w : World} {cs : Array Value} {x : Rt} {wr : World} (h : FR w cs x wr) : XB (setX wr (w.heap.size + 1) x) (w.heap.size + 1) x ∧ Below w.heap.size w (setX wr (w.heap.size + 1) x) :=
  ⟨h.2.1.set x, setX_below h.2.2.2 (by omega) x⟩
set_option maxRecDepth 20000 in
set_option maxHeartbeats 16000000 in
theorem fill_0 (meth : List UInt8) (P : List (List UInt8)) (kind : Int) (me : Bool) (pb fr fw n : Nat) (L : List (List UInt8)) (a : Option Addr) (c : Nat) (_ : List UInt8) (w : World) (HPA : Hid (TextsAt w (some ⟨pb, 0, none⟩) (P.map bOf))) (_ : Hid (TextsAt w a (L.map bOf))) (HN : Hid (P.length = n)) (_ : Hid (L.length = n)) (hpl : n ≤ 1000) (HH : Hid (∀ (k : Nat) p, P[k]? = some p → p ≠ [])) :
    Calls Tryd.prog 23 #[.agg #[.string (bOf meth), .slice (some ⟨pb, 0, none⟩) n n, .int .i64 kind, .string ⟨#[]⟩, .string ⟨#[]⟩, .int .i64 0, .bool me, .nilFunc, .func (.func fr) #[] #[], .func (.func fw) #[] #[]], .slice a n c] w fun e w' => e = .returned (rtV ⟨kind, [], [], 0, me⟩) ∧ Below w.heap.size w w' := by
  have HS : Hid _ := fr_start w #[.string (bOf meth), .slice (some ⟨pb, 0, none⟩) n n, .int .i64 kind, .string ⟨#[]⟩, .string ⟨#[]⟩, .int .i64 0, .bool me, .nilFunc, .func (.func fr) #[] #[], .func (.func fw) #[] #[]] kind me
  go_enter Tryd.func23, Tryd.ntmps23
  go_wp2_with fail
  obtain ⟨CS, hCS⟩ : ∃ CS : Array Value, (#[.string (bOf meth), .slice (some ⟨pb, 0, none⟩) n n, .int .i64 kind, .string ⟨#[]⟩, .string ⟨#[]⟩, .int .i64 0, .bool me, .nilFunc, .func (.func fr) #[] #[], .func (.func fw) #[] #[]] : Array Value) = CS := ⟨_, rfl⟩
  rw [hCS] at HS ⊢
  have d7 : ∀ W x, FR w CS x W → W.cell? ⟨w.heap.size, 7, none⟩ = some (.nilFunc) := fun W x h => by rw [← hCS] at h; exact cell_of_block h.1 rfl
  have HD7 : Hid _ := d7
  clear d7 hCS
  go_loopw [13] (fun i wr => ∃ k : Nat, k ≤ n ∧ i = .int .i64 (k : Nat) ∧ Hid (FR w CS (⟨kind, [], [], 0, me⟩ : Rt) wr)) (fun i _ => n - (intOf i).toNat)
  case atStart => exact ⟨0, by omega, rfl, HS.out⟩
  case round =>
    obtain ⟨k, hk, rfl, HF⟩ := hrel
    by_cases hlt : k < n
    · have hlz : (k : Int) < (n : Int) := by omega
      obtain ⟨p, hp⟩ : ∃ p, P[k]? = some p := ⟨_, List.getElem?_eq_getElem (by rw [HN.out]; exact hlt)⟩
      obtain ⟨gb, off, hbo, _, c0⟩ := (HPA.out.below HF.out.2.2.2) k (bOf p) (by rw [List.getElem?_map, hp]; rfl)
      obtain ⟨rfl, rfl⟩ : pb = gb ∧ 0 = off := by cases hbo; exact ⟨rfl, rfl⟩
      rw [Nat.zero_add] at c0
      have hpe : (bOf p).toList.isEmpty = false := nonempty_false (HH.out k p hp)
      clear hp hbo
      go_wp2_with fail
      go_roundw
      case rel => exact ⟨k + 1, by omega, by go_num, HF.out⟩
      case measure => simp [intOf]; omega
    · have hlz : ¬ (k : Int) < (n : Int) := by omega
      have HFR : Hid (FR w CS ⟨kind, [], [], 0, me⟩ wr) := HF.out
      obtain ⟨k0, k1, k2, k3, k4⟩ := HFR.out.2.2.1.cells
      obtain ⟨z0, z1, z2, z3, z4⟩ := HFR.out.2.1.cells
      obtain ⟨f0, f1, f2, f3, f4⟩ := HFR.out.2.1.free
      obtain ⟨W9, hW9⟩ : ∃ W9, setX wr (w.heap.size + 1) ⟨kind, [], [], 0, me⟩ = W9 := ⟨_, rfl⟩
      obtain ⟨hx9, hb9⟩ := HFR.out.fin
      rw [hW9] at hx9 hb9
      have HX9 : Hid (XB W9 (w.heap.size + 1) ⟨kind, [], [], 0, me⟩) := hx9
      have HB9 : Hid (Below w.heap.size w W9) := hb9
      unfold setX set5 at hW9
      clear hx9 hb9
      go_wp2_with fail
      try rw [hW9]
      clear k0 k1 k2 k3 k4 z0 z1 z2 z3 z4 f0 f1 f2 f3 f4 hW9
      obtain ⟨k0, k1, k2, k3, k4⟩ := HX9.out.cells
      refine bodyPost_ret (v := rtV ⟨kind, [], [], 0, me⟩) ?_ rfl ⟨rfl, HB9.out⟩
      rw [results_cell1 rfl]
      unfold rtV rtA
      go_simp
set_option maxRecDepth 20000 in
set_option maxHeartbeats 16000000 in
theorem fill_1 (meth : List UInt8) (P : List (List UInt8)) (kind : Int) (me : Bool) (pb fr fw n : Nat) (L : List (List UInt8)) (a : Option Addr) (c : Nat) (u : List UInt8) (w : World) (HPA : Hid (TextsAt w (some ⟨pb, 0, none⟩) (P.map bOf))) (HTX : Hid (TextsAt w a (L.map bOf))) (HN : Hid (P.length = n)) (_ : Hid (L.length = n)) (hpl : n ≤ 1000) (h2n : 2 ≤ n) (HU : Hid (L[1]? = some u)) (HH : Hid (∀ (k : Nat) p, P[k]? = some p → (p = [] ↔ k = 1))) :
    Calls Tryd.prog 23 #[.agg #[.string (bOf meth), .slice (some ⟨pb, 0, none⟩) n n, .int .i64 kind, .string ⟨#[]⟩, .string ⟨#[]⟩, .int .i64 0, .bool me, .func (.func 49) #[] #[], .func (.func fr) #[] #[], .func (.func fw) #[] #[]], .slice a n c] w fun e w' => e = .returned (rtV ⟨kind, u, [], 0, me⟩) ∧ Below w.heap.size w w' := by
  have HS : Hid _ := fr_start w #[.string (bOf meth), .slice (some ⟨pb, 0, none⟩) n n, .int .i64 kind, .string ⟨#[]⟩, .string ⟨#[]⟩, .int .i64 0, .bool me, .func (.func 49) #[] #[], .func (.func fr) #[] #[], .func (.func fw) #[] #[]] kind me
  go_enter Tryd.func23, Tryd.ntmps23
  go_wp2_with fail
  obtain ⟨CS, hCS⟩ : ∃ CS : Array Value, (#[.string (bOf meth), .slice (some ⟨pb, 0, none⟩) n n, .int .i64 kind, .string ⟨#[]⟩, .string ⟨#[]⟩, .int .i64 0, .bool me, .func (.func 49) #[] #[], .func (.func fr) #[] #[], .func (.func fw) #[] #[]] : Array Value) = CS := ⟨_, rfl⟩
  rw [hCS] at HS ⊢
  have d7 : ∀ W x, FR w CS x W → W.cell? ⟨w.heap.size, 7, none⟩ = some (.func (.func 49) #[] #[]) := fun W x h => by rw [← hCS] at h; exact cell_of_block h.1 rfl
  have HD7 : Hid _ := d7
  clear d7 hCS
  go_loopw [13] (fun i wr => ∃ k : Nat, k ≤ n ∧ i = .int .i64 (k : Nat) ∧ Hid (FR w CS (if 2 ≤ k then (⟨kind, u, [], 0, me⟩ : Rt) else ⟨kind, [], [], 0, me⟩) wr)) (fun i _ => n - (intOf i).toNat)
  case atStart => exact ⟨0, by omega, rfl, HS.out⟩
  case round =>
    obtain ⟨k, hk, rfl, HF⟩ := hrel
    by_cases hlt : k < n
    · have hlz : (k : Int) < (n : Int) := by omega
      obtain ⟨p, hp⟩ : ∃ p, P[k]? = some p := ⟨_, List.getElem?_eq_getElem (by rw [HN.out]; exact hlt)⟩
      obtain ⟨gb, off, hbo, _, c0⟩ := (HPA.out.below HF.out.2.2.2) k (bOf p) (by rw [List.getElem?_map, hp]; rfl)
      obtain ⟨rfl, rfl⟩ : pb = gb ∧ 0 = off := by cases hbo; exact ⟨rfl, rfl⟩
      rw [Nat.zero_add] at c0
      by_cases hk1 : k = 1
      · obtain rfl : p = [] := (HH.out k p hp).2 hk1
        have hpe : (bOf []).toList.isEmpty = true := bOf_empty []
        have hF := HF.out
        rw [if_neg (by omega)] at hF
        have HFB : Hid (FR w CS ⟨kind, [], [], 0, me⟩ wr) := hF
        obtain ⟨ga, of2, hbo2, _, e0⟩ := (HTX.out.below hF.2.2.2) k (bOf u) (by rw [List.getElem?_map, hk1, HU.out]; rfl)
        subst hbo2
        have c7 := HD7.out wr _ hF
        obtain ⟨_, x1, x2, _, _⟩ := hF.2.2.1.cells
        obtain ⟨_, y1, y2, _, _⟩ := hF.2.2.1.free
        have H1 : Hid (∀ W : World, _) := fun W => part1_any (w.heap.size + 1 + 1) W
        have HF2 : Hid (FR w CS (if 2 ≤ k + 1 then (⟨kind, u, [], 0, me⟩ : Rt) else ⟨kind, [], [], 0, me⟩) (wr.setCell ⟨w.heap.size + 1 + 1, 1, none⟩ (.string (bOf u)))) := by
          rw [Hid, if_pos (by omega)]
          exact hF.tok u
        have HF3 : Hid _ := FR.drew HF2.out
        clear hp hbo hF hk1
        go_wp2_with fail
        go_region_with (go_at_call 49; refine (H1.out _).mono ?_; rintro e w2 ⟨rfl, hw2⟩; rw [hw2]; clear hw2 w2)
        all_goals
          go_wp2_with fail
          go_roundw
          case rel => exact ⟨k + 1, by omega, by go_num, by first | exact HF2.out | exact HF3.out⟩
          case measure => simp [intOf]; omega
      · have HF2 : Hid (FR w CS (if 2 ≤ k + 1 then (⟨kind, u, [], 0, me⟩ : Rt) else ⟨kind, [], [], 0, me⟩) wr) := by
          have hF := HF.out
          by_cases h2 : 2 ≤ k
          · rw [if_pos h2] at hF; rw [Hid, if_pos (by omega)]; exact hF
          · rw [if_neg h2] at hF; rw [Hid, if_neg (by omega)]; exact hF
        have hpe : (bOf p).toList.isEmpty = false := nonempty_false (fun e => hk1 ((HH.out k p hp).1 e))
        clear hp hbo
        go_wp2_with fail
        go_roundw
        case rel => exact ⟨k + 1, by omega, by go_num, HF2.out⟩
        case measure => simp [intOf]; omega
    · have hlz : ¬ (k : Int) < (n : Int) := by omega
      have HFE := HF.out
      rw [if_pos (by omega)] at HFE
      have HFR : Hid (FR w CS ⟨kind, u, [], 0, me⟩ wr) := HFE
      clear HFE
      obtain ⟨k0, k1, k2, k3, k4⟩ := HFR.out.2.2.1.cells
      obtain ⟨z0, z1, z2, z3, z4⟩ := HFR.out.2.1.cells
      obtain ⟨f0, f1, f2, f3, f4⟩ := HFR.out.2.1.free
      obtain ⟨W9, hW9⟩ : ∃ W9, setX wr (w.heap.size + 1) ⟨kind, u, [], 0, me⟩ = W9 := ⟨_, rfl⟩
      obtain ⟨hx9, hb9⟩ := HFR.out.fin
      rw [hW9] at hx9 hb9
      have HX9 : Hid (XB W9 (w.heap.size + 1) ⟨kind, u, [], 0, me⟩) := hx9
      have HB9 : Hid (Below w.heap.size w W9) := hb9
      unfold setX set5 at hW9
      clear hx9 hb9
      go_wp2_with fail
      try rw [hW9]
      clear k0 k1 k2 k3 k4 z0 z1 z2 z3 z4 f0 f1 f2 f3 f4 hW9
      obtain ⟨k0, k1, k2, k3, k4⟩ := HX9.out.cells
      refine bodyPost_ret (v := rtV ⟨kind, u, [], 0, me⟩) ?_ rfl ⟨rfl, HB9.out⟩
      rw [results_cell1 rfl]
      unfold rtV rtA
      go_simp
set_option maxRecDepth 20000 in
set_option maxHeartbeats 16000000 in
theorem fill_2 (meth : List UInt8) (P : List (List UInt8)) (kind : Int) (me : Bool) (pb fr fw n : Nat) (L : List (List UInt8)) (a : Option Addr) (c : Nat) (u : List UInt8) (w : World) (HPA : Hid (TextsAt w (some ⟨pb, 0, none⟩) (P.map bOf))) (HTX : Hid (TextsAt w a (L.map bOf))) (HN : Hid (P.length = n)) (_ : Hid (L.length = n)) (hpl : n ≤ 1000) (h2n : 2 ≤ n) (HU : Hid (L[1]? = some u)) (HH : Hid (∀ (k : Nat) p, P[k]? = some p → (p = [] ↔ k = 1))) :
    Calls Tryd.prog 23 #[.agg #[.string (bOf meth), .slice (some ⟨pb, 0, none⟩) n n, .int .i64 kind, .string ⟨#[]⟩, .string ⟨#[]⟩, .int .i64 0, .bool me, .func (.func 50) #[] #[], .func (.func fr) #[] #[], .func (.func fw) #[] #[]], .slice a n c] w fun e w' => e = .returned (rtV ⟨kind, [], u, 0, me⟩) ∧ Below w.heap.size w w' := by
  have HS : Hid _ := fr_start w #[.string (bOf meth), .slice (some ⟨pb, 0, none⟩) n n, .int .i64 kind, .string ⟨#[]⟩, .string ⟨#[]⟩, .int .i64 0, .bool me, .func (.func 50) #[] #[], .func (.func fr) #[] #[], .func (.func fw) #[] #[]] kind me
  go_enter Tryd.func23, Tryd.ntmps23
  go_wp2_with fail
  obtain ⟨CS, hCS⟩ : ∃ CS : Array Value, (#[.string (bOf meth), .slice (some ⟨pb, 0, none⟩) n n, .int .i64 kind, .string ⟨#[]⟩, .string ⟨#[]⟩, .int .i64 0, .bool me, .func (.func 50) #[] #[], .func (.func fr) #[] #[], .func (.func fw) #[] #[]] : Array Value) = CS := ⟨_, rfl⟩
  rw [hCS] at HS ⊢
  have d7 : ∀ W x, FR w CS x W → W.cell? ⟨w.heap.size, 7, none⟩ = some (.func (.func 50) #[] #[]) := fun W x h => by rw [← hCS] at h; exact cell_of_block h.1 rfl
  have HD7 : Hid _ := d7
  clear d7 hCS
  go_loopw [13] (fun i wr => ∃ k : Nat, k ≤ n ∧ i = .int .i64 (k : Nat) ∧ Hid (FR w CS (if 2 ≤ k then (⟨kind, [], u, 0, me⟩ : Rt) else ⟨kind, [], [], 0, me⟩) wr)) (fun i _ => n - (intOf i).toNat)
  case atStart => exact ⟨0, by omega, rfl, HS.out⟩
  case round =>
    obtain ⟨k, hk, rfl, HF⟩ := hrel
    by_cases hlt : k < n
    · have hlz : (k : Int) < (n : Int) := by omega
      obtain ⟨p, hp⟩ : ∃ p, P[k]? = some p := ⟨_, List.getElem?_eq_getElem (by rw [HN.out]; exact hlt)⟩
      obtain ⟨gb, off, hbo, _, c0⟩ := (HPA.out.below HF.out.2.2.2) k (bOf p) (by rw [List.getElem?_map, hp]; rfl)
      obtain ⟨rfl, rfl⟩ : pb = gb ∧ 0 = off := by cases hbo; exact ⟨rfl, rfl⟩
      rw [Nat.zero_add] at c0
      by_cases hk1 : k = 1
      · obtain rfl : p = [] := (HH.out k p hp).2 hk1
        have hpe : (bOf []).toList.isEmpty = true := bOf_empty []
        have hF := HF.out
        rw [if_neg (by omega)] at hF
        have HFB : Hid (FR w CS ⟨kind, [], [], 0, me⟩ wr) := hF
        obtain ⟨ga, of2, hbo2, _, e0⟩ := (HTX.out.below hF.2.2.2) k (bOf u) (by rw [List.getElem?_map, hk1, HU.out]; rfl)
        subst hbo2
        have c7 := HD7.out wr _ hF
        obtain ⟨_, x1, x2, _, _⟩ := hF.2.2.1.cells
        obtain ⟨_, y1, y2, _, _⟩ := hF.2.2.1.free
        have H1 : Hid (∀ W : World, _) := fun W => part2_any (w.heap.size + 1 + 1) W
        have HF2 : Hid (FR w CS (if 2 ≤ k + 1 then (⟨kind, [], u, 0, me⟩ : Rt) else ⟨kind, [], [], 0, me⟩) (wr.setCell ⟨w.heap.size + 1 + 1, 2, none⟩ (.string (bOf u)))) := by
          rw [Hid, if_pos (by omega)]
          exact hF.usr u
        have HF3 : Hid _ := FR.drew HF2.out
        clear hp hbo hF hk1
        go_wp2_with fail
        go_region_with (go_at_call 50; refine (H1.out _).mono ?_; rintro e w2 ⟨rfl, hw2⟩; rw [hw2]; clear hw2 w2)
        all_goals
          go_wp2_with fail
          go_roundw
          case rel => exact ⟨k + 1, by omega, by go_num, by first | exact HF2.out | exact HF3.out⟩
          case measure => simp [intOf]; omega
      · have HF2 : Hid (FR w CS (if 2 ≤ k + 1 then (⟨kind, [], u, 0, me⟩ : Rt) else ⟨kind, [], [], 0, me⟩) wr) := by
          have hF := HF.out
          by_cases h2 : 2 ≤ k
          · rw [if_pos h2] at hF; rw [Hid, if_pos (by omega)]; exact hF
          · rw [if_neg h2] at hF; rw [Hid, if_neg (by omega)]; exact hF
        have hpe : (bOf p).toList.isEmpty = false := nonempty_false (fun e => hk1 ((HH.out k p hp).1 e))
        clear hp hbo
        go_wp2_with fail
        go_roundw
        case rel => exact ⟨k + 1, by omega, by go_num, HF2.out⟩
        case measure => simp [intOf]; omega
    · have hlz : ¬ (k : Int) < (n : Int) := by omega
      have HFE := HF.out
      rw [if_pos (by omega)] at HFE
      have HFR : Hid (FR w CS ⟨kind, [], u, 0, me⟩ wr) := HFE
      clear HFE
      obtain ⟨k0, k1, k2, k3, k4⟩ := HFR.out.2.2.1.cells
      obtain ⟨z0, z1, z2, z3, z4⟩ := HFR.out.2.1.cells
      obtain ⟨f0, f1, f2, f3, f4⟩ := HFR.out.2.1.free
      obtain ⟨W9, hW9⟩ : ∃ W9, setX wr (w.heap.size + 1) ⟨kind, [], u, 0, me⟩ = W9 := ⟨_, rfl⟩
      obtain ⟨hx9, hb9⟩ := HFR.out.fin
      rw [hW9] at hx9 hb9
      have HX9 : Hid (XB W9 (w.heap.size + 1) ⟨kind, [], u, 0, me⟩) := hx9
      have HB9 : Hid (Below w.heap.size w W9) := hb9
      unfold setX set5 at hW9
      clear hx9 hb9
      go_wp2_with fail
      try rw [hW9]
      clear k0 k1 k2 k3 k4 z0 z1 z2 z3 z4 f0 f1 f2 f3 f4 hW9
      obtain ⟨k0, k1, k2, k3, k4⟩ := HX9.out.cells
      refine bodyPost_ret (v := rtV ⟨kind, [], u, 0, me⟩) ?_ rfl ⟨rfl, HB9.out⟩
      rw [results_cell1 rfl]
      unfold rtV rtA
      go_simp
theorem fill_gen (x : Rule × Nat) (hx : x.1 ∈ rulesT) (fr fw : Nat) (L : List (List UInt8)) (a : Option Addr) (c : Nat) (u : List UInt8) (w : World) (hp : PathAt w x) (ht : TextsAt w a (L.map bOf)) (hl : L.length = x.1.path.length) (hpl : x.1.path.length ≤ 1000) (hu : x.1.part ≠ 0 → L[1]? = some u) :
    Calls Tryd.prog 23 #[.agg #[.string (bOf x.1.meth), .slice (some ⟨x.2, 0, none⟩) x.1.path.length x.1.path.length, .int .i64 x.1.kind, .string ⟨#[]⟩, .string ⟨#[]⟩, .int .i64 0, .bool x.1.me, pfV (partF x.1.part), .func (.func fr) #[] #[], .func (.func fw) #[] #[]], .slice a x.1.path.length c] w fun e w' => e = .returned (rtV (fillQ x.1 u)) ∧ Below w.heap.size w w' := by
  obtain ⟨⟨meth, P, kind, me, part⟩, pb⟩ := x
  simp only at hl hpl hu ⊢
  rcases holes _ hx with ⟨h0, hh⟩ | ⟨(h0 | h0), h2, hh⟩
  · simp only at h0 hh
    subst h0
    exact fill_0 meth P kind me pb fr fw P.length L a c u w hp ht rfl hl hpl hh
  · simp only at h0 hh h2
    subst h0
    exact fill_1 meth P kind me pb fr fw P.length L a c u w hp ht rfl hl hpl h2 (hu (by decide)) hh
  · simp only at h0 hh h2
    subst h0
    exact fill_2 meth P kind me pb fr fw P.length L a c u w hp ht rfl hl hpl h2 (hu (by decide)) hh
end Go.Proofs.YtbpfggpljfpfcaaDoor
