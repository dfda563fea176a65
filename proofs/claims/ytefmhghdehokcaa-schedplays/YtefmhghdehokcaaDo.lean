/-
  What a task does: an act as if others came behind it.
-/
import Derived.Test.YtefmhghdehokcaaEnv
import Derived.Deep.AppendLies
import Derived.Deep.RegionLaw
namespace Go.Proofs.Ytefmhghdehokcaa
open Go.RowKit
theorem do_wait (q e : Value) (n : Int) (w : World) : Calls Try.prog 46 #[q, .agg #[.int .i64 2, .int .i64 n], e] w fun r w' => r = .returned (.agg #[.bool false, .int .i64 n, .slice none 0 0]) ∧ Below w.heap.size w w' := by
  go_enter Try.func46, Try.ntmps46
  go_wp2
  refine ⟨rfl, _, by simp [results, Try.f46, go_sem], rfl, ?_⟩
  exact ((Below.refl _ _).alloc (Nat.le_refl _) _).alloc (by simp) _
theorem do_wake (q e : Value) (n : Int) (w : World) : Calls Try.prog 46 #[q, .agg #[.int .i64 3, .int .i64 n], e] w fun r w' => ∃ g, r = .returned (.agg #[.bool false, .int .i64 0, .slice (some ⟨g, 0, none⟩) 1 1]) ∧ w.heap.size ≤ g ∧ w'.cell? ⟨g, 0, none⟩ = some (.int .i64 n) ∧ Below w.heap.size w w' := by
  go_enter Try.func46, Try.ntmps46
  go_wp2
  refine ⟨rfl, _, by simp [results, Try.f46, go_sem], w.heap.size + 1 + 1, rfl, by omega, ?_, (((Below.refl _ _).alloc (Nat.le_refl _) _).alloc (by simp) _).alloc (by simp; omega) _⟩
  go_simp
theorem do_go (q e : Value) (k n : Int) (w : World) (h2 : k ≠ 2) (h3 : k ≠ 3) (h4 : k ≠ 4) (h5 : k ≠ 5) : Calls Try.prog 46 #[q, .agg #[.int .i64 k, .int .i64 n], e] w fun r w' => r = .returned (.agg #[.bool false, .int .i64 0, .slice none 0 0]) ∧ Below w.heap.size w w' := by
  have e2 : (k == 2) = false := by simpa using h2
  have e3 : (k == 3) = false := by simpa using h3
  have e4 : (k == 4) = false := by simpa using h4
  have e5 : (k == 5) = false := by simpa using h5
  go_enter Try.func46, Try.ntmps46
  go_wp2
  refine ⟨rfl, _, by simp [results, Try.f46, go_sem], rfl, ?_⟩
  exact ((Below.refl _ _).alloc (Nat.le_refl _) _).alloc (by simp) _
theorem grownBy_undrew {w w' : World} {row : Option Nat} (h : w.drew.grownBy w' row) : w.grownBy w' row := ⟨h.os, h.tape, h.output, h.size, h.block⟩
/-- What is the same behind an act that takes a number down. -/
structure Took (p q B : Nat) (vt : Value) (w w' : World) (cs : Array Value) (va vt' : Value) (told : List Int) : Prop where
  hp : w'.heap[p]? = some (.cells cs 83 (0, 0))
  hq : w'.heap[q]? = some (.cells #[va, vt'] 91 (0, 0))
  told : w'.ownsRow B 45 1 vt' told.length (told.map nV)
  lies : vt'.ownBlock = vt.ownBlock ∨ ∃ g, vt'.ownBlock = some g ∧ w.heap.size ≤ g
  kb : Kb (fun b => b = p ∨ b = q ∨ vt.ownBlock = some b) w w'
/-- Behind the append and the store of a row that was taken down to. -/
theorem took_of {p q B k H0 g cap : Nat} {a : Option Addr} {c : Nat} {va : Value} {cs : Array Value} {w W1 w2 : World} {o : Obj} {told : List Int} {x : Int} {S : Nat → Prop} (hS : ∀ b, S b → b = p)
    (hH0 : w.heap.size = H0) (hk : Kb S w W1) (hs : H0 + 2 ≤ W1.heap.size) (hp1 : W1.heap[p]? = some (.cells cs 83 (0, 0))) (hq1 : W1.heap[q]? = some (.cells #[va, .slice a k c] 91 (0, 0))) (hr1 : W1.heap[H0 + 1]? = some (.cells #[.bool false, .int .i64 0, .slice none 0 0] 64 (0, 0)))
    (hkl : told.length = k) (ht1 : W1.ownsRow B 45 1 (.slice a k c) k (told.map nV)) (_hps : p < H0) (hqs : q < H0) (hpq : p ≠ q) (_hlt : ∀ b, (Value.slice a k c).ownBlock = some b → b < H0)
    (hown2 : w2.ownsRow B 45 1 (.slice (some ⟨g, 0, none⟩) (k + 1) cap) (k + 1) (told.map nV ++ [nV x])) (hg2 : (W1.alloc o).grownBy w2 (Value.slice a k c).ownBlock) (hat : (Value.slice a k c).ownBlock = some g ∨ g = W1.heap.size + 1) :
    (w2.setCell ⟨q, 1, none⟩ (.slice (some ⟨g, 0, none⟩) (k + 1) cap)).heap[H0 + 1]? = some (.cells #[.bool false, .int .i64 0, .slice none 0 0] 64 (0, 0)) ∧
    Took p q B (.slice a k c) w (w2.setCell ⟨q, 1, none⟩ (.slice (some ⟨g, 0, none⟩) (k + 1) cap)) cs va (.slice (some ⟨g, 0, none⟩) (k + 1) cap) (told ++ [x]) := by
  have typ : ∀ b (cs' : Array Value) (t : TypeId) (f : Nat × Nat), W1.heap[b]? = some (.cells cs' t f) → t ≠ 45 → (Value.slice a k c).ownBlock ≠ some b := fun b cs' t f hb ht e => by
    rcases ht1.2 with ⟨ev, _⟩ | ⟨g', cap', cur, ev, _, hh, _⟩
    · rw [ev] at e; cases e
    · rw [ev] at e
      simp only [Value.ownBlock, Option.some.injEq] at e
      subst e
      rw [hb] at hh
      simp at hh
      exact ht hh.2.1
  have far : ∀ b o', W1.heap[b]? = some o' → (Value.slice a k c).ownBlock ≠ some b → w2.heap[b]? = some o' := fun b o' hb hne =>
    (hg2.block b (by have := (Array.getElem?_eq_some_iff.1 hb).1; simp; omega) (fun e => hne e.symm)).trans ((Below.heap_alloc _ _ _ (Array.getElem?_eq_some_iff.1 hb).1).trans hb)
  have hp2 := far p _ hp1 (typ p _ _ _ hp1 (by decide))
  have hq2 := far q _ hq1 (typ q _ _ _ hq1 (by decide))
  have hr2 := far (H0 + 1) _ hr1 (typ _ _ _ _ hr1 (by decide))
  have hgq : g ≠ q := fun e => by
    rcases hat with h | h
    · exact typ q _ _ _ hq1 (by decide) (by rw [h, e])
    · omega
  refine ⟨(Below.heap_setCell _ _ _ _ (by show H0 + 1 ≠ q; omega)).trans hr2, ?_⟩
  refine ⟨(Below.heap_setCell _ _ _ _ (by show p ≠ q; exact hpq)).trans hp2, ?_, ?_, ?_, ?_⟩
  · exact block_set hq2 1 _
  · rw [List.length_append, List.map_append, hkl]
    exact owns_same hown2 (fun b e => Below.heap_setCell _ _ _ _ (by
      show b ≠ q
      simp only [Value.ownBlock, Option.some.injEq] at e
      omega))
  · rcases hat with h | h
    · exact Or.inl h.symm
    · exact Or.inr ⟨g, rfl, by omega⟩
  · have k1 : Kb (fun b => b = p ∨ b = q ∨ (Value.slice a k c).ownBlock = some b) w W1 := hk.mono (fun b e => Or.inl (hS b e))
    exact ((k1.alloc o).grown hg2 (fun r e => Or.inl (Or.inr (Or.inr e)))).setCell (Or.inr (Or.inl rfl)) _ _
theorem Took.set {p q B : Nat} {vt : Value} {w w' : World} {cs : Array Value} {va vt' : Value} {told : List Int} (h : Took p q B vt w w' cs va vt' told) {b : Nat} (hb : w.heap.size ≤ b) (hp : p < w.heap.size) (hq : q < w.heap.size) (ht : vt'.ownBlock ≠ some b) (o : Nat) (v : Value) : Took p q B vt w (w'.setCell ⟨b, o, none⟩ v) cs va vt' told where
  hp := (Below.heap_setCell _ _ _ _ (by show p ≠ b; omega)).trans h.hp
  hq := (Below.heap_setCell _ _ _ _ (by show q ≠ b; omega)).trans h.hq
  told := owns_same h.told (fun g e => Below.heap_setCell _ _ _ _ (by show g ≠ b; exact fun e2 => ht (by rw [e, e2])))
  lies := h.lies
  kb := ⟨h.kb.os, h.kb.tape, h.kb.output, by simpa using h.kb.size, fun k hk hn => (Below.heap_setCell _ _ _ _ (by show k ≠ b; omega)).trans (h.kb.block k hk hn)⟩
theorem three_set {Y : World} {b : Nat} (h : Y.heap[b]? = some (.cells #[.bool false, .int .i64 0, .slice none 0 0] 64 (0, 0))) : (((Y.setCell ⟨b, 0, none⟩ (.bool false)).setCell ⟨b, 1, none⟩ (.int .i64 0)).setCell ⟨b, 2, none⟩ (.slice none 0 0)).heap[b]? = some (.cells #[.bool false, .int .i64 0, .slice none 0 0] 64 (0, 0)) := block_set (block_set (block_set h 0 _) 1 _) 2 _
set_option maxRecDepth 100000 in
set_option maxHeartbeats 4000000 in
theorem do_now (p q B k : Nat) (n : Int) (v0 v1 v2 v3 v4 v6 v7 va vt : Value) (now : Int) (told : List Int) (w : World) (hp : w.heap[p]? = some (.cells #[v0, v1, v2, v3, v4, .int .u64 now, v6, v7] 83 (0, 0)))
    (hq : w.heap[q]? = some (.cells #[va, vt] 91 (0, 0))) (ht : w.ownsRow B 45 1 vt k (told.map nV)) (hB : B ≤ w.heap.size) (hk : k ≤ 1000000) :
    Calls Try.prog 46 #[.pointer (some ⟨q, 0, none⟩), .agg #[.int .i64 4, .int .i64 n], .pointer (some ⟨p, 5, none⟩)] w fun r w' => r = .returned (.agg #[.bool false, .int .i64 0, .slice none 0 0]) ∧ ∃ vt', Took p q B vt w w' #[v0, v1, v2, v3, v4, .int .u64 now, v6, v7] va vt' (told ++ [now]) := by
  obtain ⟨i0, hi, hz0, hz1, hz2⟩ := info_parts info45
  obtain ⟨a, c, rfl⟩ := row_form ht
  have hkl : told.length = k := by have := ht.1; rw [List.length_map] at this; omega
  have HKL : Hid _ := hkl
  have hqs := (Array.getElem?_eq_some_iff.1 hq).1
  have hps := (Array.getElem?_eq_some_iff.1 hp).1
  go_enter Try.func46, Try.ntmps46
  go_upto_region 7 with fail
  obtain ⟨W1, hW1⟩ : ∃ W1, (w.alloc (.cells #[.int .i64 4, .int .i64 n] 54)).alloc (.cells #[.bool false, .int .i64 0, .slice none 0 0] 64) = W1 := ⟨_, rfl⟩
  rw [hW1]
  have b1 : Below w.heap.size w W1 := by rw [← hW1]; exact ((Below.refl _ _).alloc (Nat.le_refl _) _).alloc (by simp) _
  have hs1 : W1.heap.size = w.heap.size + 2 := by rw [← hW1]; simp
  have hr1 : W1.heap[w.heap.size + 1]? = some (.cells #[.bool false, .int .i64 0, .slice none 0 0] 64 (0, 0)) := by
    have := World.alloc_heap_new (w.alloc (.cells #[.int .i64 4, .int .i64 n] 54)) (.cells #[.bool false, .int .i64 0, .slice none 0 0] 64)
    rw [World.size_alloc, hW1] at this
    exact this
  have hp1 := (b1.block p hps).trans hp
  have hq1 := (b1.block q hqs).trans hq
  have ht1 : W1.ownsRow B 45 1 (.slice a k c) k (told.map nV) := owns_same ht (fun g e => b1.block g (ht.lt g e).2)
  obtain ⟨H0, hH0⟩ : ∃ H0, w.heap.size = H0 := ⟨_, rfl⟩
  rw [hH0] at hs1 hr1 hqs hps hB b1
  rw [hH0]
  have hqt : (Value.slice a k c).ownBlock ≠ some q := fun e => by
    rcases ht1.2 with ⟨ev, _⟩ | ⟨g, cap, cur, ev, _, hh, _⟩
    · rw [ev] at e; cases e
    · rw [ev] at e
      simp only [Value.ownBlock, Option.some.injEq] at e
      subst e
      rw [hq1] at hh
      simp at hh
  have hpt : (Value.slice a k c).ownBlock ≠ some p := fun e => by
    rcases ht1.2 with ⟨ev, _⟩ | ⟨g, cap, cur, ev, _, hh, _⟩
    · rw [ev] at e; cases e
    · rw [ev] at e
      simp only [Value.ownBlock, Option.some.injEq] at e
      subst e
      rw [hp1] at hh
      simp at hh
  have hrt : (Value.slice a k c).ownBlock ≠ some (H0 + 1) := fun e => by have := (ht.lt _ e).2; omega
  have HLT : Hid (∀ b, (Value.slice a k c).ownBlock = some b → b < H0) := fun b e => by have := (ht.lt _ e).2; omega
  have hpq : p ≠ q := fun e => by rw [e, hq1] at hp1; simp at hp1
  have HNW : Hid (∀ W : World, W.heap[p]? = some (.cells #[v0, v1, v2, v3, v4, .int .u64 now, v6, v7] 83 (0, 0)) → Calls Try.prog 28 #[.pointer (some ⟨p, 5, none⟩)] W fun r w' => r = .returned (.int .u64 now) ∧ w' = W) := fun W h => envNow_any p v0 v1 v2 v3 v4 v6 v7 now W h
  have cq := cells_of_block hq1 1
  simp only [List.getElem?_toArray, List.getElem?_cons_succ, List.getElem?_cons_zero] at cq
  have HP1 : Hid _ := hp1
  have HQ1 : Hid _ := hq1
  have HT1 : Hid _ := ht1
  have HR1 : Hid _ := hr1
  have hra : Hid (∀ o, (W1.alloc o).ownsRow B 45 1 (.slice a k c) k (told.map nV)) := fun o => World.ownsRow.alloc HT1.out o
  have hqW : q < W1.heap.size := by omega
  have HX : Hid (∀ (w2 : World) (o : Obj), (W1.alloc o).grownBy w2 (Value.slice a k c).ownBlock → w2.cell? ⟨q, 1, none⟩ = some (.slice a k c) ∧ w2.frozen? ⟨q, 1, none⟩ = false) := fun w2 o hg => by
    have hh : w2.heap[q]? = some (.cells #[va, .slice a k c] 91 (0, 0)) := (hg.block q (by simp; omega) (fun e => hqt e.symm)).trans ((Below.heap_alloc _ _ _ hqW).trans HQ1.out)
    exact ⟨by have := cells_of_block hh 1; simpa using this, by simp [World.frozen?, hh]⟩
  clear hp hq ht hp1 hq1 ht1 hr1 hW1 hkl
  have HS1 : Hid (W1.heap.size = H0 + 2) := hs1
  have hBW : B ≤ W1.heap.size := by omega
  clear hs1
  go_region_law (first
    | (have hno := HNW; go_simp; go_wp2_with (go_at_call 28; refine (HNW.out W1.drew HP1.out).mono ?_; rintro e w5 ⟨rfl, hw5⟩; subst hw5); clear HNW)
    | (refine step_append_lies _ rfl (.tmp 26) (.tmp 29) 23 rfl B 45 i0 (.int .u64 0) 1 8 Try.underlying23 hi hz0 hz1 hz2 rfl (by decide) _ _ _ rfl (by exact hra.out _) ⟨W1.heap.size, 0, none⟩ 1 1 [.int .u64 now] rfl rfl (by exact cell_one_new _ _ _) (by simp [Value.oneCell']) (by decide) (by unfold maxLen; omega) (by omega) (by simp; omega) (W1.heap.size + 1) (by simp) ?_; intro g cap w2 hown2 hg2 hat2 hlt2; obtain ⟨x1, x2⟩ := HX.out w2 _ (grownBy_undrew hg2)))
  all_goals
    have hlt : ∀ b, (Value.slice a k c).ownBlock = some b → b < H0 := HLT.out
    obtain ⟨hrY, hT⟩ := took_of (S := fun _ => False) (x := now) (fun _ h => h.elim) hH0 (Kb.of_below (by rw [hH0]; exact b1)) (by rw [HS1.out]; exact Nat.le_refl _) HP1.out HQ1.out HR1.out HKL.out HT1.out hps hqs hpq hlt hown2 (grownBy_undrew hg2) hat2
    obtain ⟨Y, hY⟩ : ∃ Y, w2.setCell ⟨q, 1, none⟩ (.slice (some ⟨g, 0, none⟩) (k + 1) cap) = Y := ⟨_, rfl⟩
    rw [hY] at hrY hT ⊢
    have HTK : Hid _ := hT
    have y0 := cells_of_block hrY 0
    have y1 := cells_of_block hrY 1
    have y2 := cells_of_block hrY 2
    simp only [List.getElem?_toArray, List.getElem?_cons_succ, List.getElem?_cons_zero] at y0 y1 y2
    have z0 : Y.frozen? ⟨H0 + 1, 0, none⟩ = false := by simp [World.frozen?, hrY]
    have z1 : Y.frozen? ⟨H0 + 1, 1, none⟩ = false := by simp [World.frozen?, hrY]
    have z2 : Y.frozen? ⟨H0 + 1, 2, none⟩ = false := by simp [World.frozen?, hrY]
    have HRY : Hid _ := hrY
    have HGN : Hid (g ≠ H0 + 1) := fun e => by
      have := HS1.out
      rcases hat2 with h | h
      · have := hlt _ h; omega
      · omega
    clear hown2 hg2 hat2 hlt2 x1 x2 hY hT hrY
    go_wp2_with fail
    have h3 := three_set HRY.out
    obtain ⟨Z, hZ⟩ : ∃ Z, ((Y.setCell ⟨H0 + 1, 0, none⟩ (.bool false)).setCell ⟨H0 + 1, 1, none⟩ (.int .i64 0)).setCell ⟨H0 + 1, 2, none⟩ (.slice none 0 0) = Z := ⟨_, rfl⟩
    have hgn : (Value.slice (some ⟨g, 0, none⟩) (k + 1) cap).ownBlock ≠ some (H0 + 1) := fun e => HGN.out (by simpa [Value.ownBlock] using e)
    have hT3 := ((HTK.out.set (b := H0 + 1) (by omega) (by omega) (by omega) hgn 0 (.bool false)).set (b := H0 + 1) (by omega) (by omega) (by omega) hgn 1 (.int .i64 0)).set (b := H0 + 1) (by omega) (by omega) (by omega) hgn 2 (.slice none 0 0)
    rw [hZ] at h3 hT3 ⊢
    have r0 := cells_of_block h3 0
    have r1 := cells_of_block h3 1
    have r2 := cells_of_block h3 2
    simp only [List.getElem?_toArray, List.getElem?_cons_succ, List.getElem?_cons_zero] at r0 r1 r2
    exact ⟨rfl, _, by simp [results, Try.f46, go_sem, r0, r1, r2], rfl, _, hT3⟩
set_option maxRecDepth 100000 in
set_option maxHeartbeats 4000000 in
theorem do_draw (p q B k fu : Nat) (n : Int) (v0 v1 v2 v3 v4 v5 vd va vt : Value) (draws told : List Int) (w : World) (hp : w.heap[p]? = some (.cells #[v0, v1, v2, v3, v4, v5, vd, .int .u64 (fu : Nat)] 83 (0, 0))) (hd : RowAt p w vd (draws.map nV)) (hdl : draws.length ≤ 65536) (hfu : fu < 1000000)
    (hq : w.heap[q]? = some (.cells #[va, vt] 91 (0, 0))) (ht : w.ownsRow B 45 1 vt k (told.map nV)) (hB : B ≤ w.heap.size) (hBp : p ≤ q ∧ p < B) (hk : k ≤ 1000000) :
    Calls Try.prog 46 #[.pointer (some ⟨q, 0, none⟩), .agg #[.int .i64 5, .int .i64 n], .pointer (some ⟨p, 5, none⟩)] w fun r w' => r = .returned (.agg #[.bool false, .int .i64 0, .slice none 0 0]) ∧ ∃ vt' vd', RowAt p w' vd' (draws.tail.map nV) ∧ Took p q B vt w w' #[v0, v1, v2, v3, v4, v5, vd', .int .u64 (fuN draws fu : Nat)] va vt' (told ++ [drawI draws fu]) := by
  obtain ⟨i0, hi, hz0, hz1, hz2⟩ := info_parts info45
  obtain ⟨a, c, rfl⟩ := row_form ht
  have hkl : told.length = k := by have := ht.1; rw [List.length_map] at this; omega
  have HKL : Hid _ := hkl
  have hqs := (Array.getElem?_eq_some_iff.1 hq).1
  have hps := (Array.getElem?_eq_some_iff.1 hp).1
  go_enter Try.func46, Try.ntmps46
  go_upto_region 9 with fail
  obtain ⟨W1, hW1⟩ : ∃ W1, (w.alloc (.cells #[.int .i64 5, .int .i64 n] 54)).alloc (.cells #[.bool false, .int .i64 0, .slice none 0 0] 64) = W1 := ⟨_, rfl⟩
  rw [hW1]
  have b1 : Below w.heap.size w W1 := by rw [← hW1]; exact ((Below.refl _ _).alloc (Nat.le_refl _) _).alloc (by simp) _
  have hs1 : W1.heap.size = w.heap.size + 2 := by rw [← hW1]; simp
  have hr1 : W1.heap[w.heap.size + 1]? = some (.cells #[.bool false, .int .i64 0, .slice none 0 0] 64 (0, 0)) := by
    have := World.alloc_heap_new (w.alloc (.cells #[.int .i64 5, .int .i64 n] 54)) (.cells #[.bool false, .int .i64 0, .slice none 0 0] 64)
    rw [World.size_alloc, hW1] at this
    exact this
  have hp1 := (b1.block p hps).trans hp
  have hq1 := (b1.block q hqs).trans hq
  have ht1 : W1.ownsRow B 45 1 (.slice a k c) k (told.map nV) := owns_same ht (fun g e => b1.block g (ht.lt g e).2)
  obtain ⟨H0, hH0⟩ : ∃ H0, w.heap.size = H0 := ⟨_, rfl⟩
  rw [hH0] at hs1 hr1 hqs hps hB b1
  rw [hH0]
  have hqt : (Value.slice a k c).ownBlock ≠ some q := fun e => by
    rcases ht1.2 with ⟨ev, _⟩ | ⟨g, cap, cur, ev, _, hh, _⟩
    · rw [ev] at e; cases e
    · rw [ev] at e
      simp only [Value.ownBlock, Option.some.injEq] at e
      subst e
      rw [hq1] at hh
      simp at hh
  have hpt : (Value.slice a k c).ownBlock ≠ some p := fun e => by
    rcases ht1.2 with ⟨ev, _⟩ | ⟨g, cap, cur, ev, _, hh, _⟩
    · rw [ev] at e; cases e
    · rw [ev] at e
      simp only [Value.ownBlock, Option.some.injEq] at e
      subst e
      rw [hp1] at hh
      simp at hh
  have hrt : (Value.slice a k c).ownBlock ≠ some (H0 + 1) := fun e => by have := (ht.lt _ e).2; omega
  have HLT : Hid (∀ b, (Value.slice a k c).ownBlock = some b → b < H0) := fun b e => by have := (ht.lt _ e).2; omega
  have HPQ : Hid (∀ b, (b = H0 + 1 ∨ b = q ∨ (Value.slice a k c).ownBlock = some b) → p ≤ b) := fun b e => by
    rcases e with e | e | e
    · omega
    · rw [e]; exact hBp.1
    · have := (ht.lt b e).1; exact Nat.le_trans (Nat.le_of_lt hBp.2) this
  have hpq : p ≠ q := fun e => by rw [e, hq1] at hp1; simp at hp1
  have hd1 : RowAt p W1 vd (draws.map nV) := hd.kb (by rw [hH0]; exact hps) (S := fun _ => False) (fun _ h => h.elim) (Kb.of_below (by rw [hH0]; exact b1))
  obtain ⟨x, hx⟩ : ∃ x, drawI draws fu = x := ⟨_, rfl⟩
  have HXX : Hid _ := hx
  have HNW : Hid (Calls Try.prog 29 #[.pointer (some ⟨p, 5, none⟩)] W1.drew fun r w' => ∃ vd', r = .returned (.int .u64 x) ∧ w'.heap[p]? = some (.cells #[v0, v1, v2, v3, v4, v5, vd', .int .u64 (fuN draws fu : Nat)] 83 (0, 0)) ∧ RowAt p w' vd' (draws.tail.map nV) ∧ Kb (fun b => b = p) W1.drew w') := by
    have := draw_any p v0 v1 v2 v3 v4 v5 vd draws fu W1.drew hp1 hd1 hdl hfu
    rw [hx] at this
    exact this
  have H5 : Hid (∀ w5 : World, Kb (fun b => b = p) W1.drew w5 → w5.heap[q]? = some (.cells #[va, .slice a k c] 91 (0, 0)) ∧ w5.heap[H0 + 1]? = some (.cells #[.bool false, .int .i64 0, .slice none 0 0] 64 (0, 0)) ∧ w5.ownsRow B 45 1 (.slice a k c) k (told.map nV) ∧ H0 + 2 ≤ w5.heap.size ∧ w5.cell? ⟨q, 1, none⟩ = some (.slice a k c)) := fun w5 k5 => by
    have hq5 := (k5.block q (by show q < W1.heap.size; omega) (fun e => hpq e.symm)).trans hq1
    have hr5 := (k5.block (H0 + 1) (by show H0 + 1 < W1.heap.size; omega) (by omega)).trans hr1
    refine ⟨hq5, hr5, owns_same ht1 (fun g e => k5.block g (by have := (ht1.lt g e).2; exact this) (fun e2 => hpt (by rw [← e2]; exact e))), by have h6 := k5.size; have h7 : W1.drew.heap.size = W1.heap.size := rfl; omega, ?_⟩
    have := cells_of_block hq5 1
    simpa using this
  have cq := cells_of_block hq1 1
  simp only [List.getElem?_toArray, List.getElem?_cons_succ, List.getElem?_cons_zero] at cq
  have HP1 : Hid _ := hp1
  have HQ1 : Hid _ := hq1
  have HT1 : Hid _ := ht1
  have HR1 : Hid _ := hr1
  have HX : Hid (∀ (w5 w2 : World) (o : Obj), Kb (fun b => b = p) W1.drew w5 → (w5.alloc o).grownBy w2 (Value.slice a k c).ownBlock → w2.cell? ⟨q, 1, none⟩ = some (.slice a k c) ∧ w2.frozen? ⟨q, 1, none⟩ = false) := fun w5 w2 o k5 hg => by
    obtain ⟨hq5, _, _, hs5, _⟩ := H5.out w5 k5
    have hh : w2.heap[q]? = some (.cells #[va, .slice a k c] 91 (0, 0)) := (hg.block q (by simp; omega) (fun e => hqt e.symm)).trans ((Below.heap_alloc _ _ _ (by omega)).trans hq5)
    exact ⟨by have := cells_of_block hh 1; simpa using this, by simp [World.frozen?, hh]⟩
  have HHD : Hid (Kb (fun _ => False) w W1) := Kb.of_below (by rw [hH0]; exact b1)
  clear hp hq ht hp1 hq1 ht1 hr1 hW1 hkl hd hd1 hx b1
  have HS1 : Hid (W1.heap.size = H0 + 2) := hs1
  clear hs1
  go_region_law (first
    | (have hno := HNW; go_simp; go_wp2_with (go_at_call 29; refine Calls.mono HNW.out ?_; rintro e w5 ⟨vd', rfl, hp5, hd5, k5⟩); obtain ⟨hq5, hr5, ht5, hs5, cq5⟩ := H5.out w5 k5; have ha5 := fun o => World.ownsRow.alloc ht5 o; have cq6 := ((((Below.refl w5.heap.size w5).alloc (Nat.le_refl _) (.cells #[.int .u64 x] 45)).cell (p := ⟨q, 1, none⟩) (by show q < w5.heap.size; omega)).trans cq5); have HK5 : Hid _ := k5; clear HNW k5)
    | (refine step_append_lies _ rfl (.tmp 39) (.tmp 42) 23 rfl B 45 i0 (.int .u64 0) 1 8 Try.underlying23 hi hz0 hz1 hz2 rfl (by decide) _ _ _ rfl (by exact ha5 _) ⟨w5.heap.size, 0, none⟩ 1 1 [.int .u64 x] rfl rfl (by exact cell_one_new _ _ _) (by simp [Value.oneCell']) (by decide) (by unfold maxLen; omega) (by omega) (by simp; omega) (w5.heap.size + 1) (by simp) ?_; intro g cap w2 hown2 hg2 hat2 hlt2; obtain ⟨x1, x2⟩ := HX.out w5 w2 _ HK5.out hg2))
  all_goals
    have hlt : ∀ b, (Value.slice a k c).ownBlock = some b → b < H0 := HLT.out
    have kw : Kb (fun b => b = p) w w5 := (HHD.out.mono (S' := fun b => b = p) (fun _ h => h.elim)).drew.trans HK5.out (fun _ _ e => e)
    obtain ⟨hrY, hT⟩ := took_of (S := fun b => b = p) (x := x) (fun _ h => h) hH0 kw hs5 hp5 hq5 hr5 HKL.out ht5 hps hqs hpq hlt hown2 hg2 hat2
    obtain ⟨Y, hY⟩ : ∃ Y, w2.setCell ⟨q, 1, none⟩ (.slice (some ⟨g, 0, none⟩) (k + 1) cap) = Y := ⟨_, rfl⟩
    rw [hY] at hrY hT ⊢
    have HTK : Hid _ := hT
    have y0 := cells_of_block hrY 0
    have y1 := cells_of_block hrY 1
    have y2 := cells_of_block hrY 2
    simp only [List.getElem?_toArray, List.getElem?_cons_succ, List.getElem?_cons_zero] at y0 y1 y2
    have z0 : Y.frozen? ⟨H0 + 1, 0, none⟩ = false := by simp [World.frozen?, hrY]
    have z1 : Y.frozen? ⟨H0 + 1, 1, none⟩ = false := by simp [World.frozen?, hrY]
    have z2 : Y.frozen? ⟨H0 + 1, 2, none⟩ = false := by simp [World.frozen?, hrY]
    have HRY : Hid _ := hrY
    have HGN : Hid (g ≠ H0 + 1) := fun e => by
      rcases hat2 with h | h
      · have := hlt _ h; omega
      · omega
    have HPR : Hid (Kb (fun b => b = H0 + 1 ∨ b = q ∨ (Value.slice a k c).ownBlock = some b) w5 Y) := by
      rw [← hY]
      have k0 : Kb (fun b => b = H0 + 1 ∨ b = q ∨ (Value.slice a k c).ownBlock = some b) w5 w5 := Kb.refl _ _
      exact ((k0.alloc _).grown hg2 (fun r e => Or.inl (Or.inr (Or.inr e)))).setCell (Or.inr (Or.inl rfl)) _ _
    have HD5 : Hid _ := hd5
    have hp5s : p < w5.heap.size := by omega
    clear hown2 hg2 hat2 hlt2 x1 x2 hY hT hrY hd5 hp5 hq5 hr5 ht5 ha5 cq5 cq6
    go_wp2_with fail
    have h3 := three_set HRY.out
    obtain ⟨Z, hZ⟩ : ∃ Z, ((Y.setCell ⟨H0 + 1, 0, none⟩ (.bool false)).setCell ⟨H0 + 1, 1, none⟩ (.int .i64 0)).setCell ⟨H0 + 1, 2, none⟩ (.slice none 0 0) = Z := ⟨_, rfl⟩
    have hgn : (Value.slice (some ⟨g, 0, none⟩) (k + 1) cap).ownBlock ≠ some (H0 + 1) := fun e => HGN.out (by simpa [Value.ownBlock] using e)
    have hT3 := ((HTK.out.set (b := H0 + 1) (by omega) (by omega) (by omega) hgn 0 (.bool false)).set (b := H0 + 1) (by omega) (by omega) (by omega) hgn 1 (.int .i64 0)).set (b := H0 + 1) (by omega) (by omega) (by omega) hgn 2 (.slice none 0 0)
    rw [hZ] at h3 hT3 ⊢
    have r0 := cells_of_block h3 0
    have r1 := cells_of_block h3 1
    have r2 := cells_of_block h3 2
    simp only [List.getElem?_toArray, List.getElem?_cons_succ, List.getElem?_cons_zero] at r0 r1 r2
    have kZ : Kb (fun b => b = H0 + 1 ∨ b = q ∨ (Value.slice a k c).ownBlock = some b) w5 Z := by
      rw [← hZ]
      exact ((HPR.out.setCell (Or.inl rfl) _ _).setCell (Or.inl rfl) _ _).setCell (Or.inl rfl) _ _
    rw [HXX.out]
    exact ⟨rfl, _, by simp [results, Try.f46, go_sem, r0, r1, r2], rfl, _, _, RowAt.kb HD5.out hp5s (fun b e => HPQ.out b e) kZ, hT3⟩
end Go.Proofs.Ytefmhghdehokcaa
