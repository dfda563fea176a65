/-
  The acts' contracts for lists of any length; where the draws lie behind a draw.
-/
import Derived.Test.YtefmhghdehokcaaTasks
namespace Go.Proofs.Ytefmhghdehokcaa
open Go.RowKit
/-- A slice's block is not below lo. -/
def AddrGe (lo : Nat) (v : Value) : Prop := ∀ (a : Addr) (n c : Nat), v = .slice (some a) n c → lo ≤ a.block
theorem draw_anyL (p : Nat) (v0 v1 v2 v3 v4 v5 vd : Value) (draws : List Int) (fu : Nat) (w : World) (hp : w.heap[p]? = some (.cells #[v0, v1, v2, v3, v4, v5, vd, .int .u64 (fu : Nat)] 83 (0, 0))) (hd : RowAt p w vd (draws.map nV)) (hdl : draws.length ≤ 65536) (hfu : fu < 100000000000000000) :
    Calls Try.prog 29 #[.pointer (some ⟨p, 5, none⟩)] w fun r w' => ∃ vd', r = .returned (.int .u64 (drawI draws fu)) ∧ w'.heap[p]? = some (.cells #[v0, v1, v2, v3, v4, v5, vd', .int .u64 (fuN draws fu : Nat)] 83 (0, 0)) ∧ RowAt p w' vd' (draws.tail.map nV) ∧ Kb (fun b => b = p) w w' ∧ (∀ lo, AddrGe lo vd → AddrGe lo vd') := by
  obtain ⟨a, c, rfl, ha, hc, h0⟩ := hd
  rw [List.length_map] at hc
  have c6 := cells_of_block hp 6
  have c7 := cells_of_block hp 7
  simp only [List.getElem?_toArray, List.getElem?_cons_succ, List.getElem?_cons_zero] at c6 c7
  rw [List.length_map] at c6
  have f : ∀ o, w.frozen? ⟨p, o, none⟩ = false := fun o => by simp [World.frozen?, hp]
  have f6 := f 6
  have f7 := f 7
  have HP : Hid _ := hp
  have HA : Hid _ := ha
  cases draws with
  | nil =>
    simp only [List.length_nil] at c6
    have HMX : Hid _ := mix_any (fu + 1)
    clear hp ha f
    go_enter Try.func29, Try.ntmps29
    go_wp2_with fail
    refine (HMX.out _).mono ?_
    rintro e w1 ⟨rfl, hw1⟩
    subst hw1
    go_wp2_with fail
    go_ret
    have hK : Kb (fun b => b = p) w (w.setCell ⟨p, 7, none⟩ (.int .u64 ((fu : Int) + 1))) := kb_one _ _ _ _
    refine ⟨_, rfl, block_set HP.out 7 _, ⟨a, c, rfl, VA.nil _ _ _, hc, h0⟩, hK, fun lo h => h⟩
  | cons d ds =>
    obtain ⟨b, off, rfl, hb, hcell⟩ := ha 0 (nV d) rfl
    simp only [nV] at hcell
    rw [Nat.add_zero] at hcell
    obtain ⟨n, hn⟩ : ∃ n, ds.length = n := ⟨_, rfl⟩
    rw [List.length_cons, hn] at c6 hc hdl
    have HN : Hid _ := hn
    clear hp ha f hn
    by_cases hc1 : c = 1
    · subst hc1
      obtain rfl : n = 0 := by omega
      go_enter Try.func29, Try.ntmps29
      go_wp2_with fail
      go_ret
      have hds : ds = [] := List.eq_nil_of_length_eq_zero HN.out
      subst hds
      exact ⟨_, rfl, block_set HP.out 6 _, ⟨_, _, rfl, VA.nil _ _ _, Nat.le_refl _, fun e => by cases e⟩, kb_one _ _ _ _, fun lo h a' n' c' e => by cases e; exact h _ _ _ rfl⟩
    · have hc2 : 1 < c := by omega
      have HC : Hid (n + 1 ≤ c) := hc
      go_enter Try.func29, Try.ntmps29
      go_wp2_with fail
      go_ret
      have hK : Kb (fun b => b = p) w (w.setCell ⟨p, 6, none⟩ (.slice (some ⟨b, off + 1, none⟩) n (c - 1))) := kb_one _ _ _ _
      have hps : p < w.heap.size := (Array.getElem?_eq_some_iff.1 HP.out).1
      refine ⟨_, rfl, block_set HP.out 6 _, ⟨some ⟨b, off + 1, none⟩, c - 1, by rw [List.length_map, List.tail_cons, HN.out], ?_, by rw [List.length_map, List.tail_cons, HN.out]; have := HC.out; omega, fun e => by cases e⟩, hK, fun lo h a' n' c' e => by cases e; exact h ⟨b, off, none⟩ _ _ rfl⟩
      intro j v hj
      obtain ⟨b', off', e, hb', hc'⟩ := HA.out (j + 1) v (by simpa using hj)
      cases e
      refine ⟨b, off + 1, rfl, hb', ?_⟩
      rw [show off + 1 + j = off + (j + 1) by omega]
      have h2 := hK.block b (by omega) (by omega)
      simp only [World.cell?] at hc' ⊢
      rw [h2]
      exact hc'
set_option maxRecDepth 100000 in
set_option maxHeartbeats 4000000 in
theorem do_drawL (p q B k fu : Nat) (n : Int) (v0 v1 v2 v3 v4 v5 vd va vt : Value) (draws told : List Int) (w : World) (hp : w.heap[p]? = some (.cells #[v0, v1, v2, v3, v4, v5, vd, .int .u64 (fu : Nat)] 83 (0, 0))) (hd : RowAt p w vd (draws.map nV)) (hdl : draws.length ≤ 65536) (hfu : fu < 100000000000000000)
    (hq : w.heap[q]? = some (.cells #[va, vt] 91 (0, 0))) (ht : w.ownsRow B 45 1 vt k (told.map nV)) (hB : B ≤ w.heap.size) (hBp : p ≤ q ∧ p < B) (hk : k ≤ 10000000000000) :
    Calls Try.prog 46 #[.pointer (some ⟨q, 0, none⟩), .agg #[.int .i64 5, .int .i64 n], .pointer (some ⟨p, 5, none⟩)] w fun r w' => r = .returned (.agg #[.bool false, .int .i64 0, .slice none 0 0]) ∧ ∃ vt' vd', RowAt p w' vd' (draws.tail.map nV) ∧ Took p q B vt w w' #[v0, v1, v2, v3, v4, v5, vd', .int .u64 (fuN draws fu : Nat)] va vt' (told ++ [drawI draws fu]) ∧ (∀ lo, AddrGe lo vd → AddrGe lo vd') := by
  obtain ⟨i0, hi, hz0, hz1, hz2⟩ := info_parts info45
  obtain ⟨a, c, rfl⟩ := row_form ht
  have hkl : told.length = k := by have := ht.1; rw [List.length_map] at this; omega
  have HKL : Hid _ := hkl
  have hqs := (Array.getElem?_eq_some_iff.1 hq).1
  have hps := (Array.getElem?_eq_some_iff.1 hp).1
  go_enter Try.func46, Try.ntmps46
  go_upto_region 9 with fail
  obtain ⟨W1, hW1⟩ : ∃ W1, (w.alloc (.cells #[.int .i64 5, .int .i64 n] 54)).alloc (.cells #[.bool false, .int .i64 0, .slice none 0 0] 64) = W1 := ⟨_, rfl⟩
  rw [hW1]
  have b1 : Below w.heap.size w W1 := by rw [← hW1]; exact ((Below.refl _ _).alloc (Nat.le_refl _) _).alloc (by simp) _
  have hs1 : W1.heap.size = w.heap.size + 2 := by rw [← hW1]; simp
  have hr1 : W1.heap[w.heap.size + 1]? = some (.cells #[.bool false, .int .i64 0, .slice none 0 0] 64 (0, 0)) := by
    have := World.alloc_heap_new (w.alloc (.cells #[.int .i64 5, .int .i64 n] 54)) (.cells #[.bool false, .int .i64 0, .slice none 0 0] 64)
    rw [World.size_alloc, hW1] at this
    exact this
  have hp1 := (b1.block p hps).trans hp
  have hq1 := (b1.block q hqs).trans hq
  have ht1 : W1.ownsRow B 45 1 (.slice a k c) k (told.map nV) := owns_same ht (fun g e => b1.block g (ht.lt g e).2)
  obtain ⟨H0, hH0⟩ : ∃ H0, w.heap.size = H0 := ⟨_, rfl⟩
  rw [hH0] at hs1 hr1 hqs hps hB b1
  rw [hH0]
  have hqt : (Value.slice a k c).ownBlock ≠ some q := fun e => by
    rcases ht1.2 with ⟨ev, _⟩ | ⟨g, cap, cur, ev, _, hh, _⟩
    · rw [ev] at e; cases e
    · rw [ev] at e
      simp only [Value.ownBlock, Option.some.injEq] at e
      subst e
      rw [hq1] at hh
      simp at hh
  have hpt : (Value.slice a k c).ownBlock ≠ some p := fun e => by
    rcases ht1.2 with ⟨ev, _⟩ | ⟨g, cap, cur, ev, _, hh, _⟩
    · rw [ev] at e; cases e
    · rw [ev] at e
      simp only [Value.ownBlock, Option.some.injEq] at e
      subst e
      rw [hp1] at hh
      simp at hh
  have hrt : (Value.slice a k c).ownBlock ≠ some (H0 + 1) := fun e => by have := (ht.lt _ e).2; omega
  have HLT : Hid (∀ b, (Value.slice a k c).ownBlock = some b → b < H0) := fun b e => by have := (ht.lt _ e).2; omega
  have HPQ : Hid (∀ b, (b = H0 + 1 ∨ b = q ∨ (Value.slice a k c).ownBlock = some b) → p ≤ b) := fun b e => by
    rcases e with e | e | e
    · omega
    · rw [e]; exact hBp.1
    · have := (ht.lt b e).1; exact Nat.le_trans (Nat.le_of_lt hBp.2) this
  have hpq : p ≠ q := fun e => by rw [e, hq1] at hp1; simp at hp1
  have hd1 : RowAt p W1 vd (draws.map nV) := hd.kb (by rw [hH0]; exact hps) (S := fun _ => False) (fun _ h => h.elim) (Kb.of_below (by rw [hH0]; exact b1))
  obtain ⟨x, hx⟩ : ∃ x, drawI draws fu = x := ⟨_, rfl⟩
  have HXX : Hid _ := hx
  have HNW : Hid (Calls Try.prog 29 #[.pointer (some ⟨p, 5, none⟩)] W1.drew fun r w' => ∃ vd', r = .returned (.int .u64 x) ∧ w'.heap[p]? = some (.cells #[v0, v1, v2, v3, v4, v5, vd', .int .u64 (fuN draws fu : Nat)] 83 (0, 0)) ∧ RowAt p w' vd' (draws.tail.map nV) ∧ Kb (fun b => b = p) W1.drew w' ∧ (∀ lo, AddrGe lo vd → AddrGe lo vd')) := by
    have := draw_anyL p v0 v1 v2 v3 v4 v5 vd draws fu W1.drew hp1 hd1 hdl hfu
    rw [hx] at this
    exact this
  have H5 : Hid (∀ w5 : World, Kb (fun b => b = p) W1.drew w5 → w5.heap[q]? = some (.cells #[va, .slice a k c] 91 (0, 0)) ∧ w5.heap[H0 + 1]? = some (.cells #[.bool false, .int .i64 0, .slice none 0 0] 64 (0, 0)) ∧ w5.ownsRow B 45 1 (.slice a k c) k (told.map nV) ∧ H0 + 2 ≤ w5.heap.size ∧ w5.cell? ⟨q, 1, none⟩ = some (.slice a k c)) := fun w5 k5 => by
    have hq5 := (k5.block q (by show q < W1.heap.size; omega) (fun e => hpq e.symm)).trans hq1
    have hr5 := (k5.block (H0 + 1) (by show H0 + 1 < W1.heap.size; omega) (by omega)).trans hr1
    refine ⟨hq5, hr5, owns_same ht1 (fun g e => k5.block g (by have := (ht1.lt g e).2; exact this) (fun e2 => hpt (by rw [← e2]; exact e))), by have h6 := k5.size; have h7 : W1.drew.heap.size = W1.heap.size := rfl; omega, ?_⟩
    have := cells_of_block hq5 1
    simpa using this
  have cq := cells_of_block hq1 1
  simp only [List.getElem?_toArray, List.getElem?_cons_succ, List.getElem?_cons_zero] at cq
  have HP1 : Hid _ := hp1
  have HQ1 : Hid _ := hq1
  have HT1 : Hid _ := ht1
  have HR1 : Hid _ := hr1
  have HX : Hid (∀ (w5 w2 : World) (o : Obj), Kb (fun b => b = p) W1.drew w5 → (w5.alloc o).grownBy w2 (Value.slice a k c).ownBlock → w2.cell? ⟨q, 1, none⟩ = some (.slice a k c) ∧ w2.frozen? ⟨q, 1, none⟩ = false) := fun w5 w2 o k5 hg => by
    obtain ⟨hq5, _, _, hs5, _⟩ := H5.out w5 k5
    have hh : w2.heap[q]? = some (.cells #[va, .slice a k c] 91 (0, 0)) := (hg.block q (by simp; omega) (fun e => hqt e.symm)).trans ((Below.heap_alloc _ _ _ (by omega)).trans hq5)
    exact ⟨by have := cells_of_block hh 1; simpa using this, by simp [World.frozen?, hh]⟩
  have HHD : Hid (Kb (fun _ => False) w W1) := Kb.of_below (by rw [hH0]; exact b1)
  clear hp hq ht hp1 hq1 ht1 hr1 hW1 hkl hd hd1 hx b1
  have HS1 : Hid (W1.heap.size = H0 + 2) := hs1
  clear hs1
  go_region_law (first
    | (have hno := HNW; go_simp; go_wp2_with (go_at_call 29; refine Calls.mono HNW.out ?_; rintro e w5 ⟨vd', rfl, hp5, hd5, k5, hge5⟩); obtain ⟨hq5, hr5, ht5, hs5, cq5⟩ := H5.out w5 k5; have ha5 := fun o => World.ownsRow.alloc ht5 o; have cq6 := ((((Below.refl w5.heap.size w5).alloc (Nat.le_refl _) (.cells #[.int .u64 x] 45)).cell (p := ⟨q, 1, none⟩) (by show q < w5.heap.size; omega)).trans cq5); have HK5 : Hid _ := k5; have HGE5 : Hid (∀ lo, AddrGe lo vd → AddrGe lo vd') := hge5; clear HNW k5 hge5)
    | (refine step_append_lies _ rfl (.tmp 39) (.tmp 42) 23 rfl B 45 i0 (.int .u64 0) 1 8 Try.underlying23 hi hz0 hz1 hz2 rfl (by decide) _ _ _ rfl (by exact ha5 _) ⟨w5.heap.size, 0, none⟩ 1 1 [.int .u64 x] rfl rfl (by exact cell_one_new _ _ _) (by simp [Value.oneCell']) (by decide) (by unfold maxLen; omega) (by omega) (by simp; omega) (w5.heap.size + 1) (by simp) ?_; intro g cap w2 hown2 hg2 hat2 hlt2; obtain ⟨x1, x2⟩ := HX.out w5 w2 _ HK5.out hg2))
  all_goals
    have hlt : ∀ b, (Value.slice a k c).ownBlock = some b → b < H0 := HLT.out
    have kw : Kb (fun b => b = p) w w5 := (HHD.out.mono (S' := fun b => b = p) (fun _ h => h.elim)).drew.trans HK5.out (fun _ _ e => e)
    obtain ⟨hrY, hT⟩ := took_of (S := fun b => b = p) (x := x) (fun _ h => h) hH0 kw hs5 hp5 hq5 hr5 HKL.out ht5 hps hqs hpq hlt hown2 hg2 hat2
    obtain ⟨Y, hY⟩ : ∃ Y, w2.setCell ⟨q, 1, none⟩ (.slice (some ⟨g, 0, none⟩) (k + 1) cap) = Y := ⟨_, rfl⟩
    rw [hY] at hrY hT ⊢
    have HTK : Hid _ := hT
    have y0 := cells_of_block hrY 0
    have y1 := cells_of_block hrY 1
    have y2 := cells_of_block hrY 2
    simp only [List.getElem?_toArray, List.getElem?_cons_succ, List.getElem?_cons_zero] at y0 y1 y2
    have z0 : Y.frozen? ⟨H0 + 1, 0, none⟩ = false := by simp [World.frozen?, hrY]
    have z1 : Y.frozen? ⟨H0 + 1, 1, none⟩ = false := by simp [World.frozen?, hrY]
    have z2 : Y.frozen? ⟨H0 + 1, 2, none⟩ = false := by simp [World.frozen?, hrY]
    have HRY : Hid _ := hrY
    have HGN : Hid (g ≠ H0 + 1) := fun e => by
      rcases hat2 with h | h
      · have := hlt _ h; omega
      · omega
    have HPR : Hid (Kb (fun b => b = H0 + 1 ∨ b = q ∨ (Value.slice a k c).ownBlock = some b) w5 Y) := by
      rw [← hY]
      have k0 : Kb (fun b => b = H0 + 1 ∨ b = q ∨ (Value.slice a k c).ownBlock = some b) w5 w5 := Kb.refl _ _
      exact ((k0.alloc _).grown hg2 (fun r e => Or.inl (Or.inr (Or.inr e)))).setCell (Or.inr (Or.inl rfl)) _ _
    have HD5 : Hid _ := hd5
    have hp5s : p < w5.heap.size := by omega
    clear hown2 hg2 hat2 hlt2 x1 x2 hY hT hrY hd5 hp5 hq5 hr5 ht5 ha5 cq5 cq6
    go_wp2_with fail
    have h3 := three_set HRY.out
    obtain ⟨Z, hZ⟩ : ∃ Z, ((Y.setCell ⟨H0 + 1, 0, none⟩ (.bool false)).setCell ⟨H0 + 1, 1, none⟩ (.int .i64 0)).setCell ⟨H0 + 1, 2, none⟩ (.slice none 0 0) = Z := ⟨_, rfl⟩
    have hgn : (Value.slice (some ⟨g, 0, none⟩) (k + 1) cap).ownBlock ≠ some (H0 + 1) := fun e => HGN.out (by simpa [Value.ownBlock] using e)
    have hT3 := ((HTK.out.set (b := H0 + 1) (by omega) (by omega) (by omega) hgn 0 (.bool false)).set (b := H0 + 1) (by omega) (by omega) (by omega) hgn 1 (.int .i64 0)).set (b := H0 + 1) (by omega) (by omega) (by omega) hgn 2 (.slice none 0 0)
    rw [hZ] at h3 hT3 ⊢
    have r0 := cells_of_block h3 0
    have r1 := cells_of_block h3 1
    have r2 := cells_of_block h3 2
    simp only [List.getElem?_toArray, List.getElem?_cons_succ, List.getElem?_cons_zero] at r0 r1 r2
    have kZ : Kb (fun b => b = H0 + 1 ∨ b = q ∨ (Value.slice a k c).ownBlock = some b) w5 Z := by
      rw [← hZ]
      exact ((HPR.out.setCell (Or.inl rfl) _ _).setCell (Or.inl rfl) _ _).setCell (Or.inl rfl) _ _
    rw [HXX.out]
    exact ⟨rfl, _, by simp [results, Try.f46, go_sem, r0, r1, r2], rfl, _, _, RowAt.kb HD5.out hp5s (fun b e => HPQ.out b e) kZ, hT3, HGE5.out⟩
set_option maxRecDepth 100000 in
set_option maxHeartbeats 4000000 in
theorem actStep_consL (q n b off ca : Nat) (k x : Int) (vt e : Value) (w : World) (hq : w.heap[q]? = some (.cells #[.slice (some ⟨b, off, none⟩) (n + 1) ca, vt] 91 (0, 0))) (hc : n + 1 ≤ ca) (hn : n < 1000000000000000)
    (h0 : w.cell? ⟨b, off, none⟩ = some (.int .i64 k)) (h1 : w.cell? ⟨b, off + 1, none⟩ = some (.int .i64 x)) (aa' : Option Addr) (ca' : Nat) (ha' : if ca = 1 then aa' = some ⟨b, off, none⟩ ∧ ca' = 0 else aa' = some ⟨b, off + 2, none⟩ ∧ ca' = ca - 1)
    (wt : Int) (P : World → World → Value → Prop)
    (HD : ∀ W1, W1.heap.size = w.heap.size + 2 → Kb (fun b => b = q) w W1 → W1.heap[q]? = some (.cells #[.slice aa' n ca', vt] 91 (0, 0)) → Calls Try.prog 46 #[.pointer (some ⟨q, 0, none⟩), .agg #[.int .i64 k, .int .i64 x], e] W1 fun r w2 => ∃ av nv cv, r = .returned (.agg #[.bool false, .int .i64 wt, .slice av nv cv]) ∧ P W1 w2 (.slice av nv cv))
    (hP : ∀ W1 w2 vk, P W1 w2 vk → (∃ vt', w2.heap[q]? = some (.cells #[.slice aa' n ca', vt'] 91 (0, 0))) ∧ w2.heap[w.heap.size]? = W1.heap[w.heap.size]? ∧ W1.heap.size ≤ w2.heap.size) :
    Calls Try.prog 24 #[.pointer (some ⟨q, 0, none⟩), e] w fun r w' => ∃ W1 w2 vk, r = .returned (.agg #[.bool (decide (n = 0)), .int .i64 (if n = 0 then 0 else wt), vk]) ∧ W1.heap.size = w.heap.size + 2 ∧ Kb (fun b => b = q) w W1 ∧ P W1 w2 vk ∧ Kb (fun b => b = w.heap.size) w2 w' := by
  have c0 := cells_of_block hq 0
  simp only [List.getElem?_toArray, List.getElem?_cons_zero] at c0
  have hqs := (Array.getElem?_eq_some_iff.1 hq).1
  have hbs := World.block_lt_of_cell? w _ h0
  have hbs' : b < w.heap.size := hbs
  have al : ∀ o (ad : Addr) v, ad.block < w.heap.size → w.cell? ad = some v → (w.alloc o).cell? ad = some v := fun o ad v h1 h2 => (((Below.refl w.heap.size w).alloc (Nat.le_refl _) o).cell (p := ad) h1).trans h2
  have c1 := al (.cells #[.bool false, .int .i64 0, .slice none 0 0] 64) ⟨q, 0, none⟩ _ hqs c0
  have d0 := al (.cells #[.bool false, .int .i64 0, .slice none 0 0] 64) ⟨b, off, none⟩ _ hbs' h0
  have d1 := al (.cells #[.bool false, .int .i64 0, .slice none 0 0] 64) ⟨b, off + 1, none⟩ _ hbs' h1
  have HQ : Hid _ := hq
  have HHD : Hid _ := HD
  have HHP : Hid _ := hP
  clear HD hP hq al
  have fq : w.frozen? ⟨q, 0, none⟩ = false := by simp [World.frozen?, HQ.out]
  by_cases hc1 : ca = 1
  · rw [if_pos hc1] at ha'
    obtain ⟨rfl, rfl⟩ := ha'
    obtain rfl : n = 0 := by omega
    subst hc1
    go_enter Try.func24, Try.ntmps24
    go_wp2_with fail
    obtain ⟨W1, hW1⟩ : ∃ W1, ((w.setCell ⟨q, 0, none⟩ (.slice (some ⟨b, off, none⟩) 0 0)).alloc (.cells #[.bool false, .int .i64 0, .slice none 0 0] 64)).alloc (.cells #[.int .i64 k, .int .i64 x] 54) = W1 := ⟨_, rfl⟩
    rw [hW1]
    have hs1 : W1.heap.size = w.heap.size + 2 := by rw [← hW1]; simp
    have k1 : Kb (fun b => b = q) w W1 := by rw [← hW1]; exact ((kb_one w q 0 _).alloc _).alloc _
    have hq1 : W1.heap[q]? = some (.cells #[.slice (some ⟨b, off, none⟩) 0 0, vt] 91 (0, 0)) := by
      rw [← hW1, Below.heap_alloc _ _ _ (by simp; omega), Below.heap_alloc _ _ _ (by simp; omega)]
      exact block_set HQ.out 0 _
    have hr1 : W1.heap[w.heap.size]? = some (.cells #[.bool false, .int .i64 0, .slice none 0 0] 64 (0, 0)) := by
      rw [← hW1, Below.heap_alloc _ _ _ (by simp)]
      have := World.alloc_heap_new (w.setCell ⟨q, 0, none⟩ (.slice (some ⟨b, off, none⟩) 0 0)) (.cells #[.bool false, .int .i64 0, .slice none 0 0] 64)
      simpa using this
    refine (HHD.out W1 hs1 k1 hq1).mono ?_
    rintro e' w2 ⟨av, nv, cv, rfl, hPw⟩
    obtain ⟨⟨vt', hq2⟩, hr2, hs2⟩ := HHP.out _ _ _ hPw
    rw [hr1] at hr2
    obtain ⟨H0, hH0⟩ : ∃ H0, w.heap.size = H0 := ⟨_, rfl⟩
    rw [hH0] at hr2
    rw [hH0]
    have hq2s := (Array.getElem?_eq_some_iff.1 hq2).1
    have hr2s := (Array.getElem?_eq_some_iff.1 hr2).1
    have HPW : Hid _ := hPw
    have HQ2 : Hid _ := hq2
    have HR2 : Hid _ := hr2
    have HS1 : Hid _ := hs1
    have HK1 : Hid _ := k1
    have HH0 : Hid _ := hH0
    have AL : Hid (∀ o j v, w2.cell? ⟨q, j, none⟩ = some v → (w2.alloc o).cell? ⟨q, j, none⟩ = some v) := fun o j v h => (((Below.refl w2.heap.size w2).alloc (Nat.le_refl _) o).cell (p := ⟨q, j, none⟩) hq2s).trans h
    have cq2 : w2.cell? ⟨q, 0, none⟩ = some (.slice (some ⟨b, off, none⟩) 0 0) := by have := cells_of_block hq2 0; simpa using this
    have AH : Hid (∀ o, (w2.alloc o).heap[H0]? = some (.cells #[.bool false, .int .i64 0, .slice none 0 0] 64 (0, 0))) := fun o => (Below.heap_alloc _ _ _ hr2s).trans HR2.out
    have e0 : (w2.alloc (.cells #[.bool false, .int .i64 wt, .slice av nv cv] 64)).cell? ⟨q, 0, none⟩ = some (.slice (some ⟨b, off, none⟩) 0 0) := AL.out _ 0 _ cq2
    clear hPw hq2 hr2 hr1 hq1 k1 hW1 hs1 hH0
    have ah := HR2.out
    have y0 := cells_of_block ah 0
    have y1 := cells_of_block ah 1
    have y2 := cells_of_block ah 2
    simp only [List.getElem?_toArray, List.getElem?_cons_succ, List.getElem?_cons_zero] at y0 y1 y2
    have z0 : w2.frozen? ⟨H0, 0, none⟩ = false := by simp [World.frozen?, ah]
    have z1 : w2.frozen? ⟨H0, 1, none⟩ = false := by simp [World.frozen?, ah]
    have z2 : w2.frozen? ⟨H0, 2, none⟩ = false := by simp [World.frozen?, ah]
    have HAH : Hid _ := ah
    clear ah
    go_wp2_with fail
    have h3' := three_put HAH.out (.bool true) (.int .i64 0) (.slice av nv cv)
    have h3 := (Below.heap_alloc _ (.cells #[.bool true, .int .i64 0, .slice av nv cv] 64) _ (Array.getElem?_eq_some_iff.1 h3').1).trans h3'
    have k3 : Kb (fun b => b = H0) w2 ((((w2.setCell ⟨H0, 0, none⟩ (.bool true)).setCell ⟨H0, 1, none⟩ (.int .i64 0)).setCell ⟨H0, 2, none⟩ (.slice av nv cv)).alloc (.cells #[.bool true, .int .i64 0, .slice av nv cv] 64)) := by
      have k0 : Kb (fun b => b = H0) w2 w2 := Kb.refl _ _
      exact (((k0.setCell rfl _ _).setCell rfl _ _).setCell rfl _ _).alloc _
    obtain ⟨Z, hZ⟩ : ∃ Z, (((w2.setCell ⟨H0, 0, none⟩ (.bool true)).setCell ⟨H0, 1, none⟩ (.int .i64 0)).setCell ⟨H0, 2, none⟩ (.slice av nv cv)).alloc (.cells #[.bool true, .int .i64 0, .slice av nv cv] 64) = Z := ⟨_, rfl⟩
    rw [hZ] at h3 k3 ⊢
    have r0 := cells_of_block h3 0
    have r1 := cells_of_block h3 1
    have r2 := cells_of_block h3 2
    simp only [List.getElem?_toArray, List.getElem?_cons_succ, List.getElem?_cons_zero] at r0 r1 r2
    exact ⟨rfl, .agg #[.bool true, .int .i64 0, .slice av nv cv], by simp [results, Try.f24, go_sem, r0, r1, r2], W1, w2, .slice av nv cv, by simp, HS1.out, HK1.out, HPW.out, by rw [HH0.out]; exact k3⟩
  · have hc2 : 1 < ca := by omega
    rw [if_neg hc1] at ha'
    obtain ⟨rfl, rfl⟩ := ha'
    by_cases hn0 : n = 0
    · subst hn0
      go_enter Try.func24, Try.ntmps24
      go_wp2_with fail
      obtain ⟨W1, hW1⟩ : ∃ W1, ((w.setCell ⟨q, 0, none⟩ (.slice (some ⟨b, off + 2, none⟩) 0 (ca - 1))).alloc (.cells #[.bool false, .int .i64 0, .slice none 0 0] 64)).alloc (.cells #[.int .i64 k, .int .i64 x] 54) = W1 := ⟨_, rfl⟩
      rw [hW1]
      have hs1 : W1.heap.size = w.heap.size + 2 := by rw [← hW1]; simp
      have k1 : Kb (fun b => b = q) w W1 := by rw [← hW1]; exact ((kb_one w q 0 _).alloc _).alloc _
      have hq1 : W1.heap[q]? = some (.cells #[.slice (some ⟨b, off + 2, none⟩) 0 (ca - 1), vt] 91 (0, 0)) := by
        rw [← hW1, Below.heap_alloc _ _ _ (by simp; omega), Below.heap_alloc _ _ _ (by simp; omega)]
        exact block_set HQ.out 0 _
      have hr1 : W1.heap[w.heap.size]? = some (.cells #[.bool false, .int .i64 0, .slice none 0 0] 64 (0, 0)) := by
        rw [← hW1, Below.heap_alloc _ _ _ (by simp)]
        have := World.alloc_heap_new (w.setCell ⟨q, 0, none⟩ (.slice (some ⟨b, off + 2, none⟩) 0 (ca - 1))) (.cells #[.bool false, .int .i64 0, .slice none 0 0] 64)
        simpa using this
      refine (HHD.out W1 hs1 k1 hq1).mono ?_
      rintro e' w2 ⟨av, nv, cv, rfl, hPw⟩
      obtain ⟨⟨vt', hq2⟩, hr2, hs2⟩ := HHP.out _ _ _ hPw
      rw [hr1] at hr2
      obtain ⟨H0, hH0⟩ : ∃ H0, w.heap.size = H0 := ⟨_, rfl⟩
      rw [hH0] at hr2
      rw [hH0]
      have hq2s := (Array.getElem?_eq_some_iff.1 hq2).1
      have hr2s := (Array.getElem?_eq_some_iff.1 hr2).1
      have HPW : Hid _ := hPw
      have HQ2 : Hid _ := hq2
      have HR2 : Hid _ := hr2
      have HS1 : Hid _ := hs1
      have HK1 : Hid _ := k1
      have HH0 : Hid _ := hH0
      have AL : Hid (∀ o j v, w2.cell? ⟨q, j, none⟩ = some v → (w2.alloc o).cell? ⟨q, j, none⟩ = some v) := fun o j v h => (((Below.refl w2.heap.size w2).alloc (Nat.le_refl _) o).cell (p := ⟨q, j, none⟩) hq2s).trans h
      have cq2 : w2.cell? ⟨q, 0, none⟩ = some (.slice (some ⟨b, off + 2, none⟩) 0 (ca - 1)) := by have := cells_of_block hq2 0; simpa using this
      have AH : Hid (∀ o, (w2.alloc o).heap[H0]? = some (.cells #[.bool false, .int .i64 0, .slice none 0 0] 64 (0, 0))) := fun o => (Below.heap_alloc _ _ _ hr2s).trans HR2.out
      have e0 : (w2.alloc (.cells #[.bool false, .int .i64 wt, .slice av nv cv] 64)).cell? ⟨q, 0, none⟩ = some (.slice (some ⟨b, off + 2, none⟩) 0 (ca - 1)) := AL.out _ 0 _ cq2
      clear hPw hq2 hr2 hr1 hq1 k1 hW1 hs1 hH0
      have ah := HR2.out
      have y0 := cells_of_block ah 0
      have y1 := cells_of_block ah 1
      have y2 := cells_of_block ah 2
      simp only [List.getElem?_toArray, List.getElem?_cons_succ, List.getElem?_cons_zero] at y0 y1 y2
      have z0 : w2.frozen? ⟨H0, 0, none⟩ = false := by simp [World.frozen?, ah]
      have z1 : w2.frozen? ⟨H0, 1, none⟩ = false := by simp [World.frozen?, ah]
      have z2 : w2.frozen? ⟨H0, 2, none⟩ = false := by simp [World.frozen?, ah]
      have HAH : Hid _ := ah
      clear ah
      go_wp2_with fail
      have h3' := three_put HAH.out (.bool true) (.int .i64 0) (.slice av nv cv)
      have h3 := (Below.heap_alloc _ (.cells #[.bool true, .int .i64 0, .slice av nv cv] 64) _ (Array.getElem?_eq_some_iff.1 h3').1).trans h3'
      have k3 : Kb (fun b => b = H0) w2 ((((w2.setCell ⟨H0, 0, none⟩ (.bool true)).setCell ⟨H0, 1, none⟩ (.int .i64 0)).setCell ⟨H0, 2, none⟩ (.slice av nv cv)).alloc (.cells #[.bool true, .int .i64 0, .slice av nv cv] 64)) := by
        have k0 : Kb (fun b => b = H0) w2 w2 := Kb.refl _ _
        exact (((k0.setCell rfl _ _).setCell rfl _ _).setCell rfl _ _).alloc _
      obtain ⟨Z, hZ⟩ : ∃ Z, (((w2.setCell ⟨H0, 0, none⟩ (.bool true)).setCell ⟨H0, 1, none⟩ (.int .i64 0)).setCell ⟨H0, 2, none⟩ (.slice av nv cv)).alloc (.cells #[.bool true, .int .i64 0, .slice av nv cv] 64) = Z := ⟨_, rfl⟩
      rw [hZ] at h3 k3 ⊢
      have r0 := cells_of_block h3 0
      have r1 := cells_of_block h3 1
      have r2 := cells_of_block h3 2
      simp only [List.getElem?_toArray, List.getElem?_cons_succ, List.getElem?_cons_zero] at r0 r1 r2
      exact ⟨rfl, .agg #[.bool true, .int .i64 0, .slice av nv cv], by simp [results, Try.f24, go_sem, r0, r1, r2], W1, w2, .slice av nv cv, by simp, HS1.out, HK1.out, HPW.out, by rw [HH0.out]; exact k3⟩
    · have hn1 : ((n : Int) == 0) = false := by simp; omega
      go_enter Try.func24, Try.ntmps24
      go_wp2_with fail
      obtain ⟨W1, hW1⟩ : ∃ W1, ((w.setCell ⟨q, 0, none⟩ (.slice (some ⟨b, off + 2, none⟩) n (ca - 1))).alloc (.cells #[.bool false, .int .i64 0, .slice none 0 0] 64)).alloc (.cells #[.int .i64 k, .int .i64 x] 54) = W1 := ⟨_, rfl⟩
      rw [hW1]
      have hs1 : W1.heap.size = w.heap.size + 2 := by rw [← hW1]; simp
      have k1 : Kb (fun b => b = q) w W1 := by rw [← hW1]; exact ((kb_one w q 0 _).alloc _).alloc _
      have hq1 : W1.heap[q]? = some (.cells #[.slice (some ⟨b, off + 2, none⟩) n (ca - 1), vt] 91 (0, 0)) := by
        rw [← hW1, Below.heap_alloc _ _ _ (by simp; omega), Below.heap_alloc _ _ _ (by simp; omega)]
        exact block_set HQ.out 0 _
      have hr1 : W1.heap[w.heap.size]? = some (.cells #[.bool false, .int .i64 0, .slice none 0 0] 64 (0, 0)) := by
        rw [← hW1, Below.heap_alloc _ _ _ (by simp)]
        have := World.alloc_heap_new (w.setCell ⟨q, 0, none⟩ (.slice (some ⟨b, off + 2, none⟩) n (ca - 1))) (.cells #[.bool false, .int .i64 0, .slice none 0 0] 64)
        simpa using this
      refine (HHD.out W1 hs1 k1 hq1).mono ?_
      rintro e' w2 ⟨av, nv, cv, rfl, hPw⟩
      obtain ⟨⟨vt', hq2⟩, hr2, hs2⟩ := HHP.out _ _ _ hPw
      rw [hr1] at hr2
      obtain ⟨H0, hH0⟩ : ∃ H0, w.heap.size = H0 := ⟨_, rfl⟩
      rw [hH0] at hr2
      rw [hH0]
      have hq2s := (Array.getElem?_eq_some_iff.1 hq2).1
      have hr2s := (Array.getElem?_eq_some_iff.1 hr2).1
      have HPW : Hid _ := hPw
      have HQ2 : Hid _ := hq2
      have HR2 : Hid _ := hr2
      have HS1 : Hid _ := hs1
      have HK1 : Hid _ := k1
      have HH0 : Hid _ := hH0
      have AL : Hid (∀ o j v, w2.cell? ⟨q, j, none⟩ = some v → (w2.alloc o).cell? ⟨q, j, none⟩ = some v) := fun o j v h => (((Below.refl w2.heap.size w2).alloc (Nat.le_refl _) o).cell (p := ⟨q, j, none⟩) hq2s).trans h
      have cq2 : w2.cell? ⟨q, 0, none⟩ = some (.slice (some ⟨b, off + 2, none⟩) n (ca - 1)) := by have := cells_of_block hq2 0; simpa using this
      have AH : Hid (∀ o, (w2.alloc o).heap[H0]? = some (.cells #[.bool false, .int .i64 0, .slice none 0 0] 64 (0, 0))) := fun o => (Below.heap_alloc _ _ _ hr2s).trans HR2.out
      have e0 : (w2.alloc (.cells #[.bool false, .int .i64 wt, .slice av nv cv] 64)).cell? ⟨q, 0, none⟩ = some (.slice (some ⟨b, off + 2, none⟩) n (ca - 1)) := AL.out _ 0 _ cq2
      clear hPw hq2 hr2 hr1 hq1 k1 hW1 hs1 hH0
      have ah := HR2.out
      have y0 := cells_of_block ah 0
      have y1 := cells_of_block ah 1
      have y2 := cells_of_block ah 2
      simp only [List.getElem?_toArray, List.getElem?_cons_succ, List.getElem?_cons_zero] at y0 y1 y2
      have z0 : w2.frozen? ⟨H0, 0, none⟩ = false := by simp [World.frozen?, ah]
      have z1 : w2.frozen? ⟨H0, 1, none⟩ = false := by simp [World.frozen?, ah]
      have z2 : w2.frozen? ⟨H0, 2, none⟩ = false := by simp [World.frozen?, ah]
      have HAH : Hid _ := ah
      clear ah
      go_wp2_with fail
      have h3' := three_put HAH.out (.bool false) (.int .i64 wt) (.slice av nv cv)
      have h3 := (Below.heap_alloc _ (.cells #[.bool false, .int .i64 wt, .slice av nv cv] 64) _ (Array.getElem?_eq_some_iff.1 h3').1).trans h3'
      have k3 : Kb (fun b => b = H0) w2 ((((w2.setCell ⟨H0, 0, none⟩ (.bool false)).setCell ⟨H0, 1, none⟩ (.int .i64 wt)).setCell ⟨H0, 2, none⟩ (.slice av nv cv)).alloc (.cells #[.bool false, .int .i64 wt, .slice av nv cv] 64)) := by
        have k0 : Kb (fun b => b = H0) w2 w2 := Kb.refl _ _
        exact (((k0.setCell rfl _ _).setCell rfl _ _).setCell rfl _ _).alloc _
      obtain ⟨Z, hZ⟩ : ∃ Z, (((w2.setCell ⟨H0, 0, none⟩ (.bool false)).setCell ⟨H0, 1, none⟩ (.int .i64 wt)).setCell ⟨H0, 2, none⟩ (.slice av nv cv)).alloc (.cells #[.bool false, .int .i64 wt, .slice av nv cv] 64) = Z := ⟨_, rfl⟩
      rw [hZ] at h3 k3 ⊢
      have r0 := cells_of_block h3 0
      have r1 := cells_of_block h3 1
      have r2 := cells_of_block h3 2
      simp only [List.getElem?_toArray, List.getElem?_cons_succ, List.getElem?_cons_zero] at r0 r1 r2
      exact ⟨rfl, .agg #[.bool false, .int .i64 wt, .slice av nv cv], by simp [results, Try.f24, go_sem, r0, r1, r2], W1, w2, .slice av nv cv, by simp, HS1.out, HK1.out, HPW.out, by rw [HH0.out]; exact k3⟩
set_option maxRecDepth 100000 in
set_option maxHeartbeats 4000000 in
theorem do_nowL (p q B k : Nat) (n : Int) (v0 v1 v2 v3 v4 v6 v7 va vt : Value) (now : Int) (told : List Int) (w : World) (hp : w.heap[p]? = some (.cells #[v0, v1, v2, v3, v4, .int .u64 now, v6, v7] 83 (0, 0)))
    (hq : w.heap[q]? = some (.cells #[va, vt] 91 (0, 0))) (ht : w.ownsRow B 45 1 vt k (told.map nV)) (hB : B ≤ w.heap.size) (hk : k ≤ 10000000000000) :
    Calls Try.prog 46 #[.pointer (some ⟨q, 0, none⟩), .agg #[.int .i64 4, .int .i64 n], .pointer (some ⟨p, 5, none⟩)] w fun r w' => r = .returned (.agg #[.bool false, .int .i64 0, .slice none 0 0]) ∧ ∃ vt', Took p q B vt w w' #[v0, v1, v2, v3, v4, .int .u64 now, v6, v7] va vt' (told ++ [now]) := by
  obtain ⟨i0, hi, hz0, hz1, hz2⟩ := info_parts info45
  obtain ⟨a, c, rfl⟩ := row_form ht
  have hkl : told.length = k := by have := ht.1; rw [List.length_map] at this; omega
  have HKL : Hid _ := hkl
  have hqs := (Array.getElem?_eq_some_iff.1 hq).1
  have hps := (Array.getElem?_eq_some_iff.1 hp).1
  go_enter Try.func46, Try.ntmps46
  go_upto_region 7 with fail
  obtain ⟨W1, hW1⟩ : ∃ W1, (w.alloc (.cells #[.int .i64 4, .int .i64 n] 54)).alloc (.cells #[.bool false, .int .i64 0, .slice none 0 0] 64) = W1 := ⟨_, rfl⟩
  rw [hW1]
  have b1 : Below w.heap.size w W1 := by rw [← hW1]; exact ((Below.refl _ _).alloc (Nat.le_refl _) _).alloc (by simp) _
  have hs1 : W1.heap.size = w.heap.size + 2 := by rw [← hW1]; simp
  have hr1 : W1.heap[w.heap.size + 1]? = some (.cells #[.bool false, .int .i64 0, .slice none 0 0] 64 (0, 0)) := by
    have := World.alloc_heap_new (w.alloc (.cells #[.int .i64 4, .int .i64 n] 54)) (.cells #[.bool false, .int .i64 0, .slice none 0 0] 64)
    rw [World.size_alloc, hW1] at this
    exact this
  have hp1 := (b1.block p hps).trans hp
  have hq1 := (b1.block q hqs).trans hq
  have ht1 : W1.ownsRow B 45 1 (.slice a k c) k (told.map nV) := owns_same ht (fun g e => b1.block g (ht.lt g e).2)
  obtain ⟨H0, hH0⟩ : ∃ H0, w.heap.size = H0 := ⟨_, rfl⟩
  rw [hH0] at hs1 hr1 hqs hps hB b1
  rw [hH0]
  have hqt : (Value.slice a k c).ownBlock ≠ some q := fun e => by
    rcases ht1.2 with ⟨ev, _⟩ | ⟨g, cap, cur, ev, _, hh, _⟩
    · rw [ev] at e; cases e
    · rw [ev] at e
      simp only [Value.ownBlock, Option.some.injEq] at e
      subst e
      rw [hq1] at hh
      simp at hh
  have hpt : (Value.slice a k c).ownBlock ≠ some p := fun e => by
    rcases ht1.2 with ⟨ev, _⟩ | ⟨g, cap, cur, ev, _, hh, _⟩
    · rw [ev] at e; cases e
    · rw [ev] at e
      simp only [Value.ownBlock, Option.some.injEq] at e
      subst e
      rw [hp1] at hh
      simp at hh
  have hrt : (Value.slice a k c).ownBlock ≠ some (H0 + 1) := fun e => by have := (ht.lt _ e).2; omega
  have HLT : Hid (∀ b, (Value.slice a k c).ownBlock = some b → b < H0) := fun b e => by have := (ht.lt _ e).2; omega
  have hpq : p ≠ q := fun e => by rw [e, hq1] at hp1; simp at hp1
  have HNW : Hid (∀ W : World, W.heap[p]? = some (.cells #[v0, v1, v2, v3, v4, .int .u64 now, v6, v7] 83 (0, 0)) → Calls Try.prog 28 #[.pointer (some ⟨p, 5, none⟩)] W fun r w' => r = .returned (.int .u64 now) ∧ w' = W) := fun W h => envNow_any p v0 v1 v2 v3 v4 v6 v7 now W h
  have cq := cells_of_block hq1 1
  simp only [List.getElem?_toArray, List.getElem?_cons_succ, List.getElem?_cons_zero] at cq
  have HP1 : Hid _ := hp1
  have HQ1 : Hid _ := hq1
  have HT1 : Hid _ := ht1
  have HR1 : Hid _ := hr1
  have hra : Hid (∀ o, (W1.alloc o).ownsRow B 45 1 (.slice a k c) k (told.map nV)) := fun o => World.ownsRow.alloc HT1.out o
  have hqW : q < W1.heap.size := by omega
  have HX : Hid (∀ (w2 : World) (o : Obj), (W1.alloc o).grownBy w2 (Value.slice a k c).ownBlock → w2.cell? ⟨q, 1, none⟩ = some (.slice a k c) ∧ w2.frozen? ⟨q, 1, none⟩ = false) := fun w2 o hg => by
    have hh : w2.heap[q]? = some (.cells #[va, .slice a k c] 91 (0, 0)) := (hg.block q (by simp; omega) (fun e => hqt e.symm)).trans ((Below.heap_alloc _ _ _ hqW).trans HQ1.out)
    exact ⟨by have := cells_of_block hh 1; simpa using this, by simp [World.frozen?, hh]⟩
  clear hp hq ht hp1 hq1 ht1 hr1 hW1 hkl
  have HS1 : Hid (W1.heap.size = H0 + 2) := hs1
  have hBW : B ≤ W1.heap.size := by omega
  clear hs1
  go_region_law (first
    | (have hno := HNW; go_simp; go_wp2_with (go_at_call 28; refine (HNW.out W1.drew HP1.out).mono ?_; rintro e w5 ⟨rfl, hw5⟩; subst hw5); clear HNW)
    | (refine step_append_lies _ rfl (.tmp 26) (.tmp 29) 23 rfl B 45 i0 (.int .u64 0) 1 8 Try.underlying23 hi hz0 hz1 hz2 rfl (by decide) _ _ _ rfl (by exact hra.out _) ⟨W1.heap.size, 0, none⟩ 1 1 [.int .u64 now] rfl rfl (by exact cell_one_new _ _ _) (by simp [Value.oneCell']) (by decide) (by unfold maxLen; omega) (by omega) (by simp; omega) (W1.heap.size + 1) (by simp) ?_; intro g cap w2 hown2 hg2 hat2 hlt2; obtain ⟨x1, x2⟩ := HX.out w2 _ (grownBy_undrew hg2)))
  all_goals
    have hlt : ∀ b, (Value.slice a k c).ownBlock = some b → b < H0 := HLT.out
    obtain ⟨hrY, hT⟩ := took_of (S := fun _ => False) (x := now) (fun _ h => h.elim) hH0 (Kb.of_below (by rw [hH0]; exact b1)) (by rw [HS1.out]; exact Nat.le_refl _) HP1.out HQ1.out HR1.out HKL.out HT1.out hps hqs hpq hlt hown2 (grownBy_undrew hg2) hat2
    obtain ⟨Y, hY⟩ : ∃ Y, w2.setCell ⟨q, 1, none⟩ (.slice (some ⟨g, 0, none⟩) (k + 1) cap) = Y := ⟨_, rfl⟩
    rw [hY] at hrY hT ⊢
    have HTK : Hid _ := hT
    have y0 := cells_of_block hrY 0
    have y1 := cells_of_block hrY 1
    have y2 := cells_of_block hrY 2
    simp only [List.getElem?_toArray, List.getElem?_cons_succ, List.getElem?_cons_zero] at y0 y1 y2
    have z0 : Y.frozen? ⟨H0 + 1, 0, none⟩ = false := by simp [World.frozen?, hrY]
    have z1 : Y.frozen? ⟨H0 + 1, 1, none⟩ = false := by simp [World.frozen?, hrY]
    have z2 : Y.frozen? ⟨H0 + 1, 2, none⟩ = false := by simp [World.frozen?, hrY]
    have HRY : Hid _ := hrY
    have HGN : Hid (g ≠ H0 + 1) := fun e => by
      have := HS1.out
      rcases hat2 with h | h
      · have := hlt _ h; omega
      · omega
    clear hown2 hg2 hat2 hlt2 x1 x2 hY hT hrY
    go_wp2_with fail
    have h3 := three_set HRY.out
    obtain ⟨Z, hZ⟩ : ∃ Z, ((Y.setCell ⟨H0 + 1, 0, none⟩ (.bool false)).setCell ⟨H0 + 1, 1, none⟩ (.int .i64 0)).setCell ⟨H0 + 1, 2, none⟩ (.slice none 0 0) = Z := ⟨_, rfl⟩
    have hgn : (Value.slice (some ⟨g, 0, none⟩) (k + 1) cap).ownBlock ≠ some (H0 + 1) := fun e => HGN.out (by simpa [Value.ownBlock] using e)
    have hT3 := ((HTK.out.set (b := H0 + 1) (by omega) (by omega) (by omega) hgn 0 (.bool false)).set (b := H0 + 1) (by omega) (by omega) (by omega) hgn 1 (.int .i64 0)).set (b := H0 + 1) (by omega) (by omega) (by omega) hgn 2 (.slice none 0 0)
    rw [hZ] at h3 hT3 ⊢
    have r0 := cells_of_block h3 0
    have r1 := cells_of_block h3 1
    have r2 := cells_of_block h3 2
    simp only [List.getElem?_toArray, List.getElem?_cons_succ, List.getElem?_cons_zero] at r0 r1 r2
    exact ⟨rfl, _, by simp [results, Try.f46, go_sem, r0, r1, r2], rfl, _, hT3⟩
theorem task_nowL (p : Nat) (t : Tk) (x : Int) (l : List (Int × Int)) (v0 v1 v2 v3 v4 v6 v7 : Value) (now : Int) (w : World) (ht : TkAt (p + 1) w t) (hl : t.acts = (4, x) :: l) (hll : l.length < 1000000000000000) (htl : t.told.length ≤ 10000000000000)
    (hp : w.heap[p]? = some (.cells #[v0, v1, v2, v3, v4, .int .u64 now, v6, v7] 83 (0, 0))) :
    Calls Try.prog 24 #[.pointer (some ⟨t.q, 0, none⟩), .pointer (some ⟨p, 5, none⟩)] w fun r w' => r = .returned (.agg #[.bool (decide (l.length = 0)), .int .i64 0, .slice none 0 0]) ∧ ∃ t', t'.q = t.q ∧ t'.acts = l ∧ t'.told = t.told ++ [now] ∧ Stepped p t t' w w' #[v0, v1, v2, v3, v4, .int .u64 now, v6, v7] := by
  obtain ⟨b, off, haa, _, h0, h1⟩ := ht.acts 0 (4, x) (by rw [hl]; rfl)
  obtain ⟨aa', ca', ha'⟩ : ∃ aa' ca', if t.ca = 1 then aa' = some (⟨b, off, none⟩ : Addr) ∧ ca' = 0 else aa' = some ⟨b, off + 2, none⟩ ∧ ca' = t.ca - 1 := by
    by_cases hc : t.ca = 1
    · exact ⟨_, _, by rw [if_pos hc]; exact ⟨rfl, rfl⟩⟩
    · exact ⟨_, _, by rw [if_neg hc]; exact ⟨rfl, rfl⟩⟩
  have hq := ht.hq
  have hpq : p ≠ t.q := by have := ht.ge; omega
  have hps := (Array.getElem?_eq_some_iff.1 hp).1
  have hqs := (Array.getElem?_eq_some_iff.1 hq).1
  have htb : ∀ g, t.vt.ownBlock = some g → p + 1 ≤ g ∧ g < w.heap.size ∧ g ≠ t.q := fun g e => by
    obtain ⟨h1, h2⟩ := ht.told.lt g e
    refine ⟨h1, h2, fun e2 => ?_⟩
    rcases ht.told.2 with ⟨ev, _⟩ | ⟨g', cap', cur, ev, _, hh, _⟩
    · rw [ev] at e; cases e
    · rw [ev] at e
      simp only [Value.ownBlock, Option.some.injEq] at e
      rw [e, e2, hq] at hh
      simp at hh
  rw [haa, hl, List.length_cons] at hq
  have := actStep_consL t.q l.length b off t.ca 4 x t.vt (.pointer (some ⟨p, 5, none⟩)) w hq (by have := ht.len; rw [hl] at this; simpa using this) hll (by simpa using h0) (by simpa using h1) aa' ca' ha' 0
    (fun W1 w2 vk => vk = .slice none 0 0 ∧ W1.heap.size = w.heap.size + 2 ∧ ∃ vt', Took p t.q (p + 1) t.vt W1 w2 #[v0, v1, v2, v3, v4, .int .u64 now, v6, v7] (.slice aa' l.length ca') vt' (t.told ++ [now]))
    (fun W1 hs1 k1 hq1 => by
      have hp1 := (k1.block p hps hpq).trans hp
      have ht1 : W1.ownsRow (p + 1) 45 1 t.vt t.told.length (t.told.map nV) := owns_same ht.told (fun g e => k1.block g (htb g e).2.1 (htb g e).2.2)
      refine (do_nowL p t.q (p + 1) t.told.length x v0 v1 v2 v3 v4 v6 v7 _ t.vt now t.told W1 hp1 hq1 ht1 (by omega) htl).mono ?_
      rintro r w2 ⟨rfl, vt', hT⟩
      exact ⟨none, 0, 0, rfl, rfl, hs1, vt', hT⟩)
    (fun W1 w2 vk ⟨_, hs1, vt', hT⟩ => ⟨⟨vt', hT.hq⟩, hT.kb.block _ (by omega) (by
      rintro (e | e | e)
      · omega
      · omega
      · have := (htb _ e).2.1; omega), hT.kb.size⟩)
  refine this.mono ?_
  rintro r w' ⟨W1, w2, vk, rfl, hs1, k1, ⟨rfl, _, vt', hT⟩, k2⟩
  exact ⟨by simp, { q := t.q, acts := l, aa := aa', ca := ca', vt := vt', told := t.told ++ [now] }, rfl, rfl, rfl, stepped_of ht hl haa ha' hp hs1 k1 hT k2⟩

theorem task_drawL (p : Nat) (t : Tk) (x : Int) (l : List (Int × Int)) (v0 v1 v2 v3 v4 v5 vd : Value) (draws : List Int) (fu : Nat) (w : World) (ht : TkAt (p + 1) w t) (hl : t.acts = (5, x) :: l) (hll : l.length < 1000000000000000) (htl : t.told.length ≤ 10000000000000)
    (hp : w.heap[p]? = some (.cells #[v0, v1, v2, v3, v4, v5, vd, .int .u64 (fu : Nat)] 83 (0, 0))) (hd : RowAt p w vd (draws.map nV)) (hdl : draws.length ≤ 65536) (hfu : fu < 100000000000000000) :
    Calls Try.prog 24 #[.pointer (some ⟨t.q, 0, none⟩), .pointer (some ⟨p, 5, none⟩)] w fun r w' => r = .returned (.agg #[.bool (decide (l.length = 0)), .int .i64 0, .slice none 0 0]) ∧ ∃ t' vd', t'.q = t.q ∧ t'.acts = l ∧ t'.told = t.told ++ [drawI draws fu] ∧ RowAt p w' vd' (draws.tail.map nV) ∧ Stepped p t t' w w' #[v0, v1, v2, v3, v4, v5, vd', .int .u64 (fuN draws fu : Nat)] ∧ (∀ lo, AddrGe lo vd → AddrGe lo vd') := by
  obtain ⟨b, off, haa, _, h0, h1⟩ := ht.acts 0 (5, x) (by rw [hl]; rfl)
  obtain ⟨aa', ca', ha'⟩ : ∃ aa' ca', if t.ca = 1 then aa' = some (⟨b, off, none⟩ : Addr) ∧ ca' = 0 else aa' = some ⟨b, off + 2, none⟩ ∧ ca' = t.ca - 1 := by
    by_cases hc : t.ca = 1
    · exact ⟨_, _, by rw [if_pos hc]; exact ⟨rfl, rfl⟩⟩
    · exact ⟨_, _, by rw [if_neg hc]; exact ⟨rfl, rfl⟩⟩
  have hq := ht.hq
  have hpq : p ≠ t.q := by have := ht.ge; omega
  have hps := (Array.getElem?_eq_some_iff.1 hp).1
  have hqs := (Array.getElem?_eq_some_iff.1 hq).1
  have htb : ∀ g, t.vt.ownBlock = some g → p + 1 ≤ g ∧ g < w.heap.size ∧ g ≠ t.q := fun g e => by
    obtain ⟨h1, h2⟩ := ht.told.lt g e
    refine ⟨h1, h2, fun e2 => ?_⟩
    rcases ht.told.2 with ⟨ev, _⟩ | ⟨g', cap', cur, ev, _, hh, _⟩
    · rw [ev] at e; cases e
    · rw [ev] at e
      simp only [Value.ownBlock, Option.some.injEq] at e
      rw [e, e2, hq] at hh
      simp at hh
  rw [haa, hl, List.length_cons] at hq
  have := actStep_consL t.q l.length b off t.ca 5 x t.vt (.pointer (some ⟨p, 5, none⟩)) w hq (by have := ht.len; rw [hl] at this; simpa using this) hll (by simpa using h0) (by simpa using h1) aa' ca' ha' 0
    (fun W1 w2 vk => vk = .slice none 0 0 ∧ W1.heap.size = w.heap.size + 2 ∧ ∃ vt' vd', RowAt p w2 vd' (draws.tail.map nV) ∧ Took p t.q (p + 1) t.vt W1 w2 #[v0, v1, v2, v3, v4, v5, vd', .int .u64 (fuN draws fu : Nat)] (.slice aa' l.length ca') vt' (t.told ++ [drawI draws fu]) ∧ (∀ lo, AddrGe lo vd → AddrGe lo vd'))
    (fun W1 hs1 k1 hq1 => by
      have hp1 := (k1.block p hps hpq).trans hp
      have ht1 : W1.ownsRow (p + 1) 45 1 t.vt t.told.length (t.told.map nV) := owns_same ht.told (fun g e => k1.block g (htb g e).2.1 (htb g e).2.2)
      refine (do_drawL p t.q (p + 1) t.told.length fu x v0 v1 v2 v3 v4 v5 vd _ t.vt draws t.told W1 hp1 (hd.kb hps (S := fun b => b = t.q) (fun b e => by have := ht.ge; omega) k1) hdl hfu hq1 ht1 (by omega) ⟨by have := ht.ge; omega, by omega⟩ htl).mono ?_
      rintro r w2 ⟨rfl, vt', vd', hd2, hT, hge⟩
      exact ⟨none, 0, 0, rfl, rfl, hs1, vt', vd', hd2, hT, hge⟩)
    (fun W1 w2 vk ⟨_, hs1, vt', vd', _, hT, _⟩ => ⟨⟨vt', hT.hq⟩, hT.kb.block _ (by omega) (by
      rintro (e | e | e)
      · omega
      · omega
      · have := (htb _ e).2.1; omega), hT.kb.size⟩)
  refine this.mono ?_
  rintro r w' ⟨W1, w2, vk, rfl, hs1, k1, ⟨rfl, _, vt', vd', hd2, hT, hge⟩, k2⟩
  exact ⟨by simp, { q := t.q, acts := l, aa := aa', ca := ca', vt := vt', told := t.told ++ [drawI draws fu] }, vd', rfl, rfl, rfl, hd2.kb (by have := hT.kb.size; omega) (S := fun b => b = w.heap.size) (fun b e => by omega) k2, stepped_of ht hl haa ha' hp hs1 k1 hT k2, hge⟩

theorem task_goL (p : Nat) (t : Tk) (k x : Int) (l : List (Int × Int)) (cs : Array Value) (w : World) (ht : TkAt (p + 1) w t) (hl : t.acts = (k, x) :: l) (hll : l.length < 1000000000000000) (h2 : k ≠ 2) (h3 : k ≠ 3) (h4 : k ≠ 4) (h5 : k ≠ 5)
    (hp : w.heap[p]? = some (.cells cs 83 (0, 0))) :
    Calls Try.prog 24 #[.pointer (some ⟨t.q, 0, none⟩), .pointer (some ⟨p, 5, none⟩)] w fun r w' => r = .returned (.agg #[.bool (decide (l.length = 0)), .int .i64 0, .slice none 0 0]) ∧ ∃ t', t'.q = t.q ∧ t'.acts = l ∧ t'.told = t.told ∧ Stepped p t t' w w' cs := by
  obtain ⟨b, off, haa, _, h0, h1⟩ := ht.acts 0 (k, x) (by rw [hl]; rfl)
  obtain ⟨aa', ca', ha'⟩ : ∃ aa' ca', if t.ca = 1 then aa' = some (⟨b, off, none⟩ : Addr) ∧ ca' = 0 else aa' = some ⟨b, off + 2, none⟩ ∧ ca' = t.ca - 1 := by
    by_cases hc : t.ca = 1
    · exact ⟨_, _, by rw [if_pos hc]; exact ⟨rfl, rfl⟩⟩
    · exact ⟨_, _, by rw [if_neg hc]; exact ⟨rfl, rfl⟩⟩
  have hq := ht.hq
  have hpq : p ≠ t.q := by have := ht.ge; omega
  have hps := (Array.getElem?_eq_some_iff.1 hp).1
  have hqs := (Array.getElem?_eq_some_iff.1 hq).1
  have htb : ∀ g, t.vt.ownBlock = some g → p + 1 ≤ g ∧ g < w.heap.size ∧ g ≠ t.q := fun g e => by
    obtain ⟨h1, h2⟩ := ht.told.lt g e
    refine ⟨h1, h2, fun e2 => ?_⟩
    rcases ht.told.2 with ⟨ev, _⟩ | ⟨g', cap', cur, ev, _, hh, _⟩
    · rw [ev] at e; cases e
    · rw [ev] at e
      simp only [Value.ownBlock, Option.some.injEq] at e
      rw [e, e2, hq] at hh
      simp at hh
  rw [haa, hl, List.length_cons] at hq
  have := actStep_consL t.q l.length b off t.ca k x t.vt (.pointer (some ⟨p, 5, none⟩)) w hq (by have := ht.len; rw [hl] at this; simpa using this) hll (by simpa using h0) (by simpa using h1) aa' ca' ha' 0
    (fun W1 w2 vk => vk = .slice none 0 0 ∧ W1.heap.size = w.heap.size + 2 ∧ ∃ vt', Took p t.q (p + 1) t.vt W1 w2 cs (.slice aa' l.length ca') vt' (t.told))
    (fun W1 hs1 k1 hq1 => by
      have hp1 := (k1.block p hps hpq).trans hp
      have ht1 : W1.ownsRow (p + 1) 45 1 t.vt t.told.length (t.told.map nV) := owns_same ht.told (fun g e => k1.block g (htb g e).2.1 (htb g e).2.2)
      refine (do_go _ _ k x W1 h2 h3 h4 h5).mono ?_
      rintro r w2 ⟨rfl, hb⟩
      exact ⟨none, 0, 0, rfl, rfl, hs1, t.vt, took_same hb hp1 hq1 rfl ht1⟩)
    (fun W1 w2 vk ⟨_, hs1, vt', hT⟩ => ⟨⟨vt', hT.hq⟩, hT.kb.block _ (by omega) (by
      rintro (e | e | e)
      · omega
      · omega
      · have := (htb _ e).2.1; omega), hT.kb.size⟩)
  refine this.mono ?_
  rintro r w' ⟨W1, w2, vk, rfl, hs1, k1, ⟨rfl, _, vt', hT⟩, k2⟩
  exact ⟨by simp, { q := t.q, acts := l, aa := aa', ca := ca', vt := vt', told := t.told }, rfl, rfl, rfl, stepped_of ht hl haa ha' hp hs1 k1 hT k2⟩

theorem task_waitL (p : Nat) (t : Tk) (x : Int) (l : List (Int × Int)) (cs : Array Value) (w : World) (ht : TkAt (p + 1) w t) (hl : t.acts = (2, x) :: l) (hll : l.length < 1000000000000000)
    (hp : w.heap[p]? = some (.cells cs 83 (0, 0))) :
    Calls Try.prog 24 #[.pointer (some ⟨t.q, 0, none⟩), .pointer (some ⟨p, 5, none⟩)] w fun r w' => r = .returned (.agg #[.bool (decide (l.length = 0)), .int .i64 (if l.length = 0 then 0 else x), .slice none 0 0]) ∧ ∃ t', t'.q = t.q ∧ t'.acts = l ∧ t'.told = t.told ∧ Stepped p t t' w w' cs := by
  obtain ⟨b, off, haa, _, h0, h1⟩ := ht.acts 0 (2, x) (by rw [hl]; rfl)
  obtain ⟨aa', ca', ha'⟩ : ∃ aa' ca', if t.ca = 1 then aa' = some (⟨b, off, none⟩ : Addr) ∧ ca' = 0 else aa' = some ⟨b, off + 2, none⟩ ∧ ca' = t.ca - 1 := by
    by_cases hc : t.ca = 1
    · exact ⟨_, _, by rw [if_pos hc]; exact ⟨rfl, rfl⟩⟩
    · exact ⟨_, _, by rw [if_neg hc]; exact ⟨rfl, rfl⟩⟩
  have hq := ht.hq
  have hpq : p ≠ t.q := by have := ht.ge; omega
  have hps := (Array.getElem?_eq_some_iff.1 hp).1
  have hqs := (Array.getElem?_eq_some_iff.1 hq).1
  have htb : ∀ g, t.vt.ownBlock = some g → p + 1 ≤ g ∧ g < w.heap.size ∧ g ≠ t.q := fun g e => by
    obtain ⟨h1, h2⟩ := ht.told.lt g e
    refine ⟨h1, h2, fun e2 => ?_⟩
    rcases ht.told.2 with ⟨ev, _⟩ | ⟨g', cap', cur, ev, _, hh, _⟩
    · rw [ev] at e; cases e
    · rw [ev] at e
      simp only [Value.ownBlock, Option.some.injEq] at e
      rw [e, e2, hq] at hh
      simp at hh
  rw [haa, hl, List.length_cons] at hq
  have := actStep_consL t.q l.length b off t.ca 2 x t.vt (.pointer (some ⟨p, 5, none⟩)) w hq (by have := ht.len; rw [hl] at this; simpa using this) hll (by simpa using h0) (by simpa using h1) aa' ca' ha' x
    (fun W1 w2 vk => vk = .slice none 0 0 ∧ W1.heap.size = w.heap.size + 2 ∧ ∃ vt', Took p t.q (p + 1) t.vt W1 w2 cs (.slice aa' l.length ca') vt' (t.told))
    (fun W1 hs1 k1 hq1 => by
      have hp1 := (k1.block p hps hpq).trans hp
      have ht1 : W1.ownsRow (p + 1) 45 1 t.vt t.told.length (t.told.map nV) := owns_same ht.told (fun g e => k1.block g (htb g e).2.1 (htb g e).2.2)
      refine (do_wait _ _ x W1).mono ?_
      rintro r w2 ⟨rfl, hb⟩
      exact ⟨none, 0, 0, rfl, rfl, hs1, t.vt, took_same hb hp1 hq1 rfl ht1⟩)
    (fun W1 w2 vk ⟨_, hs1, vt', hT⟩ => ⟨⟨vt', hT.hq⟩, hT.kb.block _ (by omega) (by
      rintro (e | e | e)
      · omega
      · omega
      · have := (htb _ e).2.1; omega), hT.kb.size⟩)
  refine this.mono ?_
  rintro r w' ⟨W1, w2, vk, rfl, hs1, k1, ⟨rfl, _, vt', hT⟩, k2⟩
  exact ⟨rfl, { q := t.q, acts := l, aa := aa', ca := ca', vt := vt', told := t.told }, rfl, rfl, rfl, stepped_of ht hl haa ha' hp hs1 k1 hT k2⟩

theorem task_wakeL (p : Nat) (t : Tk) (x : Int) (l : List (Int × Int)) (cs : Array Value) (w : World) (ht : TkAt (p + 1) w t) (hl : t.acts = (3, x) :: l) (hll : l.length < 1000000000000000)
    (hp : w.heap[p]? = some (.cells cs 83 (0, 0))) :
    Calls Try.prog 24 #[.pointer (some ⟨t.q, 0, none⟩), .pointer (some ⟨p, 5, none⟩)] w fun r w' => ∃ g, r = .returned (.agg #[.bool (decide (l.length = 0)), .int .i64 0, .slice (some ⟨g, 0, none⟩) 1 1]) ∧ w.heap.size ≤ g ∧ w'.cell? ⟨g, 0, none⟩ = some (.int .i64 x) ∧ ∃ t', t'.q = t.q ∧ t'.acts = l ∧ t'.told = t.told ∧ Stepped p t t' w w' cs := by
  obtain ⟨b, off, haa, _, h0, h1⟩ := ht.acts 0 (3, x) (by rw [hl]; rfl)
  obtain ⟨aa', ca', ha'⟩ : ∃ aa' ca', if t.ca = 1 then aa' = some (⟨b, off, none⟩ : Addr) ∧ ca' = 0 else aa' = some ⟨b, off + 2, none⟩ ∧ ca' = t.ca - 1 := by
    by_cases hc : t.ca = 1
    · exact ⟨_, _, by rw [if_pos hc]; exact ⟨rfl, rfl⟩⟩
    · exact ⟨_, _, by rw [if_neg hc]; exact ⟨rfl, rfl⟩⟩
  have hq := ht.hq
  have hpq : p ≠ t.q := by have := ht.ge; omega
  have hps := (Array.getElem?_eq_some_iff.1 hp).1
  have hqs := (Array.getElem?_eq_some_iff.1 hq).1
  have htb : ∀ g, t.vt.ownBlock = some g → p + 1 ≤ g ∧ g < w.heap.size ∧ g ≠ t.q := fun g e => by
    obtain ⟨h1, h2⟩ := ht.told.lt g e
    refine ⟨h1, h2, fun e2 => ?_⟩
    rcases ht.told.2 with ⟨ev, _⟩ | ⟨g', cap', cur, ev, _, hh, _⟩
    · rw [ev] at e; cases e
    · rw [ev] at e
      simp only [Value.ownBlock, Option.some.injEq] at e
      rw [e, e2, hq] at hh
      simp at hh
  rw [haa, hl, List.length_cons] at hq
  have := actStep_consL t.q l.length b off t.ca 3 x t.vt (.pointer (some ⟨p, 5, none⟩)) w hq (by have := ht.len; rw [hl] at this; simpa using this) hll (by simpa using h0) (by simpa using h1) aa' ca' ha' 0
    (fun W1 w2 vk => (∃ g, vk = .slice (some ⟨g, 0, none⟩) 1 1 ∧ w.heap.size + 2 ≤ g ∧ w2.cell? ⟨g, 0, none⟩ = some (.int .i64 x)) ∧ W1.heap.size = w.heap.size + 2 ∧ ∃ vt', Took p t.q (p + 1) t.vt W1 w2 cs (.slice aa' l.length ca') vt' (t.told))
    (fun W1 hs1 k1 hq1 => by
      have hp1 := (k1.block p hps hpq).trans hp
      have ht1 : W1.ownsRow (p + 1) 45 1 t.vt t.told.length (t.told.map nV) := owns_same ht.told (fun g e => k1.block g (htb g e).2.1 (htb g e).2.2)
      refine (do_wake _ _ x W1).mono ?_
      rintro r w2 ⟨g, rfl, hg, hc, hb⟩
      exact ⟨some ⟨g, 0, none⟩, 1, 1, rfl, ⟨g, rfl, by omega, hc⟩, hs1, t.vt, took_same hb hp1 hq1 rfl ht1⟩)
    (fun W1 w2 vk ⟨_, hs1, vt', hT⟩ => ⟨⟨vt', hT.hq⟩, hT.kb.block _ (by omega) (by
      rintro (e | e | e)
      · omega
      · omega
      · have := (htb _ e).2.1; omega), hT.kb.size⟩)
  refine this.mono ?_
  rintro r w' ⟨W1, w2, vk, rfl, hs1, k1, ⟨⟨g, rfl, hg, hc⟩, _, vt', hT⟩, k2⟩
  have hc' : w'.cell? ⟨g, 0, none⟩ = some (.int .i64 x) := by
    have hb := k2.block g (World.block_lt_of_cell? w2 _ hc) (by show ¬ g = w.heap.size; omega)
    simp only [World.cell?] at hc ⊢
    rw [hb]
    exact hc
  exact ⟨g, by simp, by omega, hc', { q := t.q, acts := l, aa := aa', ca := ca', vt := vt', told := t.told }, rfl, rfl, rfl, stepped_of ht hl haa ha' hp hs1 k1 hT k2⟩
end Go.Proofs.Ytefmhghdehokcaa
