/-
  A loop of any timing.
-/
import Derived.Test.YtefmhghdehokcaaCheck
import Derived.Test.YtefmhghdehokcaaNew
namespace Go.Proofs.Ytefmhghdehokcaa
open Go.RowKit
set_option maxRecDepth 100000 in
set_option maxHeartbeats 2000000 in
theorem clone22_at (ad : Addr) (n ca : Nat) (vs : List Value) (w : World) (h : ∀ j u, vs[j]? = some u → w.cell? (ad.add j) = some u) (hl : vs.length = n * 1) (h1 : ∀ u ∈ vs, u.oneCell' = true) (hn : n * 8 ≤ 140737488355328) :
    Calls Try.prog 42 #[.slice (some ad) n ca] w fun r w' => ∃ g cap, r = .returned (.slice (some ⟨g, 0, none⟩) n cap) ∧ n ≤ cap ∧ w'.ownsRow w.heap.size 3 1 (.slice (some ⟨g, 0, none⟩) n cap) n vs ∧ Below w.heap.size w w' := by
  obtain ⟨i0, hi, hz0, hz1, hz2⟩ := info_parts info3
  have hnl := fun W => lazyNil22 W ad n ca
  have er := empty_row3 w
  have hcs : ∀ o j u, vs[j]? = some u → (w.alloc o).cell? (ad.add j) = some u := fun o j u hu => (((Below.refl _ w).alloc (Nat.le_refl _) o).cell (p := ad.add j) (World.block_lt_of_cell? _ _ (h j u hu))).trans (h j u hu)
  have HL : Hid (vs.length = n * 1) := hl
  have H1 : Hid _ := h1
  clear hl h h1
  go_enter Try.func42, Try.ntmps42
  go_wp2_with (at_builtin; refine wpList_append_own _ rfl (.tmp 5) (.tmp 6) 22 rfl w.heap.size 3 i0 (.int .i64 0) 1 8 Try.underlying22 hi hz0 hz1 hz2 rfl (by decide) _ _ _ rfl er ad n ca vs rfl HL.out (hcs _) H1.out (by unfold maxLen; omega) (by omega) (by simp) ?_)
  intro v2 w2 hown2 hg2 hnn
  try simp only [List.nil_append, Nat.zero_add] at hown2
  have hB : Below w.heap.size w w2 := ((Below.refl _ w).alloc (Nat.le_refl _) _).grown hg2 (by simp) (fun i hi => (er.lt i hi).1)
  rcases hown2.2 with ⟨rfl, _⟩ | ⟨g, cap, cur, rfl, _, _, hc1, _⟩
  · exfalso
    revert hnn
    simp
  · have HO : Hid _ := hown2
    clear hown2 hg2 hcs er hnn
    go_wp2_with fail
    go_ret
    exact ⟨g, cap, rfl, hc1, HO.out, hB⟩
set_option maxRecDepth 100000 in
set_option maxHeartbeats 2000000 in
theorem clone23_at (ad : Addr) (n ca : Nat) (vs : List Value) (w : World) (h : ∀ j u, vs[j]? = some u → w.cell? (ad.add j) = some u) (hl : vs.length = n * 1) (h1 : ∀ u ∈ vs, u.oneCell' = true) (hn : n * 8 ≤ 140737488355328) :
    Calls Try.prog 47 #[.slice (some ad) n ca] w fun r w' => ∃ g cap, r = .returned (.slice (some ⟨g, 0, none⟩) n cap) ∧ n ≤ cap ∧ w'.ownsRow w.heap.size 45 1 (.slice (some ⟨g, 0, none⟩) n cap) n vs ∧ Below w.heap.size w w' := by
  obtain ⟨i0, hi, hz0, hz1, hz2⟩ := info_parts info45
  have hnl := fun W => lazyNil23 W ad n ca
  have er := empty_row45 w
  have hcs : ∀ o j u, vs[j]? = some u → (w.alloc o).cell? (ad.add j) = some u := fun o j u hu => (((Below.refl _ w).alloc (Nat.le_refl _) o).cell (p := ad.add j) (World.block_lt_of_cell? _ _ (h j u hu))).trans (h j u hu)
  have HL : Hid (vs.length = n * 1) := hl
  have H1 : Hid _ := h1
  clear hl h h1
  go_enter Try.func47, Try.ntmps47
  go_wp2_with (at_builtin; refine wpList_append_own _ rfl (.tmp 5) (.tmp 6) 23 rfl w.heap.size 45 i0 (.int .u64 0) 1 8 Try.underlying23 hi hz0 hz1 hz2 rfl (by decide) _ _ _ rfl er ad n ca vs rfl HL.out (hcs _) H1.out (by unfold maxLen; omega) (by omega) (by simp) ?_)
  intro v2 w2 hown2 hg2 hnn
  try simp only [List.nil_append, Nat.zero_add] at hown2
  have hB : Below w.heap.size w w2 := ((Below.refl _ w).alloc (Nat.le_refl _) _).grown hg2 (by simp) (fun i hi => (er.lt i hi).1)
  rcases hown2.2 with ⟨rfl, _⟩ | ⟨g, cap, cur, rfl, _, _, hc1, _⟩
  · exfalso
    revert hnn
    simp
  · have HO : Hid _ := hown2
    clear hown2 hg2 hcs er hnn
    go_wp2_with fail
    go_ret
    exact ⟨g, cap, rfl, hc1, HO.out, hB⟩
theorem rowAt_of {W : World} {B e n : Nat} {v : Value} {xs : List Value} (h : W.ownsRow B e 1 v n xs) : RowAt W.heap.size W v xs := by
  have hl : xs.length = n := by have := h.1; omega
  rcases h.2 with ⟨rfl, h0⟩ | ⟨g, cap, cur, rfl, hB, hh, hc1, _⟩
  · have : xs = [] := by apply List.eq_nil_of_length_eq_zero; omega
    subst this
    exact ⟨none, 0, rfl, VA.nil _ _ _, Nat.le_refl _, fun _ => rfl⟩
  · refine ⟨some ⟨g, 0, none⟩, cap, by rw [hl], fun j u hj => ?_, by omega, fun e => by cases e⟩
    obtain ⟨g', e1, _, e3⟩ := row_cell h hj
    cases e1
    exact ⟨g, 0, rfl, World.block_lt_of_cell? _ _ e3, by rw [Nat.zero_add]; exact e3⟩
/-- A slice that is handed in: its values, and where they lie. -/
def Arg (W : World) (a : Option Addr) (n c : Nat) (l : List Value) : Prop := l.length = n ∧ VA W.heap.size W a l ∧ n ≤ c ∧ (a = none → c = 0)
theorem Arg.below {W W' : World} {a : Option Addr} {n c : Nat} {l : List Value} (h : Arg W a n c l) (k : Below W.heap.size W W') : Arg W' a n c l :=
  ⟨h.1, fun j v hj => by
    obtain ⟨b, off, h1, h2, h3⟩ := h.2.1 j v hj
    exact ⟨b, off, h1, Nat.lt_of_lt_of_le h2 k.size, (k.cell (p := ⟨b, off + j, none⟩) h2).trans h3⟩, h.2.2⟩
theorem clone22_row (a : Option Addr) (n c : Nat) (l : List Int) (W : World) (h : Arg W a n c (l.map iV)) (hn : n ≤ 65536) :
    Calls Try.prog 42 #[.slice a n c] W fun r w' => ∃ a' c', r = .returned (.slice a' n c') ∧ RowAt w'.heap.size w' (.slice a' n c') (l.map iV) ∧ Below W.heap.size W w' := by
  obtain ⟨hl, hv, hc, hz⟩ := h
  cases a with
  | none =>
    obtain rfl : c = 0 := hz rfl
    obtain rfl : n = 0 := by omega
    have e : l.map iV = [] := List.eq_nil_of_length_eq_zero hl
    rw [e]
    refine (clone22_nil W).mono ?_
    rintro r w' ⟨rfl, rfl⟩
    exact ⟨none, 0, rfl, ⟨none, 0, rfl, VA.nil _ _ _, Nat.le_refl _, fun _ => rfl⟩, Below.refl _ _⟩
  | some ad =>
    refine (clone22_at ad n c (l.map iV) W (fun j u hj => ?_) (by omega) (fun u hu => ?_) (by omega)).mono ?_
    · obtain ⟨b, off, e1, _, e3⟩ := hv j u hj
      cases e1
      rw [addr_add]
      exact e3
    · simp only [List.mem_map] at hu
      obtain ⟨x, _, rfl⟩ := hu
      rfl
    · rintro r w' ⟨g, cap, rfl, _, ho, hb⟩
      exact ⟨_, _, rfl, rowAt_of ho, hb⟩
theorem clone23_row (a : Option Addr) (n c : Nat) (l : List Int) (W : World) (h : Arg W a n c (l.map nV)) (hn : n ≤ 65536) :
    Calls Try.prog 47 #[.slice a n c] W fun r w' => ∃ a' c', r = .returned (.slice a' n c') ∧ RowAt w'.heap.size w' (.slice a' n c') (l.map nV) ∧ Below W.heap.size W w' := by
  obtain ⟨hl, hv, hc, hz⟩ := h
  cases a with
  | none =>
    obtain rfl : c = 0 := hz rfl
    obtain rfl : n = 0 := by omega
    have e : l.map nV = [] := List.eq_nil_of_length_eq_zero hl
    rw [e]
    refine (clone23_nil W).mono ?_
    rintro r w' ⟨rfl, rfl⟩
    exact ⟨none, 0, rfl, ⟨none, 0, rfl, VA.nil _ _ _, Nat.le_refl _, fun _ => rfl⟩, Below.refl _ _⟩
  | some ad =>
    refine (clone23_at ad n c (l.map nV) W (fun j u hj => ?_) (by omega) (fun u hu => ?_) (by omega)).mono ?_
    · obtain ⟨b, off, e1, _, e3⟩ := hv j u hj
      cases e1
      rw [addr_add]
      exact e3
    · simp only [List.mem_map] at hu
      obtain ⟨x, _, rfl⟩ := hu
      rfl
    · rintro r w' ⟨g, cap, rfl, _, ho, hb⟩
      exact ⟨_, _, rfl, rowAt_of ho, hb⟩
theorem RowAt.up {B B' : Nat} {W W' : World} {v : Value} {l : List Value} (h : RowAt B W v l) (hB : B ≤ B') (k : ∀ b, b < B → W'.heap[b]? = W.heap[b]?) : RowAt B' W' v l := by
  obtain ⟨a, c, h1, h2, h3⟩ := h
  refine ⟨a, c, h1, fun j u hj => ?_, h3⟩
  obtain ⟨b, off, e1, e2, e3⟩ := (h2.below k) j u hj
  exact ⟨b, off, e1, by omega, e3⟩
/-- Three calls behind one another, each of which makes a row. -/
theorem fin3 {w w1 u v x : World} {va vb vc : Value} {la lb lc : List Value} (k0 : Below w.heap.size w w1) (k1 : Below w1.heap.size w1 u) (k2 : Below u.heap.size u v) (k3 : Below v.heap.size v x) (ra : RowAt u.heap.size u va la) (rb : RowAt v.heap.size v vb lb) (rc : RowAt x.heap.size x vc lc) :
    w.heap.size ≤ x.heap.size ∧ (∀ o, RowAt x.heap.size (x.alloc o) va la) ∧ (∀ o, RowAt x.heap.size (x.alloc o) vb lb) ∧ (∀ o, RowAt x.heap.size (x.alloc o) vc lc) ∧ (∀ o, Below w.heap.size w (x.alloc o)) := by
  have s0 := k0.size
  have s1 := k1.size
  have s2 := k2.size
  have s3 := k3.size
  have al : ∀ o b, b < x.heap.size → (x.alloc o).heap[b]? = x.heap[b]? := fun o b hb => Below.heap_alloc _ _ _ hb
  refine ⟨by omega, fun o => ra.up (by omega) (fun b hb => (al o b (by omega)).trans ((k3.block b (by omega)).trans (k2.block b hb))), fun o => rb.up (by omega) (fun b hb => (al o b (by omega)).trans (k3.block b hb)), fun o => rc.up (by omega) (fun b hb => al o b hb), fun o => ?_⟩
  exact (((k0.trans (k1.mono s0)).trans (k2.mono (by omega))).trans (k3.mono (by omega))).alloc (by omega) o
set_option maxRecDepth 100000 in
set_option maxHeartbeats 16000000 in
theorem new_any (ap ak ad : Option Addr) (np nk nd cp ck cd : Nat) (picks ticks draws : List Int) (w : World) (hp : Arg w ap np cp (picks.map iV)) (hk : Arg w ak nk ck (ticks.map iV)) (hd : Arg w ad nd cd (draws.map nV)) (hc : chkT picks ticks nd = 0) :
    Calls Try.prog 25 #[.agg #[.slice ap np cp, .slice ak nk ck, .slice ad nd cd]] w fun r w' => ∃ p vp vk vd, r = .returned (.tuple #[.pointer (some ⟨p, 0, none⟩), .int .i64 0]) ∧ w'.heap[p]? = some (.cells #[vp, vk, .slice none 0 0, .slice none 0 0, .int .i64 0, .int .u64 0, vd, .int .u64 0] 83 (0, 0)) ∧ w.heap.size ≤ p ∧
      RowAt p w' vp (picks.map iV) ∧ RowAt p w' vk (ticks.map iV) ∧ RowAt p w' vd (draws.map nV) ∧ Below w.heap.size w w' := by
  have hnp : picks.length = np := by have := hp.1; rw [List.length_map] at this; exact this
  have hnk : ticks.length = nk := by have := hk.1; rw [List.length_map] at this; exact this
  have hlen : np ≤ 65536 ∧ nk ≤ 65536 ∧ nd ≤ 65536 := by
    unfold chkT at hc
    rw [hnp, hnk] at hc
    by_cases h : 65536 < np ∨ 65536 < nk ∨ 65536 < nd
    · rw [if_pos h] at hc; cases hc
    · omega
  have HC : Hid (∀ W : World, Below w.heap.size w W → Calls Try.prog 34 #[.agg #[.slice ap np cp, .slice ak nk ck, .slice ad nd cd]] W fun r w' => r = .returned (.int .i64 0) ∧ Below W.heap.size W w') := fun W k => by
    have := check_any ap ak ad np nk nd cp ck cd W.heap.size picks ticks W hnp hnk (hp.below k).2.1 (hk.below k).2.1 (Nat.le_refl _)
    rw [hc] at this
    exact this
  have HP : Hid (∀ W : World, Below w.heap.size w W → Calls Try.prog 42 #[.slice ap np cp] W fun r w' => ∃ a' c', r = .returned (.slice a' np c') ∧ RowAt w'.heap.size w' (.slice a' np c') (picks.map iV) ∧ Below W.heap.size W w') := fun W k => clone22_row ap np cp picks W (hp.below k) hlen.1
  have HK : Hid (∀ W : World, Below w.heap.size w W → Calls Try.prog 42 #[.slice ak nk ck] W fun r w' => ∃ a' c', r = .returned (.slice a' nk c') ∧ RowAt w'.heap.size w' (.slice a' nk c') (ticks.map iV) ∧ Below W.heap.size W w') := fun W k => clone22_row ak nk ck ticks W (hk.below k) hlen.2.1
  have HD : Hid (∀ W : World, Below w.heap.size w W → Calls Try.prog 47 #[.slice ad nd cd] W fun r w' => ∃ a' c', r = .returned (.slice a' nd c') ∧ RowAt w'.heap.size w' (.slice a' nd c') (draws.map nV) ∧ Below W.heap.size W w') := fun W k => clone23_row ad nd cd draws W (hd.below k) hlen.2.2
  clear hp hk hd hc hlen hnp hnk
  go_enter Try.func25, Try.ntmps25
  go_wp2_with fail
  refine (HC.out _ ((Below.refl _ w).alloc (Nat.le_refl _) _)).mono ?_
  rintro e w1 ⟨rfl, b1⟩
  have k0 : (w.alloc (.cells #[.slice ap np cp, .slice ak nk ck, .slice ad nd cd] 25)).heap[w.heap.size]? = some (.cells #[.slice ap np cp, .slice ak nk ck, .slice ad nd cd] 25 (0, 0)) := World.alloc_heap_new _ _
  have h1 := (b1.block w.heap.size (by simp)).trans k0
  have B1 : Below w.heap.size w w1 := ((Below.refl _ w).alloc (Nat.le_refl _) _).trans (b1.mono (by simp))
  obtain ⟨H0, hH0⟩ : ∃ H0, w.heap.size = H0 := ⟨_, rfl⟩
  have hws : H0 < w1.heap.size := by rw [← hH0]; exact (Array.getElem?_eq_some_iff.1 h1).1
  rw [hH0] at h1
  have HS : Hid (∀ W : World, Below w1.heap.size w1 W → W.cell? ⟨H0, 0, none⟩ = some (.slice ap np cp) ∧ W.cell? ⟨H0, 1, none⟩ = some (.slice ak nk ck) ∧ W.cell? ⟨H0, 2, none⟩ = some (.slice ad nd cd)) := fun W k => by
    have h2 := (k.block H0 hws).trans h1
    have e0 := cells_of_block h2 0
    have e1 := cells_of_block h2 1
    have e2 := cells_of_block h2 2
    exact ⟨by simpa using e0, by simpa using e1, by simpa using e2⟩
  have HT : Hid (∀ W V : World, Below w1.heap.size w1 W → Below W.heap.size W V → Below w1.heap.size w1 V) := fun W V k k' => k.trans (k'.mono k.size)
  have HU : Hid (∀ W : World, Below w1.heap.size w1 W → Below w.heap.size w W) := fun W k => B1.trans (k.mono B1.size)
  have SD : Below w1.heap.size w1 w1.drew := (Below.refl _ _).drew
  have S0 := HS.out w1 (Below.refl _ _)
  have HB1 : Hid _ := B1
  obtain ⟨t0, t1, t2⟩ := S0
  rw [hH0]
  have HH0 : Hid _ := hH0
  clear b1 k0 h1 B1 HC hH0
  go_wp2_with fail
  go_region_held (fun W => W.cell? ⟨H0, 0, none⟩ = some (.slice ap np cp) ∧ W.cell? ⟨H0, 1, none⟩ = some (.slice ak nk ck) ∧ W.cell? ⟨H0, 2, none⟩ = some (.slice ad nd cd)) (first | assumption | go_keep)
    (first
    | (go_at_call 47; refine Calls.mono (HD.out _ (HU.out _ (by assumption))) ?_; rintro e wd ⟨vd, c1, rfl, rd, kd⟩; have bd := HT.out _ _ (by assumption) kd; have sd := HS.out _ bd)
    | (go_at_call_of 42 ap; refine Calls.mono (HP.out _ (HU.out _ (by assumption))) ?_; rintro e wp ⟨vp, c2, rfl, rp, kp⟩; have bp := HT.out _ _ (by assumption) kp; have sp := HS.out _ bp)
    | (go_at_call_of 42 ak; refine Calls.mono (HK.out _ (HU.out _ (by assumption))) ?_; rintro e wk ⟨vk, c3, rfl, rk, kk⟩; have bk := HT.out _ _ (by assumption) kk; have sk := HS.out _ bk))
  all_goals
    go_wp2_with fail
    go_ret2
  all_goals rw [← HH0.out]
  all_goals first
    | exact ⟨wd.heap.size, _, _, _, rfl, World.alloc_heap_new _ _, (fin3 HB1.out bp kk kd rp rk rd).1, (fin3 HB1.out bp kk kd rp rk rd).2.1 _, (fin3 HB1.out bp kk kd rp rk rd).2.2.1 _, (fin3 HB1.out bp kk kd rp rk rd).2.2.2.1 _, (fin3 HB1.out bp kk kd rp rk rd).2.2.2.2 _⟩
    | exact ⟨wk.heap.size, _, _, _, rfl, World.alloc_heap_new _ _, (fin3 HB1.out bp kd kk rp rd rk).1, (fin3 HB1.out bp kd kk rp rd rk).2.1 _, (fin3 HB1.out bp kd kk rp rd rk).2.2.2.1 _, (fin3 HB1.out bp kd kk rp rd rk).2.2.1 _, (fin3 HB1.out bp kd kk rp rd rk).2.2.2.2 _⟩
    | exact ⟨wd.heap.size, _, _, _, rfl, World.alloc_heap_new _ _, (fin3 HB1.out bk kp kd rk rp rd).1, (fin3 HB1.out bk kp kd rk rp rd).2.2.1 _, (fin3 HB1.out bk kp kd rk rp rd).2.1 _, (fin3 HB1.out bk kp kd rk rp rd).2.2.2.1 _, (fin3 HB1.out bk kp kd rk rp rd).2.2.2.2 _⟩
    | exact ⟨wp.heap.size, _, _, _, rfl, World.alloc_heap_new _ _, (fin3 HB1.out bk kd kp rk rd rp).1, (fin3 HB1.out bk kd kp rk rd rp).2.2.2.1 _, (fin3 HB1.out bk kd kp rk rd rp).2.1 _, (fin3 HB1.out bk kd kp rk rd rp).2.2.1 _, (fin3 HB1.out bk kd kp rk rd rp).2.2.2.2 _⟩
    | exact ⟨wk.heap.size, _, _, _, rfl, World.alloc_heap_new _ _, (fin3 HB1.out bd kp kk rd rp rk).1, (fin3 HB1.out bd kp kk rd rp rk).2.2.1 _, (fin3 HB1.out bd kp kk rd rp rk).2.2.2.1 _, (fin3 HB1.out bd kp kk rd rp rk).2.1 _, (fin3 HB1.out bd kp kk rd rp rk).2.2.2.2 _⟩
    | exact ⟨wp.heap.size, _, _, _, rfl, World.alloc_heap_new _ _, (fin3 HB1.out bd kk kp rd rk rp).1, (fin3 HB1.out bd kk kp rd rk rp).2.2.2.1 _, (fin3 HB1.out bd kk kp rd rk rp).2.2.1 _, (fin3 HB1.out bd kk kp rd rk rp).2.1 _, (fin3 HB1.out bd kk kp rd rk rp).2.2.2.2 _⟩
theorem new_bad (ap ak ad : Option Addr) (np nk nd cp ck cd : Nat) (picks ticks : List Int) (e : Int) (w : World) (hp : Arg w ap np cp (picks.map iV)) (hk : Arg w ak nk ck (ticks.map iV)) (hc : chkT picks ticks nd = e) (he : e ≠ 0) :
    Calls Try.prog 25 #[.agg #[.slice ap np cp, .slice ak nk ck, .slice ad nd cd]] w fun r w' => r = .returned (.tuple #[.pointer none, .int .i64 e]) ∧ Below w.heap.size w w' := by
  have hnp : picks.length = np := by have := hp.1; rw [List.length_map] at this; exact this
  have hnk : ticks.length = nk := by have := hk.1; rw [List.length_map] at this; exact this
  have HC : Hid (∀ W : World, Below w.heap.size w W → Calls Try.prog 34 #[.agg #[.slice ap np cp, .slice ak nk ck, .slice ad nd cd]] W fun r w' => r = .returned (.int .i64 e) ∧ Below W.heap.size W w') := fun W k => by
    have := check_any ap ak ad np nk nd cp ck cd W.heap.size picks ticks W hnp hnk (hp.below k).2.1 (hk.below k).2.1 (Nat.le_refl _)
    rw [hc] at this
    exact this
  have he' : (e != 0) = true := by simpa using he
  have he2 : (e == 0) = false := by simpa using he
  clear hp hk hc hnp hnk he
  go_enter Try.func25, Try.ntmps25
  go_wp2_with fail
  refine (HC.out _ ((Below.refl _ w).alloc (Nat.le_refl _) _)).mono ?_
  rintro _ w1 ⟨rfl, b1⟩
  go_wp2_with fail
  go_ret2
  exact ⟨rfl, ((Below.refl _ w).alloc (Nat.le_refl _) _).trans (b1.mono (by simp))⟩
end Go.Proofs.Ytefmhghdehokcaa
