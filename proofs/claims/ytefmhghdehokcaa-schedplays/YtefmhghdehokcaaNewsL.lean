/-
  A loop of any timing, and where its rows lie.
-/
import Derived.Test.YtefmhghdehokcaaStart
import Derived.Test.YtefmhghdehokcaaPure
namespace Go.Proofs.Ytefmhghdehokcaa
open Go.RowKit
theorem clone22_rowL (a : Option Addr) (n c : Nat) (l : List Int) (W : World) (h : Arg W a n c (l.map iV)) (hn : n ≤ 65536) :
    Calls Try.prog 42 #[.slice a n c] W fun r w' => ∃ a' c', r = .returned (.slice a' n c') ∧ RowAt w'.heap.size w' (.slice a' n c') (l.map iV) ∧ Below W.heap.size W w' ∧ AddrGe W.heap.size (.slice a' n c') := by
  obtain ⟨hl, hv, hc, hz⟩ := h
  cases a with
  | none =>
    obtain rfl : c = 0 := hz rfl
    obtain rfl : n = 0 := by omega
    have e : l.map iV = [] := List.eq_nil_of_length_eq_zero hl
    rw [e]
    refine (clone22_nil W).mono ?_
    rintro r w' ⟨rfl, rfl⟩
    exact ⟨none, 0, rfl, ⟨none, 0, rfl, VA.nil _ _ _, Nat.le_refl _, fun _ => rfl⟩, Below.refl _ _, fun a' n' c' e => by cases e⟩
  | some ad =>
    refine (clone22_at ad n c (l.map iV) W (fun j u hj => ?_) (by omega) (fun u hu => ?_) (by omega)).mono ?_
    · obtain ⟨b, off, e1, _, e3⟩ := hv j u hj
      cases e1
      rw [addr_add]
      exact e3
    · simp only [List.mem_map] at hu
      obtain ⟨x, _, rfl⟩ := hu
      rfl
    · rintro r w' ⟨g, cap, rfl, _, ho, hb⟩
      exact ⟨_, _, rfl, rowAt_of ho, hb, fun a' n' c' e => by cases e; exact (ho.lt g rfl).1⟩
theorem clone23_rowL (a : Option Addr) (n c : Nat) (l : List Int) (W : World) (h : Arg W a n c (l.map nV)) (hn : n ≤ 65536) :
    Calls Try.prog 47 #[.slice a n c] W fun r w' => ∃ a' c', r = .returned (.slice a' n c') ∧ RowAt w'.heap.size w' (.slice a' n c') (l.map nV) ∧ Below W.heap.size W w' ∧ AddrGe W.heap.size (.slice a' n c') := by
  obtain ⟨hl, hv, hc, hz⟩ := h
  cases a with
  | none =>
    obtain rfl : c = 0 := hz rfl
    obtain rfl : n = 0 := by omega
    have e : l.map nV = [] := List.eq_nil_of_length_eq_zero hl
    rw [e]
    refine (clone23_nil W).mono ?_
    rintro r w' ⟨rfl, rfl⟩
    exact ⟨none, 0, rfl, ⟨none, 0, rfl, VA.nil _ _ _, Nat.le_refl _, fun _ => rfl⟩, Below.refl _ _, fun a' n' c' e => by cases e⟩
  | some ad =>
    refine (clone23_at ad n c (l.map nV) W (fun j u hj => ?_) (by omega) (fun u hu => ?_) (by omega)).mono ?_
    · obtain ⟨b, off, e1, _, e3⟩ := hv j u hj
      cases e1
      rw [addr_add]
      exact e3
    · simp only [List.mem_map] at hu
      obtain ⟨x, _, rfl⟩ := hu
      rfl
    · rintro r w' ⟨g, cap, rfl, _, ho, hb⟩
      exact ⟨_, _, rfl, rowAt_of ho, hb, fun a' n' c' e => by cases e; exact (ho.lt g rfl).1⟩
set_option maxRecDepth 100000 in
set_option maxHeartbeats 16000000 in
theorem new_anyL (ap ak ad : Option Addr) (np nk nd cp ck cd : Nat) (picks ticks draws : List Int) (w : World) (hp : Arg w ap np cp (picks.map iV)) (hk : Arg w ak nk ck (ticks.map iV)) (hd : Arg w ad nd cd (draws.map nV)) (hc : chkT picks ticks nd = 0) :
    Calls Try.prog 25 #[.agg #[.slice ap np cp, .slice ak nk ck, .slice ad nd cd]] w fun r w' => ∃ p vp vk vd, r = .returned (.tuple #[.pointer (some ⟨p, 0, none⟩), .int .i64 0]) ∧ w'.heap[p]? = some (.cells #[vp, vk, .slice none 0 0, .slice none 0 0, .int .i64 0, .int .u64 0, vd, .int .u64 0] 83 (0, 0)) ∧ w.heap.size ≤ p ∧
      RowAt p w' vp (picks.map iV) ∧ RowAt p w' vk (ticks.map iV) ∧ RowAt p w' vd (draws.map nV) ∧ Below w.heap.size w w' ∧ AddrGe w.heap.size vp ∧ AddrGe w.heap.size vk ∧ AddrGe w.heap.size vd := by
  have hnp : picks.length = np := by have := hp.1; rw [List.length_map] at this; exact this
  have hnk : ticks.length = nk := by have := hk.1; rw [List.length_map] at this; exact this
  have hlen : np ≤ 65536 ∧ nk ≤ 65536 ∧ nd ≤ 65536 := by
    unfold chkT at hc
    rw [hnp, hnk] at hc
    by_cases h : 65536 < np ∨ 65536 < nk ∨ 65536 < nd
    · rw [if_pos h] at hc; cases hc
    · omega
  have HC : Hid (∀ W : World, Below w.heap.size w W → Calls Try.prog 34 #[.agg #[.slice ap np cp, .slice ak nk ck, .slice ad nd cd]] W fun r w' => r = .returned (.int .i64 0) ∧ Below W.heap.size W w') := fun W k => by
    have := check_any ap ak ad np nk nd cp ck cd W.heap.size picks ticks W hnp hnk (hp.below k).2.1 (hk.below k).2.1 (Nat.le_refl _)
    rw [hc] at this
    exact this
  have HP : Hid (∀ W : World, Below w.heap.size w W → Calls Try.prog 42 #[.slice ap np cp] W fun r w' => ∃ a' c', r = .returned (.slice a' np c') ∧ RowAt w'.heap.size w' (.slice a' np c') (picks.map iV) ∧ Below W.heap.size W w' ∧ AddrGe w.heap.size (.slice a' np c')) := fun W k => (clone22_rowL ap np cp picks W (hp.below k) hlen.1).mono (fun _ _ ⟨a', c', e1, e2, e3, e4⟩ => ⟨a', c', e1, e2, e3, fun a n c e => Nat.le_trans k.size (e4 a n c e)⟩)
  have HK : Hid (∀ W : World, Below w.heap.size w W → Calls Try.prog 42 #[.slice ak nk ck] W fun r w' => ∃ a' c', r = .returned (.slice a' nk c') ∧ RowAt w'.heap.size w' (.slice a' nk c') (ticks.map iV) ∧ Below W.heap.size W w' ∧ AddrGe w.heap.size (.slice a' nk c')) := fun W k => (clone22_rowL ak nk ck ticks W (hk.below k) hlen.2.1).mono (fun _ _ ⟨a', c', e1, e2, e3, e4⟩ => ⟨a', c', e1, e2, e3, fun a n c e => Nat.le_trans k.size (e4 a n c e)⟩)
  have HD : Hid (∀ W : World, Below w.heap.size w W → Calls Try.prog 47 #[.slice ad nd cd] W fun r w' => ∃ a' c', r = .returned (.slice a' nd c') ∧ RowAt w'.heap.size w' (.slice a' nd c') (draws.map nV) ∧ Below W.heap.size W w' ∧ AddrGe w.heap.size (.slice a' nd c')) := fun W k => (clone23_rowL ad nd cd draws W (hd.below k) hlen.2.2).mono (fun _ _ ⟨a', c', e1, e2, e3, e4⟩ => ⟨a', c', e1, e2, e3, fun a n c e => Nat.le_trans k.size (e4 a n c e)⟩)
  clear hp hk hd hc hlen hnp hnk
  go_enter Try.func25, Try.ntmps25
  go_wp2_with fail
  refine (HC.out _ ((Below.refl _ w).alloc (Nat.le_refl _) _)).mono ?_
  rintro e w1 ⟨rfl, b1⟩
  have k0 : (w.alloc (.cells #[.slice ap np cp, .slice ak nk ck, .slice ad nd cd] 25)).heap[w.heap.size]? = some (.cells #[.slice ap np cp, .slice ak nk ck, .slice ad nd cd] 25 (0, 0)) := World.alloc_heap_new _ _
  have h1 := (b1.block w.heap.size (by simp)).trans k0
  have B1 : Below w.heap.size w w1 := ((Below.refl _ w).alloc (Nat.le_refl _) _).trans (b1.mono (by simp))
  obtain ⟨H0, hH0⟩ : ∃ H0, w.heap.size = H0 := ⟨_, rfl⟩
  have hws : H0 < w1.heap.size := by rw [← hH0]; exact (Array.getElem?_eq_some_iff.1 h1).1
  rw [hH0] at h1
  have HS : Hid (∀ W : World, Below w1.heap.size w1 W → W.cell? ⟨H0, 0, none⟩ = some (.slice ap np cp) ∧ W.cell? ⟨H0, 1, none⟩ = some (.slice ak nk ck) ∧ W.cell? ⟨H0, 2, none⟩ = some (.slice ad nd cd)) := fun W k => by
    have h2 := (k.block H0 hws).trans h1
    have e0 := cells_of_block h2 0
    have e1 := cells_of_block h2 1
    have e2 := cells_of_block h2 2
    exact ⟨by simpa using e0, by simpa using e1, by simpa using e2⟩
  have HT : Hid (∀ W V : World, Below w1.heap.size w1 W → Below W.heap.size W V → Below w1.heap.size w1 V) := fun W V k k' => k.trans (k'.mono k.size)
  have HU : Hid (∀ W : World, Below w1.heap.size w1 W → Below w.heap.size w W) := fun W k => B1.trans (k.mono B1.size)
  have SD : Below w1.heap.size w1 w1.drew := (Below.refl _ _).drew
  have S0 := HS.out w1 (Below.refl _ _)
  have HB1 : Hid _ := B1
  obtain ⟨t0, t1, t2⟩ := S0
  rw [hH0]
  have HH0 : Hid _ := hH0
  clear b1 k0 h1 B1 HC hH0
  go_wp2_with fail
  go_region_held (fun W => W.cell? ⟨H0, 0, none⟩ = some (.slice ap np cp) ∧ W.cell? ⟨H0, 1, none⟩ = some (.slice ak nk ck) ∧ W.cell? ⟨H0, 2, none⟩ = some (.slice ad nd cd)) (first | assumption | go_keep)
    (first
    | (go_at_call 47; refine Calls.mono (HD.out _ (HU.out _ (by assumption))) ?_; rintro e wd ⟨vd, c1, rfl, rd, kd, gd⟩; have bd := HT.out _ _ (by assumption) kd; have sd := HS.out _ bd)
    | (go_at_call_of 42 ap; refine Calls.mono (HP.out _ (HU.out _ (by assumption))) ?_; rintro e wp ⟨vp, c2, rfl, rp, kp, gp⟩; have bp := HT.out _ _ (by assumption) kp; have sp := HS.out _ bp)
    | (go_at_call_of 42 ak; refine Calls.mono (HK.out _ (HU.out _ (by assumption))) ?_; rintro e wk ⟨vk, c3, rfl, rk, kk, gk⟩; have bk := HT.out _ _ (by assumption) kk; have sk := HS.out _ bk))
  all_goals
    go_wp2_with fail
    go_ret2
  all_goals rw [← HH0.out]
  all_goals first
    | exact ⟨wd.heap.size, _, _, _, rfl, World.alloc_heap_new _ _, (fin3 HB1.out bp kk kd rp rk rd).1, (fin3 HB1.out bp kk kd rp rk rd).2.1 _, (fin3 HB1.out bp kk kd rp rk rd).2.2.1 _, (fin3 HB1.out bp kk kd rp rk rd).2.2.2.1 _, (fin3 HB1.out bp kk kd rp rk rd).2.2.2.2 _, gp, gk, gd⟩
    | exact ⟨wk.heap.size, _, _, _, rfl, World.alloc_heap_new _ _, (fin3 HB1.out bp kd kk rp rd rk).1, (fin3 HB1.out bp kd kk rp rd rk).2.1 _, (fin3 HB1.out bp kd kk rp rd rk).2.2.2.1 _, (fin3 HB1.out bp kd kk rp rd rk).2.2.1 _, (fin3 HB1.out bp kd kk rp rd rk).2.2.2.2 _, gp, gk, gd⟩
    | exact ⟨wd.heap.size, _, _, _, rfl, World.alloc_heap_new _ _, (fin3 HB1.out bk kp kd rk rp rd).1, (fin3 HB1.out bk kp kd rk rp rd).2.2.1 _, (fin3 HB1.out bk kp kd rk rp rd).2.1 _, (fin3 HB1.out bk kp kd rk rp rd).2.2.2.1 _, (fin3 HB1.out bk kp kd rk rp rd).2.2.2.2 _, gp, gk, gd⟩
    | exact ⟨wp.heap.size, _, _, _, rfl, World.alloc_heap_new _ _, (fin3 HB1.out bk kd kp rk rd rp).1, (fin3 HB1.out bk kd kp rk rd rp).2.2.2.1 _, (fin3 HB1.out bk kd kp rk rd rp).2.1 _, (fin3 HB1.out bk kd kp rk rd rp).2.2.1 _, (fin3 HB1.out bk kd kp rk rd rp).2.2.2.2 _, gp, gk, gd⟩
    | exact ⟨wk.heap.size, _, _, _, rfl, World.alloc_heap_new _ _, (fin3 HB1.out bd kp kk rd rp rk).1, (fin3 HB1.out bd kp kk rd rp rk).2.2.1 _, (fin3 HB1.out bd kp kk rd rp rk).2.2.2.1 _, (fin3 HB1.out bd kp kk rd rp rk).2.1 _, (fin3 HB1.out bd kp kk rd rp rk).2.2.2.2 _, gp, gk, gd⟩
    | exact ⟨wp.heap.size, _, _, _, rfl, World.alloc_heap_new _ _, (fin3 HB1.out bd kk kp rd rk rp).1, (fin3 HB1.out bd kk kp rd rk rp).2.2.2.1 _, (fin3 HB1.out bd kk kp rd rk rp).2.2.1 _, (fin3 HB1.out bd kk kp rd rk rp).2.1 _, (fin3 HB1.out bd kk kp rd rk rp).2.2.2.2 _, gp, gk, gd⟩
set_option maxRecDepth 100000 in
set_option maxHeartbeats 8000000 in
theorem start_okL (ap ak ad : Option Addr) (np nk nd cp ck cd : Nat) (picks ticks draws : List Int) (w : World) (hp : Arg w ap np cp (picks.map iV)) (hk : Arg w ak nk ck (ticks.map iV)) (hd : Arg w ad nd cd (draws.map nV)) (hc : chkT picks ticks nd = 0) :
    Calls Try.prog 9 #[.agg #[.slice ap np cp, .slice ak nk ck, .slice ad nd cd]] w fun r w' => ∃ b p x vp vk vd, r = .returned (.tuple #[.pointer (some ⟨b, 0, none⟩), .bool true]) ∧ w'.heap[b]? = some (.cells #[.pointer (some ⟨p, 0, none⟩), .slice none 0 0, .pointer (some ⟨x, 0, none⟩)] 43 (0, 0)) ∧
      w'.heap[x]? = some (.cells #[.slice ap np cp, .slice ak nk ck, .slice ad nd cd, .slice none 0 0, .int .u64 0, .int .i64 0, .int .i64 0, .int .i64 0] 75 (0, 0)) ∧ LA w' p (S0 vp picks vk ticks vd draws) ∧ w.heap.size ≤ p ∧ p < x ∧ p < b ∧ Below w.heap.size w w' ∧ LoS w.heap.size (S0 vp picks vk ticks vd draws) := by
  have hnp : picks.length = np := by have := hp.1; rw [List.length_map] at this; exact this
  have hnk : ticks.length = nk := by have := hk.1; rw [List.length_map] at this; exact this
  have HN : Hid (∀ W : World, Below w.heap.size w W → Calls Try.prog 25 #[.agg #[.slice ap np cp, .slice ak nk ck, .slice ad nd cd]] W fun r w' => ∃ p vp vk vd, r = .returned (.tuple #[.pointer (some ⟨p, 0, none⟩), .int .i64 0]) ∧ w'.heap[p]? = some (.cells #[vp, vk, .slice none 0 0, .slice none 0 0, .int .i64 0, .int .u64 0, vd, .int .u64 0] 83 (0, 0)) ∧ W.heap.size ≤ p ∧
      RowAt p w' vp (picks.map iV) ∧ RowAt p w' vk (ticks.map iV) ∧ RowAt p w' vd (draws.map nV) ∧ Below W.heap.size W w' ∧ AddrGe W.heap.size vp ∧ AddrGe W.heap.size vk ∧ AddrGe W.heap.size vd) := fun W k => new_anyL ap ak ad np nk nd cp ck cd picks ticks draws W (hp.below k) (hk.below k) (hd.below k) hc
  have HC : Hid (∀ W : World, Below w.heap.size w W → Calls Try.prog 34 #[.agg #[.slice ap np cp, .slice ak nk ck, .slice ad nd cd]] W fun r w' => r = .returned (.int .i64 0) ∧ Below W.heap.size W w') := fun W k => by
    have := check_any ap ak ad np nk nd cp ck cd W.heap.size picks ticks W hnp hnk (hp.below k).2.1 (hk.below k).2.1 (Nat.le_refl _)
    rw [hc] at this
    exact this
  have HR : Hid (∀ W : World, Below w.heap.size w W → Calls Try.prog 33 #[.agg #[.slice ap np cp, .slice ak nk ck, .slice ad nd cd]] W fun r w' => r = .returned (.int .i64 0) ∧ Below W.heap.size W w') := fun W k => by
    have := rcheck_any ap ak ad np nk nd cp ck cd W.heap.size picks ticks W hnp hnk (hp.below k).2.1 (hk.below k).2.1 (Nat.le_refl _)
    rw [hc] at this
    exact this
  clear hp hk hd hc hnp hnk
  go_enter Try.func9, Try.ntmps9
  go_wp2_with fail
  have k0 : (w.alloc (.cells #[.slice ap np cp, .slice ak nk ck, .slice ad nd cd] 25)).heap[w.heap.size]? = some (.cells #[.slice ap np cp, .slice ak nk ck, .slice ad nd cd] 25 (0, 0)) := World.alloc_heap_new _ _
  have A0 : Below w.heap.size w (w.alloc (.cells #[.slice ap np cp, .slice ak nk ck, .slice ad nd cd] 25)) := (Below.refl _ w).alloc (Nat.le_refl _) _
  refine (HN.out _ A0).mono ?_
  rintro e w1 ⟨p, vp, vk, vd, rfl, hp1, hpg, r1, r2, r3, b1, q1, q2, q3⟩
  have HLO : Hid (LoS w.heap.size (S0 vp picks vk ticks vd draws)) := ⟨fun a n c e => Nat.le_trans A0.size (q1 a n c e), fun a n c e => Nat.le_trans A0.size (q2 a n c e), fun a n c e => Nat.le_trans A0.size (q3 a n c e)⟩
  clear q1 q2 q3
  have L1 : LA w1 p (S0 vp picks vk ticks vd draws) := la_new hp1 r1 r2 r3
  obtain ⟨g1, c10, c11, c12⟩ := box3 k0 b1
  have B1 : Below w.heap.size w w1 := A0.trans (b1.mono A0.size)
  have hpg' : w.heap.size < p := by simp at hpg; omega
  obtain ⟨H0, hH0⟩ : ∃ H0, w.heap.size = H0 := ⟨_, rfl⟩
  rw [hH0] at g1 c10 c11 c12 hpg'
  rw [hH0]
  have HH0 : Hid _ := hH0
  have HP1 : Hid _ := hp1
  have HL1 : Hid _ := L1
  have HG1 : Hid _ := g1
  clear hp1 r1 r2 r3 b1 k0 A0 hpg hH0 L1 g1
  go_wp2_with fail
  refine (HR.out _ B1).mono ?_
  rintro e w2 ⟨rfl, b2⟩
  obtain ⟨g2, c20, c21, c22⟩ := box3 HG1.out b2
  have B2 : Below w.heap.size w w2 := B1.trans (b2.mono B1.size)
  have HL2 : Hid _ := HL1.out.below b2
  have HG2 : Hid _ := g2
  clear B1 HL1 HG1 c10 c11 c12 g2 HP1 b2
  go_wp2_with fail
  refine (lives_any _).mono ?_
  rintro e w3 ⟨rfl, b3⟩
  obtain ⟨g3, c30, c31, c32⟩ := box3 HG2.out b3
  have B3 : Below w.heap.size w w3 := B2.trans (b3.mono B2.size)
  have HL3 : Hid _ := HL2.out.below b3
  have HG3 : Hid _ := g3
  clear B2 HL2 HG2 c20 c21 c22 g3 b3
  go_wp2_with fail
  refine (HC.out _ B3).mono ?_
  rintro e w4 ⟨rfl, b4⟩
  obtain ⟨g4, c40, c41, c42⟩ := box3 HG3.out b4
  have HB4 : Hid (Below w.heap.size w w4) := B3.trans (b4.mono B3.size)
  have HL4 : Hid _ := HL3.out.below b4
  clear B3 HL3 HG3 c30 c31 c32 g4 b4
  have hps : p < w4.heap.size := (Array.getElem?_eq_some_iff.1 HL4.out.hp).1
  go_wp2_with fail
  go_ret2
  rw [← HH0.out]
  refine ⟨w4.heap.size + 1, p, w4.heap.size, vp, vk, vd, rfl, ?_, ?_, ?_, ?_, hps, by omega, ?_, HLO.out⟩
  · have h := World.alloc_heap_new (w4.alloc (.cells #[.slice ap np cp, .slice ak nk ck, .slice ad nd cd, .slice none 0 0, .int .u64 0, .int .i64 0, .int .i64 0, .int .i64 0] 75)) (.cells #[.pointer (some ⟨p, 0, none⟩), .slice none 0 0, .pointer (some ⟨w4.heap.size, 0, none⟩)] 43)
    rw [World.size_alloc] at h
    exact h
  · exact (Below.heap_alloc _ _ _ (by simp)).trans (World.alloc_heap_new _ _)
  · exact LA.below (HL4.out.below ((Below.refl _ _).alloc (Nat.le_refl _) _)) ((Below.refl _ _).alloc (Nat.le_refl _) _)
  · rw [HH0.out]; omega
  · exact (HB4.out.alloc HB4.out.size _).alloc (by have := HB4.out.size; simp; omega) _
end Go.Proofs.Ytefmhghdehokcaa
