/-
  The next pick, and the step that it says; steps one behind the other.
-/
import Derived.Test.YtefmhghdehokcaaPure
import Derived.Test.YtefmhghdehokcaaLooks
namespace Go.Proofs.Ytefmhghdehokcaa
open Go.RowKit
/-- Another row of picks in the same loop. -/
theorem LA.picks_set {w w' : World} {p : Nat} {S : LS} (h : LA w p S) (vp' : Value) (ks : List Int) (hp' : w'.heap[p]? = some (.cells #[vp', S.vk, S.vs, S.vw, .int .i64 (S.steps : Nat), .int .u64 S.now, S.vd, .int .u64 (S.fu : Nat)] 83 (0, 0))) (r : RowAt p w' vp' (ks.map iV)) (k : Kb (fun b => b = p) w w') : LA w' p { S with vp := vp', picks := ks } := by
  have hps := h.ps
  have row : ∀ v l, RowAt p w v l → RowAt p w' v l := fun v l hr => hr.kb hps (fun b e => by omega) k
  refine { hp := hp', picks := r, ticks := row _ _ h.ticks, draws := row _ _ h.draws, tasks := ?_, waits := ?_, each := ?_, apart := h.apart }
  · exact owns_same h.tasks (fun g e => k.block g (h.tasks.lt g e).2 (fun e2 => by have := (h.tasks.lt g e).1; omega))
  · exact owns_same h.waits (fun g e => k.block g (h.waits.lt g e).2 (fun e2 => by have := (h.waits.lt g e).1; omega))
  · intro i u hi
    obtain ⟨hu, hua⟩ := h.each i u hi
    have nb : ∀ ad, u.aa = some ad → ad.block ≠ p := fun ad e e2 => by
      obtain ⟨_, c, f, hc⟩ := hua ad e
      rw [e2, h.hp] at hc
      simp at hc
    refine ⟨hu.kb k (by have := hu.ge; omega) (fun g hg => by have := (hu.told.lt g hg).1; omega) nb, fun ad e => ?_⟩
    obtain ⟨hb, c, f, hc⟩ := hua ad e
    exact ⟨Nat.lt_of_lt_of_le hb k.size, c, f, (k.block _ hb (nb ad e)).trans hc⟩
set_option maxHeartbeats 2000000 in
theorem pick_any (p : Nat) (v1 v2 v3 v4 v5 v6 v7 vp : Value) (picks : List Int) (w : World) (hp : w.heap[p]? = some (.cells #[vp, v1, v2, v3, v4, v5, v6, v7] 83 (0, 0))) (hd : RowAt p w vp (picks.map iV)) :
    Calls Try.prog 41 #[.pointer (some ⟨p, 0, none⟩)] w fun r w' => ∃ vp', r = .returned (.int .i64 (picks.headD 0)) ∧ w'.heap[p]? = some (.cells #[vp', v1, v2, v3, v4, v5, v6, v7] 83 (0, 0)) ∧ RowAt p w' vp' (picks.tail.map iV) ∧ Kb (fun b => b = p) w w' ∧ (∀ lo, AddrGe lo vp → AddrGe lo vp') := by
  obtain ⟨a, c, rfl, ha, hc, h0⟩ := hd
  rw [List.length_map] at hc
  have c0 := cells_of_block hp 0
  simp only [List.getElem?_toArray, List.getElem?_cons_zero] at c0
  rw [List.length_map] at c0
  have f0 : w.frozen? ⟨p, 0, none⟩ = false := by simp [World.frozen?, hp]
  have HP : Hid _ := hp
  have HA : Hid _ := ha
  cases picks with
  | nil =>
    simp only [List.length_nil] at c0
    clear hp ha
    go_enter Try.func41, Try.ntmps41
    go_wp2_with fail
    go_ret
    exact ⟨_, rfl, HP.out, ⟨a, c, rfl, VA.nil _ _ _, hc, h0⟩, Kb.refl _ _, fun lo h => h⟩
  | cons d ds =>
    obtain ⟨b, off, rfl, hb, hcell⟩ := ha 0 (iV d) rfl
    simp only [iV] at hcell
    rw [Nat.add_zero] at hcell
    obtain ⟨n, hn⟩ : ∃ n, ds.length = n := ⟨_, rfl⟩
    rw [List.length_cons, hn] at c0 hc
    have HN : Hid _ := hn
    have hnz : (((n : Int) + 1) == 0) = false := by simp; omega
    clear hp ha hn
    by_cases hc1 : c = 1
    · subst hc1
      obtain rfl : n = 0 := by omega
      go_enter Try.func41, Try.ntmps41
      go_wp2_with fail
      go_ret
      have hds : ds = [] := List.eq_nil_of_length_eq_zero HN.out
      subst hds
      exact ⟨_, rfl, block_set HP.out 0 _, ⟨_, _, rfl, VA.nil _ _ _, Nat.le_refl _, fun e => by cases e⟩, kb_one _ _ _ _, fun lo h a' n' c' e => by cases e; exact h _ _ _ rfl⟩
    · have hc2 : 1 < c := by omega
      have HC : Hid (n + 1 ≤ c) := hc
      go_enter Try.func41, Try.ntmps41
      go_wp2_with fail
      go_ret
      have hK : Kb (fun b => b = p) w (w.setCell ⟨p, 0, none⟩ (.slice (some ⟨b, off + 1, none⟩) n (c - 1))) := kb_one _ _ _ _
      have hps : p < w.heap.size := (Array.getElem?_eq_some_iff.1 HP.out).1
      refine ⟨_, rfl, block_set HP.out 0 _, ⟨some ⟨b, off + 1, none⟩, c - 1, by rw [List.length_map, List.tail_cons, HN.out], ?_, by rw [List.length_map, List.tail_cons, HN.out]; have := HC.out; omega, fun e => by cases e⟩, hK, fun lo h a' n' c' e => by cases e; exact h ⟨b, off, none⟩ _ _ rfl⟩
      intro j v hj
      obtain ⟨b', off', e, hb', hc'⟩ := HA.out (j + 1) v (by simpa using hj)
      cases e
      refine ⟨b, off + 1, rfl, hb', ?_⟩
      rw [show off + 1 + j = off + (j + 1) by omega]
      have h2 := hK.block b (by omega) (by omega)
      simp only [World.cell?] at hc' ⊢
      rw [h2]
      exact hc'
theorem la_pick (p : Nat) (S : LS) (w : World) (h : LA w p S) :
    Calls Try.prog 41 #[.pointer (some ⟨p, 0, none⟩)] w fun r w' => r = .returned (.int .i64 (S.picks.headD 0)) ∧ ∃ vp', LA w' p { S with vp := vp', picks := S.picks.tail } ∧ Kb (fun b => b = p) w w' ∧ (∀ lo, AddrGe lo S.vp → AddrGe lo vp') := by
  refine (pick_any p _ _ _ _ _ _ _ S.vp S.picks w h.hp h.picks).mono ?_
  rintro r w' ⟨vp', rfl, h1, h2, h3, h4⟩
  exact ⟨rfl, vp', h.picks_set vp' _ h1 h2 h3, h3, h4⟩
/-- Which task a pick says. -/
def pickI (P : PS) (pk : Int) : Nat := (readyL P.waits).getD (pk.toNat % (readyL P.waits).length) 0
/-- The next step: what it says, and the loop behind it. -/
def nextP (P : PS) : PS := if readyL P.waits = [] then P else actP { P with picks := P.picks.tail } (pickI P (P.picks.headD 0))
def nextN (P : PS) : Nat := if readyL P.waits = [] then 0 else pickI P (P.picks.headD 0)
def nextB (P : PS) : Bool := !(readyL P.waits).isEmpty
theorem Bd.tail {P : PS} (h : Bd P) : Bd { P with picks := P.picks.tail } := { h with pks := fun x hx => h.pks x (List.mem_of_mem_tail hx) }
theorem Bd.next {P : PS} (h : Bd P) : Bd (nextP P) := by
  unfold nextP
  split
  · exact h
  · exact h.tail.act _
theorem headD_good {P : PS} (h : Bd P) : 0 ≤ P.picks.headD 0 := by
  cases hp : P.picks with
  | nil => simp
  | cons a l => exact h.pks a (by rw [hp]; simp)
theorem actP_steps (P : PS) (i : Nat) : (actP P i).steps = P.steps + 1 := by
  unfold actP
  split <;> rfl
set_option maxHeartbeats 2000000 in
/-- Next, over a loop. -/
theorem la_nxt (p : Nat) (S : LS) (w : World) (h : LA w p S) (hb : Bd S.ps) (hst : S.steps < 10000000000000000) :
    Calls Try.prog 13 #[.pointer (some ⟨p, 0, none⟩)] w fun r w' => r = .returned (.tuple #[.int .i64 (nextN S.ps : Nat), .bool (nextB S.ps)]) ∧ ∃ S', LA w' p S' ∧ S'.ps = nextP S.ps ∧ Kb (fun b => Foot p S b) w w' ∧ FootUp w p S S' ∧ LoQ S S' := by
  have hlen : S.tks.length ≤ 100 := by have := hb.len; simp [LS.ps] at this; omega
  have HR : Hid (Calls Try.prog 19 #[.pointer (some ⟨p, 0, none⟩)] w fun r w' => ∃ a c, r = .returned (.slice a (readyL S.waits).length c) ∧ Below w.heap.size w w') := by
    refine (la_ready p S w h hlen).mono ?_
    rintro r w' ⟨a, c, rfl, _, h2⟩
    exact ⟨a, c, rfl, h2⟩
  have HH : Hid _ := h
  by_cases hr : readyL S.waits = []
  · have hr' : readyL S.ps.waits = [] := hr
    have e1 : nextN S.ps = 0 := by unfold nextN; rw [if_pos hr']
    have e2 : nextB S.ps = false := by unfold nextB; show (!(readyL S.waits).isEmpty) = false; rw [hr]; rfl
    have e3 : nextP S.ps = S.ps := by unfold nextP; rw [if_pos hr']
    rw [e1, e2, e3]
    rw [hr] at HR
    have HRR : Hid (Calls Try.prog 19 #[.pointer (some ⟨p, 0, none⟩)] w fun r w' => ∃ a c, r = .returned (.slice a 0 c) ∧ Below w.heap.size w w') := HR.out
    clear h hb hst hlen hr hr' e1 e2 e3 HR
    go_enter Try.func13, Try.ntmps13
    go_wp2_with fail
    refine Calls.mono HRR.out ?_
    rintro e w1 ⟨a1, c1, rfl, b1⟩
    have HL1 : Hid _ := HH.out.below b1
    have HB1 : Hid (Below w.heap.size w w1) := b1
    clear b1
    go_wp2_with fail
    go_ret2
    exact ⟨rfl, S, HL1.out, rfl, Kb.of_below HB1.out, fun b e => Or.inl e, ⟨fun _ h => h, rfl⟩⟩
  · have hr' : ¬ readyL S.ps.waits = [] := hr
    have hm : 0 < (readyL S.waits).length := List.length_pos_iff.2 hr
    obtain ⟨m, hmm⟩ : ∃ m, (readyL S.waits).length = m := ⟨_, rfl⟩
    have hpk := headD_good hb
    obtain ⟨pk, hpke⟩ : ∃ pk : Int, S.picks.headD 0 = pk := ⟨_, rfl⟩
    have hpk' : 0 ≤ pk := by rw [← hpke]; exact hpk
    have hjl : pk.toNat % (readyL S.waits).length < (readyL S.waits).length := Nat.mod_lt _ hm
    have e0 : pickI S.ps (S.ps.picks.headD 0) = (readyL S.waits).getD (pk.toNat % (readyL S.waits).length) 0 := by
      show (readyL S.waits).getD ((S.picks.headD 0).toNat % (readyL S.waits).length) 0 = _
      rw [hpke]
    obtain ⟨i, hi⟩ : ∃ i, (readyL S.waits).getD (pk.toNat % (readyL S.waits).length) 0 = i := ⟨_, rfl⟩
    have hij : (readyL S.waits)[pk.toNat % (readyL S.waits).length]? = some i := by rw [← hi, List.getD_eq_getElem?_getD, List.getElem?_eq_getElem hjl]; rfl
    have e1 : nextN S.ps = i := by unfold nextN; rw [if_neg hr', e0, hi]
    have e2 : nextB S.ps = true := by
      unfold nextB
      show (!(readyL S.waits).isEmpty) = true
      cases hq : readyL S.waits with
      | nil => exact absurd hq hr
      | cons a l => rfl
    have e3 : nextP S.ps = actP { S.ps with picks := S.ps.picks.tail } i := by unfold nextP; rw [if_neg hr', e0, hi]
    rw [e1, e2, e3]
    have HST : Hid (∀ W vp', LA W p { S with vp := vp', picks := S.picks.tail } → Calls Try.prog 18 #[.pointer (some ⟨p, 0, none⟩), .int .i64 pk] W fun r w' => r = .returned (.tuple #[.int .i64 (i : Nat), .bool true]) ∧ ∃ S', LA w' p S' ∧ S'.ps = actP { S.ps with picks := S.ps.picks.tail } i ∧ Kb (fun b => Foot p S b) W w' ∧ FootUp W p S S' ∧ LoQ { S with vp := vp', picks := S.picks.tail } S') := fun W vp' hL => by
      have := la_act p i (pk.toNat % (readyL S.waits).length) pk { S with vp := vp', picks := S.picks.tail } W hL hb.tail hst hpk' (by
        show pk.tmod ((readyL S.waits).length : Int) = _
        rw [Int.tmod_eq_emod_of_nonneg hpk', Int.natCast_emod, Int.toNat_of_nonneg hpk']) hij
      exact this
    have HPK : Hid (∀ W, LA W p S → Calls Try.prog 41 #[.pointer (some ⟨p, 0, none⟩)] W fun r w' => r = .returned (.int .i64 pk) ∧ ∃ vp', LA w' p { S with vp := vp', picks := S.picks.tail } ∧ Kb (fun b => b = p) W w' ∧ (∀ lo, AddrGe lo S.vp → AddrGe lo vp')) := fun W hL => by
      have := la_pick p S W hL
      rw [hpke] at this
      exact this
    rw [hmm] at HR hm
    have hm0 : ((m : Int) == 0) = false := by simp; omega
    clear h hb hst hlen hr hr' e1 e2 e3 e0 hmm hpk hpke hjl hi hij hpk'
    go_enter Try.func13, Try.ntmps13
    go_wp2_with fail
    refine Calls.mono HR.out ?_
    rintro e w1 ⟨a1, c1, rfl, b1⟩
    have HL1 : Hid (LA w1 p S) := HH.out.below b1
    have HB1 : Hid (Below w.heap.size w w1) := b1
    clear b1 HR
    go_wp2_with fail
    refine Calls.mono (HPK.out w1 HL1.out) ?_
    rintro e w2 ⟨rfl, vp', hL2, k2, g2⟩
    have HG2 : Hid (∀ lo, AddrGe lo S.vp → AddrGe lo vp') := g2
    clear g2
    have HL2 : Hid _ := hL2
    have HK2 : Hid (Kb (fun b => b = p) w1 w2) := k2
    clear hL2 k2
    go_wp2_with fail
    refine Calls.mono (HST.out w2 vp' HL2.out) ?_
    rintro e w3 ⟨rfl, S', hL3, hE3, k3, u3, g3⟩
    have HG3 : Hid (LoQ { S with vp := vp', picks := S.picks.tail } S') := g3
    clear g3
    have HL3 : Hid (LA w3 p S') := hL3
    have HE3 : Hid _ := hE3
    have HK3 : Hid (Kb (fun b => Foot p S b) w2 w3) := k3
    have HU3 : Hid (FootUp w2 p S S') := u3
    clear hL3 hE3 k3 u3
    go_wp2_with fail
    go_ret2
    refine ⟨rfl, S', HL3.out, HE3.out, ?_, ?_, ⟨fun lo h => HG3.out.lo lo ⟨HG2.out lo h.1, h.2.1, h.2.2⟩, HG3.out.qs⟩⟩
    · exact ((Kb.of_below (S := fun b => Foot p S b) HB1.out).trans HK2.out (fun b _ e => Or.inl e)).trans HK3.out (fun b _ e => e)
    · intro b hb
      have s1 := HB1.out.size
      have s2 := HK2.out.size
      rcases HU3.out b hb with e | e
      · exact Or.inl e
      · exact Or.inr (by omega)
end Go.Proofs.Ytefmhghdehokcaa
