/-
  Two rows of numbers beside each other; what tasks wait on; waking, over a loop.
-/
import Derived.Test.YtefmhghdehokcaaMadd
namespace Go.Proofs.Ytefmhghdehokcaa
open Go.RowKit
theorem ilist_ne_len {a b : List Int} (h : a.length ≠ b.length) : decide (a = b) = false := decide_eq_false (fun e => h (by rw [e]))
theorem ilist_ne_of {a b : List Int} {k : Nat} {x y : Int} (hx : a[k]? = some x) (hy : b[k]? = some y) (h : x ≠ y) : decide (a = b) = false := decide_eq_false (fun e => h (by rw [e, hy] at hx; exact (Option.some.inj hx).symm))
theorem ilist_eq_of {a b : List Int} (hl : a.length = b.length) (h : ∀ j, j < a.length → a[j]? = b[j]?) : decide (a = b) = true := decide_eq_true (List.ext_getElem? fun j => by
  by_cases hj : j < a.length
  · exact h j hj
  · rw [List.getElem?_eq_none (by omega), List.getElem?_eq_none (by omega)])
set_option maxHeartbeats 1000000 in
/-- sameInts. -/
theorem same_any (B : Nat) (aa ab : Option Addr) (ca cb : Nat) (ps qs : List Int) (w : World) (ha : VA B w aa (ps.map iV)) (hb : VA B w ab (qs.map iV)) (hm : ps.length ≤ 1000000) :
    Calls Try.prog 15 #[.slice aa ps.length ca, .slice ab qs.length cb] w fun r w' => r = .returned (.bool (decide (ps = qs))) ∧ ∃ q, w' = w.drewN q := by
  by_cases hlen : ps.length = qs.length
  · have hlen' : ((ps.length : Int) == (qs.length : Int)) = true := by simp; omega
    obtain ⟨n, hn⟩ : ∃ n, ps.length = n := ⟨_, rfl⟩
    obtain ⟨m, hmm⟩ : ∃ m, qs.length = m := ⟨_, rfl⟩
    have HA : Hid _ := ha
    have HB : Hid _ := hb
    have HL : Hid _ := hlen
    have HN : Hid _ := hn
    have HM : Hid _ := hmm
    rw [hn] at hm hlen'
    rw [hmm] at hlen'
    rw [hn, hmm]
    clear hlen hn hmm ha hb
    go_enter Try.func15, Try.ntmps15
    go_wp2_with fail
    go_loopw [5] (fun i wr => ∃ k : Nat, k ≤ n ∧ i = .int .i64 k ∧ Hid (∀ j, j < k → ps[j]? = qs[j]?) ∧ ∃ q, wr = w.drewN q) (fun i _ => n - (intOf i).toNat)
    case atStart => exact ⟨0, by omega, rfl, fun j hj => by omega, 0, rfl⟩
    case round =>
      obtain ⟨k, hk, rfl, HE, q, rfl⟩ := hrel
      by_cases hlt : k < n
      · obtain ⟨x, hx⟩ : ∃ x, ps[k]? = some x := ⟨ps[k]'(by rw [HN.out]; exact hlt), List.getElem?_eq_getElem _⟩
        obtain ⟨y, hy⟩ : ∃ y, qs[k]? = some y := ⟨qs[k]'(by rw [← HL.out, HN.out]; exact hlt), List.getElem?_eq_getElem _⟩
        obtain ⟨g, og, rfl, _, x0⟩ := HA.out k (iV x) (by rw [List.getElem?_map, hx]; rfl)
        obtain ⟨h, oh, rfl, _, y0⟩ := HB.out k (iV y) (by rw [List.getElem?_map, hy]; rfl)
        rw [iV] at x0 y0
        have HX : Hid _ := hx
        have HY : Hid _ := hy
        clear hx hy
        have hk' : k < m := by have := HL.out; have := HN.out; have := HM.out; omega
        by_cases hxy : x = y
        · have hd : (x == y) = true := by simpa using hxy
          have HXY : Hid _ := hxy
          clear hxy
          go_wp2_with fail
          go_quiet (fail)
          go_wp2_with fail
          go_roundw
          case rel =>
            refine ⟨k + 1, by omega, by go_num, ?_, q + nq, by simp⟩
            intro j hj
            by_cases hjk : j < k
            · exact HE.out j hjk
            · obtain rfl : j = k := by omega
              rw [HX.out, HY.out, HXY.out]
          case measure => simp [intOf]; omega
        · have hd : (x == y) = false := by simpa using hxy
          have HXY : Hid (decide (ps = qs) = false) := ilist_ne_of HX.out HY.out hxy
          clear hxy
          go_wp2_with fail
          go_quiet (fail)
          go_wp2_with fail
          go_ret
          refine ⟨?_, q + nq, by simp⟩
          rw [HXY.out]
          rfl
      · obtain rfl : k = n := by omega
        go_wp2_with fail
        go_ret
        refine ⟨?_, q, rfl⟩
        rw [ilist_eq_of HL.out (fun j hj => HE.out j (by have := HN.out; omega))]
        rfl
  · have hlen' : ((ps.length : Int) == (qs.length : Int)) = false := by simp; omega
    have HD : Hid _ := ilist_ne_len hlen
    clear hlen
    go_enter Try.func15, Try.ntmps15
    go_wp2
    go_ret
    refine ⟨?_, 0, rfl⟩
    rw [HD.out]
    rfl
/-- What the tasks wait on, in a row of its own. -/
theorem waits_any (p n B : Nat) (vp vk vs vw v4 v5 v6 v7 : Value) (ws : List Int) (w : World) (hp : w.heap[p]? = some (.cells #[vp, vk, vs, vw, v4, v5, v6, v7] 83 (0, 0))) (hw : w.ownsRow B 3 1 vw n (ws.map iV)) (hn : n ≤ 100) :
    Calls Try.prog 16 #[.pointer (some ⟨p, 0, none⟩)] w fun r w' => ∃ v, r = .returned v ∧ w'.ownsRow w.heap.size 3 1 v n (ws.map iV) ∧ Below w.heap.size w w' := by
  have hl : (ws.map iV).length = n * 1 := hw.1
  have HC : Hid (Calls Try.prog 42 #[vw] w fun r w' => ∃ v, r = .returned v ∧ w'.ownsRow w.heap.size 3 1 v n (ws.map iV) ∧ Below w.heap.size w w') := by
    rcases hw.2 with ⟨rfl, h0⟩ | ⟨g, cap, cur, rfl, hb, hh, _⟩
    · subst h0
      refine (clone22_nil w).mono ?_
      rintro r w' ⟨rfl, rfl⟩
      have : ws = [] := by simpa using hl
      subst this
      exact ⟨_, rfl, World.ownsRow_nil _ _ _ _, Below.refl _ _⟩
    · refine (clone22_some ⟨g, 0, none⟩ n cap (ws.map iV) w (fun j u hj => World.ownsRow.cells hw rfl j u hj) (Array.getElem?_eq_some_iff.1 hh).1 hl (fun u hu => ?_) (by omega)).mono ?_
      · simp only [List.mem_map] at hu
        obtain ⟨x, _, rfl⟩ := hu
        rfl
      · rintro r w' ⟨g', cap', rfl, _, h1, h2⟩
        exact ⟨_, rfl, h1, h2⟩
  obtain ⟨aw, cw, rfl⟩ := row_form hw
  have c3 := cells_of_block hp 3
  simp only [List.getElem?_toArray, List.getElem?_cons_succ, List.getElem?_cons_zero] at c3
  clear hw hp hl
  go_enter Try.func16, Try.ntmps16
  go_wp2_with fail
  refine (HC.out).mono ?_
  rintro e w1 ⟨v, rfl, h1, h2⟩
  have H1 : Hid _ := h1
  have H2 : Hid _ := h2
  clear h1 h2
  go_wp2_with fail
  go_ret
  exact ⟨_, rfl, H1.out, H2.out⟩
theorem now_any (p : Nat) (v0 v1 v2 v3 v4 v6 v7 : Value) (now : Int) (w : World) (hp : w.heap[p]? = some (.cells #[v0, v1, v2, v3, v4, .int .u64 now, v6, v7] 83 (0, 0))) :
    Calls Try.prog 14 #[.pointer (some ⟨p, 0, none⟩)] w fun r w' => r = .returned (.int .u64 now) ∧ w' = w := by
  have c5 : w.cell? ⟨p, 5, none⟩ = some (.int .u64 now) := by have := cells_of_block hp 5; simpa using this
  clear hp
  go_enter Try.func14, Try.ntmps14
  go_wp2
  go_ret
  exact ⟨rfl, rfl⟩
theorem steps_any (p : Nat) (v0 v1 v2 v3 v5 v6 v7 : Value) (st : Int) (w : World) (hp : w.heap[p]? = some (.cells #[v0, v1, v2, v3, .int .i64 st, v5, v6, v7] 83 (0, 0))) :
    Calls Try.prog 17 #[.pointer (some ⟨p, 0, none⟩)] w fun r w' => r = .returned (.int .i64 st) ∧ w' = w := by
  have c4 : w.cell? ⟨p, 4, none⟩ = some (.int .i64 st) := by have := cells_of_block hp 4; simpa using this
  clear hp
  go_enter Try.func17, Try.ntmps17
  go_wp2
  go_ret
  exact ⟨rfl, rfl⟩
/-- Another row of waits in the same place. -/
theorem LA.waits_set {w w' : World} {p : Nat} {S : LS} (h : LA w p S) (ws : List Int) (o : w'.ownsRow (p + 1) 3 1 S.vw S.tks.length (ws.map iV)) (k : Kb (fun b => S.vw.ownBlock = some b) w w') : LA w' p { S with waits := ws } := by
  have hps := (Array.getElem?_eq_some_iff.1 h.hp).1
  have low : ∀ b : Nat, S.vw.ownBlock = some b → p + 1 ≤ b := fun b e => (h.waits.lt b e).1
  have row : ∀ v l, RowAt p w v l → RowAt p w' v l := fun v l hr => hr.kb hps (fun b e => by have := low b e; omega) k
  refine { hp := (k.block p hps (fun e => by have := low p e; omega)).trans h.hp, picks := row _ _ h.picks, ticks := row _ _ h.ticks, draws := row _ _ h.draws, tasks := ?_, waits := o, each := ?_, apart := h.apart }
  · refine owns_same h.tasks (fun g e => k.block g (h.tasks.lt g e).2 ?_)
    obtain ⟨c, hc⟩ := row_block h.tasks e
    exact row_type h.waits hc (by decide)
  · intro i u hi
    obtain ⟨hu, hua⟩ := h.each i u hi
    refine ⟨hu.kb k (row_type h.waits hu.hq (by decide)) (fun g hg => ?_) (fun ad e => ?_), fun ad e => ?_⟩
    · obtain ⟨c, hc⟩ := row_block hu.told hg
      exact row_type h.waits hc (by decide)
    · obtain ⟨hb, c, f, hc⟩ := hua ad e
      exact row_type h.waits hc (by decide)
    · obtain ⟨hb, c, f, hc⟩ := hua ad e
      exact ⟨Nat.lt_of_lt_of_le hb k.size, c, f, (k.block _ hb (row_type h.waits hc (by decide))).trans hc⟩
/-- Wake, over a loop. -/
theorem la_wake (p : Nat) (ch : Int) (S : LS) (w : World) (h : LA w p S) (hn : S.tks.length ≤ 100) :
    Calls Try.prog 20 #[.pointer (some ⟨p, 0, none⟩), .int .i64 ch] w fun r w' => r = .returned (.int .i64 (wakeN ch S.waits : Nat)) ∧ LA w' p { S with waits := wakeL ch S.waits } ∧ Kb (fun b => S.vw.ownBlock = some b) w w' := by
  refine (wake_any p S.tks.length ch S.waits S.vp S.vk S.vs S.vw _ _ _ _ (p + 1) w h.hp h.waits (by omega) hn).mono ?_
  rintro r w' ⟨rfl, o, k⟩
  exact ⟨rfl, h.waits_set _ o k, k⟩
end Go.Proofs.Ytefmhghdehokcaa
