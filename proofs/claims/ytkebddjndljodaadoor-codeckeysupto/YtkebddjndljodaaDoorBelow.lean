/-
  The contract of the document's Below: it tells whether parts stand ahead of others.
-/
import Derived.Test.YtkebddjndljodaaDoorParts
namespace Go.Proofs.YtkebddjndljodaaDoor
open Go.RowKit
theorem cell_more {w : World} {p : Addr} {v : Value} (o : Obj) (h : w.cell? p = some v) : (w.alloc o).cell? p = some v :=
  (((Below.refl w.heap.size w).alloc (Nat.le_refl _) o).cell (World.block_lt_of_cell? w _ h)).trans h
theorem below_common : ∀ (k : Nat) {ps qs : List Prt}, k ≤ ps.length → k ≤ qs.length → (∀ j, j < k → ps[j]? = qs[j]?) → below ps qs = below (ps.drop k) (qs.drop k)
  | 0, _, _, _, _, _ => rfl
  | k + 1, [], _, h, _, _ => by simp at h
  | k + 1, _ :: _, [], _, h, _ => by simp at h
  | k + 1, x :: ps, y :: qs, h1, h2, h => by
    have h0 := h 0 (by omega)
    simp only [List.getElem?_cons_zero, Option.some.injEq] at h0
    subst h0
    rw [below, if_pos rfl, List.drop_succ_cons, List.drop_succ_cons]
    exact below_common k (by simpa using h1) (by simpa using h2) (fun j hj => by have := h (j + 1) (by omega); simpa using this)
theorem prt_at {ps : List Prt} {k : Nat} {x : Prt} (h : ps[k]? = some x) : ps.drop k = x :: ps.drop (k + 1) := by
  obtain ⟨h1, h2⟩ := List.getElem?_eq_some_iff.1 h
  rw [List.drop_eq_getElem_cons h1, h2]
theorem below_at {ps qs : List Prt} {k : Nat} {x y : Prt} (hx : ps[k]? = some x) (hy : qs[k]? = some y) (hne : x ≠ y) (h : ∀ j, j < k → ps[j]? = qs[j]?) : below ps qs = below1 x y := by
  have h1 := (List.getElem?_eq_some_iff.1 hx).1
  have h2 := (List.getElem?_eq_some_iff.1 hy).1
  rw [below_common k (by omega) (by omega) h, prt_at hx, prt_at hy, below, if_neg hne]
theorem below_end {ps qs : List Prt} {k : Nat} (h1 : k ≤ ps.length) (h2 : k ≤ qs.length) (h3 : k = ps.length ∨ k = qs.length) (h : ∀ j, j < k → ps[j]? = qs[j]?) : below ps qs = decide (ps.length < qs.length) := by
  rw [below_common k h1 h2 h]
  rcases h3 with h3 | h3
  · rw [show ps.drop k = [] from List.drop_eq_nil_of_le (by omega)]
    by_cases h4 : ps.length < qs.length
    · rw [List.drop_eq_getElem_cons (l := qs) (by omega)]
      simp [below]; omega
    · rw [show qs.drop k = [] from List.drop_eq_nil_of_le (by omega)]
      simp [below]; omega
  · rw [show qs.drop k = [] from List.drop_eq_nil_of_le (by omega)]
    cases hd : ps.drop k with
    | nil => simp [below]; have := congrArg List.length hd; simp at this; omega
    | cons a l => simp [below]; omega
set_option maxRecDepth 100000 in
set_option maxHeartbeats 4000000 in
theorem below_any (a b : Option Addr) (ca cb : Nat) (ps qs : List Prt) (w : World) (ha : PartsAt w a ps) (hb : PartsAt w b qs) (hl : ps.length ≤ 1048576) (_hl2 : qs.length ≤ 1048576) :
    Calls Tryd.prog 11 #[.slice a ps.length ca, .slice b qs.length cb] w fun r w' => r = .returned (.bool (below ps qs)) ∧ Below w.heap.size w w' := by
  have HA : Hid _ := ha
  have HB : Hid _ := hb
  clear ha hb
  obtain ⟨n, hn⟩ : ∃ n, ps.length = n := ⟨_, rfl⟩
  obtain ⟨m, hm⟩ : ∃ m, qs.length = m := ⟨_, rfl⟩
  have HN : Hid _ := hn
  have HM : Hid _ := hm
  rw [hn] at hl
  rw [hm] at _hl2
  rw [hn, hm]
  clear hn hm
  go_enter Tryd.func11, Tryd.ntmps11
  go_wp2_with fail
  go_loopw [5] (fun i wr => ∃ k : Nat, k ≤ n ∧ k ≤ m ∧ i = .int .i64 k ∧ Hid (∀ j, j < k → ps[j]? = qs[j]?) ∧ Below w.heap.size w wr) (fun i _ => n - (intOf i).toNat)
  case atStart => exact ⟨0, by omega, by omega, rfl, fun j hj => by omega, Below.refl _ _⟩
  case round =>
    obtain ⟨k, hk, hk2, rfl, HE, hbel⟩ := hrel
    by_cases hlt : k < n ∧ k < m
    · obtain ⟨hlt1, hlt2⟩ := hlt
      obtain ⟨x, hx⟩ : ∃ x, ps[k]? = some x := ⟨ps[k]'(by rw [HN.out]; exact hlt1), List.getElem?_eq_getElem _⟩
      obtain ⟨y, hy⟩ : ∃ y, qs[k]? = some y := ⟨qs[k]'(by rw [HM.out]; exact hlt2), List.getElem?_eq_getElem _⟩
      obtain ⟨g, og, rfl, hg1, x0, x1, x2⟩ := HA.out k x hx
      obtain ⟨h, oh, rfl, hh1, y0, y1, y2⟩ := HB.out k y hy
      have HX : Hid _ := hx
      have HY : Hid _ := hy
      clear hx hy
      replace x0 := (hbel.cell (p := ⟨g, og + k * 3, none⟩) hg1).trans x0
      replace x1 := (hbel.cell (p := ⟨g, og + k * 3 + 1, none⟩) hg1).trans x1
      replace x2 := (hbel.cell (p := ⟨g, og + k * 3 + 2, none⟩) hg1).trans x2
      replace y0 := (hbel.cell (p := ⟨h, oh + k * 3, none⟩) hh1).trans y0
      replace y1 := (hbel.cell (p := ⟨h, oh + k * 3 + 1, none⟩) hh1).trans y1
      replace y2 := (hbel.cell (p := ⟨h, oh + k * 3 + 2, none⟩) hh1).trans y2
      have x0a : ∀ o, (wr.alloc o).cell? _ = _ := fun o => cell_more o x0
      have x0b : ∀ o o1, ((wr.alloc o).alloc o1).cell? _ = _ := fun o o1 => cell_more o1 (x0a o)
      have x1a : ∀ o, (wr.alloc o).cell? _ = _ := fun o => cell_more o x1
      have x1b : ∀ o o1, ((wr.alloc o).alloc o1).cell? _ = _ := fun o o1 => cell_more o1 (x1a o)
      have x2a : ∀ o, (wr.alloc o).cell? _ = _ := fun o => cell_more o x2
      have x2b : ∀ o o1, ((wr.alloc o).alloc o1).cell? _ = _ := fun o o1 => cell_more o1 (x2a o)
      have y0a : ∀ o, (wr.alloc o).cell? _ = _ := fun o => cell_more o y0
      have y0b : ∀ o o1, ((wr.alloc o).alloc o1).cell? _ = _ := fun o o1 => cell_more o1 (y0a o)
      have y1a : ∀ o, (wr.alloc o).cell? _ = _ := fun o => cell_more o y1
      have y1b : ∀ o o1, ((wr.alloc o).alloc o1).cell? _ = _ := fun o o1 => cell_more o1 (y1a o)
      have y2a : ∀ o, (wr.alloc o).cell? _ = _ := fun o => cell_more o y2
      have y2b : ∀ o o1, ((wr.alloc o).alloc o1).cell? _ = _ := fun o o1 => cell_more o1 (y2a o)
      have hg := guard47
      have HB1 : Hid (∀ o o1, Below w.heap.size w ((wr.alloc o).alloc o1).drew) := fun o o1 => ((hbel.alloc hbel.size _).alloc (by simp; have := hbel.size; omega) _).drew
      by_cases hxy : x = y
      · have hd : decide (x = y) = true := decide_eq_true hxy
        have he := eqIn47 x y
        have HXY : Hid _ := hxy
        clear hxy
        go_wp2_with fail
        go_region
        all_goals
          go_wp2_with fail
          go_roundw
          case rel =>
            refine ⟨k + 1, by omega, by omega, by go_num, ?_, HB1.out _ _⟩
            intro j hj
            by_cases hjk : j < k
            · exact HE.out j hjk
            · obtain rfl : j = k := by omega
              rw [HX.out, HY.out, HXY.out]
          case measure => simp [intOf]; omega
      · have HR : Hid (below ps qs = below1 x y) := below_at HX.out HY.out hxy HE.out
        obtain ⟨xt, xn, xi⟩ := x
        obtain ⟨yt, yn, yi⟩ := y
        have hd : decide ((⟨xt, xn, xi⟩ : Prt) = ⟨yt, yn, yi⟩) = false := decide_eq_false hxy
        have he := eqIn47 ⟨xt, xn, xi⟩ ⟨yt, yn, yi⟩
        rw [hd] at he
        dsimp only at he x0 x1 x2 y0 y1 y2 x0a x1a x2a y0a y1a y2a x0b x1b x2b y0b y1b y2b
        clear hxy hd HX HY
        cases xi <;> cases yi
        all_goals (go_wp2_with fail)
        all_goals go_region
        all_goals
          go_wp2_with fail
          go_ret
          refine ⟨?_, HB1.out _ _⟩
          rw [HR.out]
          simp [below1, ByteArray.toList_eq]
    · have hend : k = n ∨ k = m := by omega
      have HR : Hid (below ps qs = decide (n < m)) := by
        have := below_end (ps := ps) (qs := qs) (k := k) (by rw [HN.out]; exact hk) (by rw [HM.out]; exact hk2) (by rw [HN.out, HM.out]; exact hend) HE.out
        rw [HN.out, HM.out] at this
        exact this
      by_cases h1 : k < n
      · have h2 : ¬ k < m := fun h => hlt ⟨h1, h⟩
        clear hend hlt
        go_wp2_with fail
        go_ret
        exact ⟨by rw [HR.out]; rfl, hbel⟩
      · clear hend hlt
        go_wp2_with fail
        go_ret
        exact ⟨by rw [HR.out]; rfl, hbel⟩
end Go.Proofs.YtkebddjndljodaaDoor
