/-
  The contracts of Find's closure and IndexFunc.
-/
import Derived.Test.YtbpfggpljfpfcaaDoorHas
namespace Go.Proofs.YtbpfggpljfpfcaaDoor
open Go.RowKit
/-- Rules from a slice's address on. -/
def RowR (W : World) (a : Option Addr) (l : List (Rule × Nat)) : Prop := ∀ j x, l[j]? = some x → ∃ b off, a = some ⟨b, off, none⟩ ∧ b < W.heap.size ∧ ∀ i v, (ruL (rmOf x))[i]? = some v → W.cell? ⟨b, off + j * 10 + i, none⟩ = some v
theorem RowR.below {W W' : World} {a : Option Addr} {l : List (Rule × Nat)} (h : RowR W a l) (B : Below W.heap.size W W') : RowR W' a l := by
  intro j x hj
  obtain ⟨b, off, e, hb, hc⟩ := h j x hj
  exact ⟨b, off, e, Nat.lt_of_lt_of_le hb B.size, fun i v hi => (B.cell (p := ⟨b, off + j * 10 + i, none⟩) hb).trans (hc i v hi)⟩
theorem flR_get : ∀ {l : List (Rule × Nat)} {j : Nat} {x : Rule × Nat}, l[j]? = some x → ∀ i, i < 10 → (flR l)[j * 10 + i]? = (ruL (rmOf x))[i]?
  | [], j, x, h, _, _ => by simp at h
  | d :: l, 0, x, h, i, hi => by
    simp only [List.getElem?_cons_zero, Option.some.injEq] at h
    subst h
    rw [show flR (d :: l) = ruL (rmOf d) ++ flR l from rfl, Nat.zero_mul, Nat.zero_add, List.getElem?_append_left (by simp [ruL]; omega)]
  | d :: l, j + 1, x, h, i, hi => by
    rw [List.getElem?_cons_succ] at h
    rw [show flR (d :: l) = ruL (rmOf d) ++ flR l from rfl, List.getElem?_append_right (by simp [ruL]; omega), ← flR_get h i hi]
    congr 1
    simp [ruL]
    omega
theorem flR_len (l : List (Rule × Nat)) : (flR l).length = l.length * 10 := by
  induction l with
  | nil => rfl
  | cons a l ih => rw [show flR (a :: l) = ruL (rmOf a) ++ flR l from rfl, List.length_append, ih, List.length_cons]; simp [ruL]; omega
theorem flR_one (l : List (Rule × Nat)) : ∀ u ∈ flR l, u.oneCell' = true := by
  intro u hu
  obtain ⟨c, _, hc⟩ := List.mem_flatMap.1 hu
  simp only [ruL, List.mem_cons, List.not_mem_nil, or_false] at hc
  rcases hc with rfl | rfl | rfl | rfl | rfl | rfl | rfl | rfl | rfl | rfl
  all_goals first | rfl | (cases partF c.1.part <;> rfl) | (show (pfV (rmOf c).fp).oneCell' = true; cases (rmOf c).fp <;> rfl)
theorem ruL_lt {r : RM} {i : Nat} {v : Value} (h : (ruL r)[i]? = some v) : i < 10 := by
  have := (List.getElem?_eq_some_iff.1 h).1
  simpa [ruL] using this
theorem row_tab {W : World} {g : Nat} {l : List (Rule × Nat)} (h : TabR W g l) : RowR W (some ⟨g, 0, none⟩) l := by
  intro j x hj
  refine ⟨g, 0, rfl, (Array.getElem?_eq_some_iff.1 h.1).1, fun i v hi => cell_of_block h.1 ?_⟩
  rw [List.getElem?_toArray, Nat.zero_add, flR_get hj i (ruL_lt hi)]
  exact hi
theorem row_owns {W : World} {B : Nat} {a : Option Addr} {c : Nat} {l : List (Rule × Nat)} (h : W.ownsRow B 50 10 (.slice a l.length c) l.length (flR l)) : RowR W a l := by
  rcases h.2 with ⟨hv, h0⟩ | ⟨g, cap, cur, hv, hB, hh, hn, _⟩
  · have : l = [] := List.eq_nil_of_length_eq_zero h0
    subst this
    intro j x hj
    simp at hj
  · rw [Value.slice.injEq] at hv
    obtain ⟨rfl, _, rfl⟩ := hv
    refine fun j x hj => ⟨g, 0, rfl, (Array.getElem?_eq_some_iff.1 hh).1, fun i v hi => ?_⟩
    have hjl : j < l.length := (List.getElem?_eq_some_iff.1 hj).1
    have hi10 := ruL_lt hi
    have := h.cellAt (j * 10 + i) (by omega)
    rw [flR_get hj i hi10, hi] at this
    simpa using this
theorem infoR : (Tryd.prog.info? 50).map (fun i => (i.size, i.bytes)) = some (10, 120) := by kernel_rfl
theorem RowR.get {W : World} {a : Option Addr} {l : List (Rule × Nat)} (h : RowR W a l) {j : Nat} {x : Rule × Nat} (hj : l[j]? = some x) : ∃ b off, a = some ⟨b, off, none⟩ ∧ b < W.heap.size ∧
    W.cell? ⟨b, off + j * 10, none⟩ = some (.string (bOf x.1.meth)) ∧ W.cell? ⟨b, off + j * 10 + 1, none⟩ = some (.slice (some ⟨x.2, 0, none⟩) x.1.path.length x.1.path.length) ∧ W.cell? ⟨b, off + j * 10 + 2, none⟩ = some (.int .i64 x.1.kind) ∧ W.cell? ⟨b, off + j * 10 + 3, none⟩ = some (.string ⟨#[]⟩) ∧ W.cell? ⟨b, off + j * 10 + 4, none⟩ = some (.string ⟨#[]⟩) ∧ W.cell? ⟨b, off + j * 10 + 5, none⟩ = some (.int .i64 0) ∧ W.cell? ⟨b, off + j * 10 + 6, none⟩ = some (.bool x.1.me) ∧ W.cell? ⟨b, off + j * 10 + 7, none⟩ = some (pfV (partF x.1.part)) ∧ W.cell? ⟨b, off + j * 10 + 8, none⟩ = some (.func (.func (rmOf x).fr) #[] #[]) ∧ W.cell? ⟨b, off + j * 10 + 9, none⟩ = some (.func (.func (rmOf x).fw) #[] #[]) := by
  obtain ⟨b, off, e, hb, hc⟩ := h j x hj
  exact ⟨b, off, e, hb, hc 0 _ rfl, hc 1 _ rfl, hc 2 _ rfl, hc 3 _ rfl, hc 4 _ rfl, hc 5 _ rfl, hc 6 _ rfl, hc 7 _ rfl, hc 8 _ rfl, hc 9 _ rfl⟩
set_option maxRecDepth 20000 in
set_option maxHeartbeats 8000000 in
theorem is_gen (meth : List UInt8) (pb pn : Nat) (kind : Int) (me : Bool) (fv : Value) (fr fw : Nat) (hfv : fv = .nilFunc ∨ ∃ n, fv = .func (.func n) #[] #[]) (mb : Nat) (m : List UInt8) (w : World) (hm : w.cell? ⟨mb, 0, none⟩ = some (.string (bOf m))) (hb : mb < w.heap.size) :
    Calls Tryd.prog 22 #[.agg #[.string (bOf meth), .slice (some ⟨pb, 0, none⟩) pn pn, .int .i64 kind, .string ⟨#[]⟩, .string ⟨#[]⟩, .int .i64 0, .bool me, fv, .func (.func fr) #[] #[], .func (.func fw) #[] #[]], .pointer (some ⟨mb, 0, none⟩)] w fun e w' => e = .returned (.bool (decide (meth = m))) ∧ Below w.heap.size w w' := by
  obtain ⟨W0, hW0⟩ : ∃ W0, w.alloc (.cells #[.string (bOf meth), .slice (some ⟨pb, 0, none⟩) pn pn, .int .i64 kind, .string ⟨#[]⟩, .string ⟨#[]⟩, .int .i64 0, .bool me, fv, .func (.func fr) #[] #[], .func (.func fw) #[] #[]] 50) = W0 := ⟨_, rfl⟩
  have hbl := below_new w (.cells #[.string (bOf meth), .slice (some ⟨pb, 0, none⟩) pn pn, .int .i64 kind, .string ⟨#[]⟩, .string ⟨#[]⟩, .int .i64 0, .bool me, fv, .func (.func fr) #[] #[], .func (.func fw) #[] #[]] 50)
  have hx := block_alloc_at w (.cells #[.string (bOf meth), .slice (some ⟨pb, 0, none⟩) pn pn, .int .i64 kind, .string ⟨#[]⟩, .string ⟨#[]⟩, .int .i64 0, .bool me, fv, .func (.func fr) #[] #[], .func (.func fw) #[] #[]] 50)
  rw [hW0] at hbl hx
  have HB : Hid _ := hbl
  have c0 : W0.cell? ⟨w.heap.size, 0, none⟩ = some (.string (bOf meth)) := cell_of_block hx rfl
  have c1 : W0.cell? ⟨mb, 0, none⟩ = some (.string (bOf m)) := (hbl.cell (p := ⟨mb, 0, none⟩) hb).trans hm
  have hq : ((bOf meth).toList == (bOf m).toList) = decide (meth = m) := by
    by_cases h : meth = m
    · rw [decide_eq_true h]; exact toList_eq' (by rw [h])
    · rw [decide_eq_false h]; exact toList_ne (fun e => h (bOf_inj e))
  obtain ⟨d, hd⟩ : ∃ d, decide (meth = m) = d := ⟨_, rfl⟩
  rw [hd] at hq ⊢
  clear hbl hx hm hd
  rcases hfv with rfl | ⟨fn, rfl⟩
  all_goals
    go_enter Tryd.func22, Tryd.ntmps22
    go_wp2_with fail
    try rw [hW0]
    go_ret
    exact ⟨rfl, HB.out⟩
set_option maxRecDepth 20000 in
set_option maxHeartbeats 16000000 in
theorem index_rule (l : List (Rule × Nat)) (hl : l.length ≤ 10) (a : Option Addr) (c mb : Nat) (m : List UInt8) (w : World) (hr : RowR w a l) (hm : w.cell? ⟨mb, 0, none⟩ = some (.string (bOf m))) (hb : mb < w.heap.size) :
    Calls Tryd.prog 21 #[.slice a l.length c, .func (.func 22) #[] #[.pointer (some ⟨mb, 0, none⟩)]] w fun e w' => ((∃ k x, e = .returned (.int .i64 (k : Nat)) ∧ l[k]? = some x ∧ x.1.meth = m ∧ ∀ j y, j < k → l[j]? = some y → y.1.meth ≠ m) ∨ (e = .returned (.int .i64 (-1)) ∧ ∀ y ∈ l, y.1.meth ≠ m)) ∧ Below w.heap.size w w' := by
  obtain ⟨n, hn⟩ : ∃ n, l.length = n := ⟨_, rfl⟩
  rw [hn] at hl ⊢
  have HN : Hid _ := hn
  have HR : Hid (RowR w a l) := hr
  have HM : Hid (∀ W, Below w.heap.size w W → W.cell? ⟨mb, 0, none⟩ = some (.string (bOf m))) := fun W b => (b.cell (p := ⟨mb, 0, none⟩) hb).trans hm
  clear hn hr hm
  go_enter Tryd.func21, Tryd.ntmps21
  go_wp2_with fail
  go_loopw [8] (fun i wr => ∃ k : Nat, k ≤ n ∧ i = .int .i64 (k : Nat) ∧ Hid (∀ (j : Nat) (y : Rule × Nat), j < k → l[j]? = some y → y.1.meth ≠ m) ∧ Hid (Below w.heap.size w wr)) (fun i _ => n - (intOf i).toNat)
  case atStart => exact ⟨0, by omega, rfl, fun j y h => by omega, Below.refl _ _⟩
  case round =>
    obtain ⟨k, hk, rfl, HA, HB⟩ := hrel
    by_cases hlt : k < n
    · have hlz : (k : Int) < (n : Int) := by omega
      obtain ⟨x, hx⟩ : ∃ x, l[k]? = some x := ⟨_, List.getElem?_eq_getElem (by rw [HN.out]; exact hlt)⟩
      obtain ⟨b, off, rfl, _, c0, c1, c2, c3, c4, c5, c6, c7, c8, c9⟩ := RowR.get (RowR.below HR.out HB.out) hx
      have hfv := pfV_cases (partF x.1.part)
      obtain ⟨fv, hv⟩ : ∃ fv, pfV (partF x.1.part) = fv := ⟨_, rfl⟩
      rw [hv] at c7 hfv
      have H1 : Hid (∀ W, Below w.heap.size w W → _) := fun W bw => is_gen x.1.meth x.2 x.1.path.length x.1.kind x.1.me fv (rmOf x).fr (rmOf x).fw hfv mb m W (HM.out W bw) (Nat.lt_of_lt_of_le hb bw.size)
      have HGO : Hid (¬ x.1.meth = m → ∀ (j : Nat) (y : Rule × Nat), j < k + 1 → l[j]? = some y → y.1.meth ≠ m) := fun h j y hj hy => by
        rcases Nat.lt_succ_iff_lt_or_eq.1 hj with h1 | rfl
        · exact HA.out j y h1 hy
        · rw [hx] at hy; cases hy; exact h
      have HX : Hid _ := hx
      obtain ⟨d, hd⟩ : ∃ d, decide (x.1.meth = m) = d := ⟨_, rfl⟩
      rw [hd] at H1
      obtain ⟨f1, hf1⟩ : ∃ f1, (rmOf x).fr = f1 := ⟨_, rfl⟩
      obtain ⟨f2, hf2⟩ : ∃ f2, (rmOf x).fw = f2 := ⟨_, rfl⟩
      rw [hf1] at c8 H1
      rw [hf2] at c9 H1
      have HD : Hid _ := hd
      clear hv hd hf1 hf2 hx
      rcases hfv with rfl | ⟨fn, rfl⟩
      all_goals
        go_wp2_with fail
        refine (H1.out _ HB.out).mono ?_
        rintro e w1 ⟨rfl, b1⟩
        have HB1 : Hid (Below w.heap.size w w1) := HB.out.trans (b1.mono HB.out.size)
        clear b1
        cases d with
        | true =>
          go_wp2_with fail
          go_ret
          exact ⟨Or.inl ⟨k, x, rfl, HX.out, of_decide_eq_true HD.out, HA.out⟩, HB1.out⟩
        | false =>
          have HA2 : Hid _ := HGO.out (of_decide_eq_false HD.out)
          go_wp2_with fail
          go_roundw
          case rel => exact ⟨k + 1, by omega, by go_num, HA2.out, HB1.out⟩
          case measure => simp [intOf]; omega
    · obtain rfl : k = n := by omega
      have hlz : ¬ (k : Int) < (k : Int) := by omega
      have HZ : Hid (∀ y ∈ l, y.1.meth ≠ m) := fun y hy => by
        obtain ⟨j, hj, e⟩ := List.getElem_of_mem hy
        exact HA.out j y (by have := HN.out; omega) (by rw [List.getElem?_eq_getElem hj, e])
      go_wp2_with fail
      go_ret
      exact ⟨Or.inr ⟨rfl, fun y b hy => HZ.out (y, b) hy⟩, HB.out⟩
end Go.Proofs.YtbpfggpljfpfcaaDoor
