/-
  The contracts of noQuery and readFrom.
-/
import Derived.Test.YtbpfggpljfpfcaaDoorRls
namespace Go.Proofs.YtbpfggpljfpfcaaDoor
open Go.RowKit
def rtA (x : Rt) : Array Value := #[.int .i64 x.kind, .string (bOf x.token), .string (bOf x.user), .int .i64 x.frm, .bool x.me]
def rtV (x : Rt) : Value := .agg (rtA x)
/-- A route in a block. -/
def XB (W : World) (g : Nat) (x : Rt) : Prop := W.heap[g]? = some (.cells (rtA x) 23 (0, 0))
theorem free_of_block {w : World} {b : Nat} {c : Array Value} {t : TypeId} (h : w.heap[b]? = some (.cells c t (0, 0))) (o : Nat) : w.frozen? ⟨b, o, none⟩ = false := by simp [World.frozen?, h]
theorem set_block {W : World} {g : Nat} {c : Array Value} {t : TypeId} (h : W.heap[g]? = some (.cells c t (0, 0))) (i : Nat) (v : Value) : (W.setCell ⟨g, i, none⟩ v).heap[g]? = some (.cells (c.setIfInBounds i v) t (0, 0)) := by
  simp [World.setCell, Array.getElem?_modify, h]
theorem XB.below {V V' : World} {g : Nat} {x : Rt} (h : XB V g x) (b : Below V.heap.size V V') : XB V' g x := (b.block g (Array.getElem?_eq_some_iff.1 h).1).trans h
theorem XB.lt {V : World} {g : Nat} {x : Rt} (h : XB V g x) : g < V.heap.size := (Array.getElem?_eq_some_iff.1 h).1
theorem XB.cells {W : World} {g : Nat} {x : Rt} (h : XB W g x) : W.cell? ⟨g, 0, none⟩ = some (.int .i64 x.kind) ∧ W.cell? ⟨g, 1, none⟩ = some (.string (bOf x.token)) ∧ W.cell? ⟨g, 2, none⟩ = some (.string (bOf x.user)) ∧ W.cell? ⟨g, 3, none⟩ = some (.int .i64 x.frm) ∧ W.cell? ⟨g, 4, none⟩ = some (.bool x.me) :=
  ⟨cell_of_block h rfl, cell_of_block h rfl, cell_of_block h rfl, cell_of_block h rfl, cell_of_block h rfl⟩
theorem XB.frm {W : World} {g : Nat} {x : Rt} (h : XB W g x) (n : Int) : XB (W.setCell ⟨g, 3, none⟩ (.int .i64 n)) g { x with frm := n } := set_block h 3 _
/-- Only cell 3 of block g may be another; the rest is as it was. -/
def KB (g : Nat) (w w' : World) : Prop := ∃ w1, Below w.heap.size w w1 ∧ (w' = w1 ∨ ∃ v, w' = w1.setCell ⟨g, 3, none⟩ v)
theorem KB.block {g : Nat} {w w' : World} (h : KB g w w') {b : Nat} (hb : b ≠ g) (hlt : b < w.heap.size) : w'.heap[b]? = w.heap[b]? := by
  obtain ⟨w1, b1, (rfl | ⟨v, rfl⟩)⟩ := h
  · exact b1.block b hlt
  · exact (Below.heap_setCell _ _ _ _ hb).trans (b1.block b hlt)
theorem KB.below {g B : Nat} {a w w' : World} (h : KB g w w') (hg : B ≤ g) (b : Below B a w) (hB : B ≤ w.heap.size) : Below B a w' := by
  obtain ⟨w1, b1, (rfl | ⟨v, rfl⟩)⟩ := h
  · exact b.trans (b1.mono hB)
  · exact (b.trans (b1.mono hB)).setCell (p := ⟨g, 3, none⟩) hg _
/-- What a rule's read tells. -/
def RdP (w : World) (g : Nat) (x : Rt) (q : List UInt8) (has : Bool) (e : Ending) (w' : World) : Prop := ∃ ok x', e = .returned (.bool ok) ∧ readR x q has = (if ok = true then (x', 200) else (rt0, 400)) ∧ XB w' g x' ∧ KB g w w'
theorem noQuery_any (g : Nat) (x : Rt) (hk : x.kind ≠ 8) (q : List UInt8) (has : Bool) (w : World) (hx : XB w g x) : Calls Tryd.prog 52 #[.pointer (some ⟨g, 0, none⟩), .string (bOf q), .bool has] w (RdP w g x q has) := by
  have HX : Hid (XB w g x) := hx
  have HK : Hid (KB g w w) := ⟨w, Below.refl _ _, Or.inl rfl⟩
  clear hx
  cases has with
  | false =>
    have HR : Hid (readR x q false = (x, 200)) := by rw [Hid]; simp [readR, hk]
    go_enter Tryd.func52, Tryd.ntmps52
    go_wp2_with fail
    go_ret
    exact ⟨true, x, rfl, HR.out, HX.out, HK.out⟩
  | true =>
    have HR : Hid (readR x q true = (rt0, 400)) := by rw [Hid]; simp [readR, hk]
    go_enter Tryd.func52, Tryd.ntmps52
    go_wp2_with fail
    go_ret
    exact ⟨false, x, rfl, HR.out, HX.out, HK.out⟩
theorem from_eq {k : List UInt8} (h : k = wFrom) : ((bOf k).toList == [102, 114, 111, 109]) = true := by rw [ByteArray.toList_eq, h]; decide
theorem from_ne {k : List UInt8} (h : k ≠ wFrom) : ((bOf k).toList == [102, 114, 111, 109]) = false := by
  rw [ByteArray.toList_eq, beq_eq_false_iff_ne]
  exact h
theorem read_no {x : Rt} {q : List UInt8} (hk : x.kind = 8) (h : ∀ k v, qryR q ≠ some [(k, v)]) : readR x q true = (rt0, 400) := by
  unfold readR
  rw [if_pos rfl, if_pos hk]
  cases hq : qryR q with
  | none => rfl
  | some l =>
    match l with
    | [] => rfl
    | [(k, v)] => exact absurd hq (h k v)
    | _ :: _ :: _ => rfl
theorem read_one {x : Rt} {q k v : List UInt8} (hk : x.kind = 8) (h : qryR q = some [(k, v)]) : readR x q true = if k = wFrom ∧ (digR (bOf v) 999999999).2 = 0 then ({ x with frm := (digR (bOf v) 999999999).1 }, 200) else (rt0, 400) := by
  unfold readR
  rw [if_pos rfl, if_pos hk, h]
  rfl
theorem pairL_size {p : List UInt8} {x : List UInt8 × List UInt8} (h : pairL p = some x) : x.1.length ≤ p.length ∧ x.2.length ≤ p.length := by
  rw [pair_form] at h
  have h1 := ahd_len 61 p
  have h2 := bhd_len 61 p
  cases hb : hsb 61 p with
  | false => rw [hb] at h; cases h
  | true =>
    rw [hb] at h
    cases hu : unesc (ahd 61 p) with
    | none => rw [hu] at h; cases h
    | some u =>
      cases hv : unesc (bhd 61 p) with
      | none => rw [hu, hv] at h; cases h
      | some v =>
        rw [hu, hv] at h
        cases h
        have h3 := unesc_len _ _ _ (Nat.le_refl _) hu
        have h4 := unesc_len _ _ _ (Nat.le_refl _) hv
        exact ⟨by show u.length ≤ _; omega, by show v.length ≤ _; omega⟩
theorem pairsL_size : ∀ {P : List (List UInt8)} {l : List (List UInt8 × List UInt8)} {n : Nat}, (∀ p ∈ P, p.length ≤ n) → pairsL P = some l → ∀ x ∈ l, x.1.length ≤ n ∧ x.2.length ≤ n
  | [], l, n, _, h => by
    rw [pairsL] at h
    cases h
    intro x hx
    cases hx
  | a :: P, l, n, hn, h => by
    rw [pairsL] at h
    cases ha : pairL a with
    | none => rw [ha] at h; cases h
    | some y =>
      rw [ha] at h
      cases hb : pairsL P with
      | none => rw [hb] at h; cases h
      | some m =>
        rw [hb] at h
        cases h
        intro x hx
        rcases List.mem_cons.1 hx with rfl | hx
        · have h1 := pairL_size ha
          have h2 := hn a (List.mem_cons_self ..)
          omega
        · exact pairsL_size (fun p hp => hn p (List.mem_cons_of_mem _ hp)) hb x hx
theorem qry_size {q : List UInt8} {l : List (List UInt8 × List UInt8)} (h : qryR q = some l) : ∀ x ∈ l, x.1.length ≤ q.length ∧ x.2.length ≤ q.length := by
  unfold qryR at h
  by_cases hq : q = []
  · rw [if_pos hq] at h
    cases h
    intro x hx
    cases hx
  · rw [if_neg hq] at h
    exact pairsL_size (fun p hp => cutL_mem 38 q p hp) h
set_option maxRecDepth 20000 in
set_option maxHeartbeats 16000000 in
theorem readFrom_any (g : Nat) (x : Rt) (hk : x.kind = 8) (q : List UInt8) (hq : q.length ≤ 1000000000) (has : Bool) (m : Int) (w : World) (hm : w.cell? ⟨0, 0, none⟩ = some (.int .i64 m)) (hx : XB w g x) : Calls Tryd.prog 54 #[.pointer (some ⟨g, 0, none⟩), .string (bOf q), .bool has] w (RdP w g x q has) := by
  have HX : Hid (XB w g x) := hx
  have f3 := free_of_block hx 3
  obtain ⟨_, _, _, c3, _⟩ := hx.cells
  cases has with
  | false =>
    have HR : Hid (readR x q false = ({ x with frm := 1 }, 200)) := by rw [Hid]; simp [readR, hk]
    have HK : Hid (∀ v, KB g w (w.setCell ⟨g, 3, none⟩ v)) := fun v => ⟨w, Below.refl _ _, Or.inr ⟨v, rfl⟩⟩
    clear hx hk
    go_enter Tryd.func54, Tryd.ntmps54
    go_wp2_with fail
    go_ret
    exact ⟨true, { x with frm := 1 }, rfl, HR.out, XB.frm HX.out 1, HK.out _⟩
  | true =>
    have HNO : Hid ((∀ k v, qryR q ≠ some [(k, v)]) → readR x q true = (rt0, 400)) := read_no hk
    have HON : Hid (∀ k v, qryR q = some [(k, v)] → _) := fun k v => read_one hk
    have H1 : Hid (∀ _ : Unit, _) := fun _ => query_any (bOf q) (by rw [bOf_size]; exact hq) m w hm
    rw [show (bOf q).data.toList = q from rfl] at H1
    obtain ⟨R, hR⟩ : ∃ R, qryR q = R := ⟨_, rfl⟩
    have HQS : Hid (∀ l, R = some l → ∀ x ∈ l, x.1.length ≤ q.length ∧ x.2.length ≤ q.length) := by rw [Hid, ← hR]; exact fun l h => qry_size h
    rw [hR] at HNO HON H1
    unfold QryP at H1
    clear hx hk hR f3 c3 hm
    go_enter Tryd.func54, Tryd.ntmps54
    go_wp2_with fail
    refine (H1.out ()).mono ?_
    rintro e w1 ⟨b1, (⟨rfl, rfl⟩ | ⟨l, a, cp, rfl, rfl, how⟩)⟩
    · have HX1 : Hid (XB w1 g x) := XB.below HX.out b1
      have HK : Hid (KB g w w1) := ⟨w1, b1, Or.inl rfl⟩
      have HR : Hid _ := HNO.out (fun _ _ h => by cases h)
      clear b1
      go_wp2_with fail
      go_ret
      exact ⟨false, x, rfl, HR.out, HX1.out, HK.out⟩
    · have HX1 : Hid (XB w1 g x) := XB.below HX.out b1
      have HK : Hid (KB g w w1) := ⟨w1, b1, Or.inl rfl⟩
      have HKS : Hid (∀ v, KB g w (w1.setCell ⟨g, 3, none⟩ v)) := fun v => ⟨w1, b1, Or.inr ⟨v, rfl⟩⟩
      clear b1
      match l, how with
      | [], how =>
        have HR : Hid _ := HNO.out (fun _ _ h => by cases h)
        simp only [List.length_nil]
        clear how
        go_wp2_with fail
        go_ret
        exact ⟨false, x, rfl, HR.out, HX1.out, HK.out⟩
      | y :: z :: l, how =>
        have HR : Hid _ := HNO.out (fun _ _ h => by cases h)
        obtain ⟨n, hn⟩ : ∃ n, (y :: z :: l).length = n := ⟨_, rfl⟩
        have hn2 : ((n : Int) != 1) = true := by rw [← hn]; simp; omega
        rw [hn]
        clear how hn
        go_wp2_with fail
        go_ret
        exact ⟨false, x, rfl, HR.out, HX1.out, HK.out⟩
      | [(k, v)], how =>
        have HFA : FA w1.heap.size w1 a ([(k, v)].map fdOf) := fa_row (l := [(k, v)].map fdOf) how
        obtain ⟨bf, off, rfl, _, d0, d1⟩ := HFA 0 ⟨bOf k, bOf v⟩ rfl
        have hvs : (bOf v).size ≤ 140737488355328 := by
          have h1 : v.length ≤ q.length := (HQS.out _ rfl (k, v) (List.mem_cons_self ..)).2
          rw [bOf_size]
          omega
        have H2 : Hid (∀ W : World, _) := fun W => digits_any (bOf v) 999999999 hvs W
        have HR : Hid _ := HON.out k v rfl
        have f3 := free_of_block HX1.out 3
        obtain ⟨_, _, _, c3, _⟩ := XB.cells HX1.out
        simp only [Nat.zero_mul, Nat.add_zero, List.length_cons, List.length_nil] at d0 d1 ⊢
        clear how HFA hvs
        by_cases hkf : k = wFrom
        · have hkz := from_eq hkf
          obtain ⟨dn, de⟩ : ∃ p, digR (bOf v) 999999999 = p := ⟨_, rfl⟩
          rw [de] at H2 HR
          obtain ⟨d1', d2'⟩ := dn
          simp only at H2 HR
          clear de
          by_cases hz : d2' = 0
          · subst hz
            have HR2 : Hid (readR x q true = ({ x with frm := d1' }, 200)) := by rw [Hid, HR.out, if_pos ⟨hkf, rfl⟩]
            clear HR hkf
            go_wp2_with fail
            refine (H2.out _).mono ?_
            rintro e w2 ⟨rfl, hw2⟩
            rw [hw2]
            clear hw2 w2
            go_wp2_with fail
            go_ret
            exact ⟨true, { x with frm := d1' }, rfl, HR2.out, XB.frm HX1.out d1', HKS.out _⟩
          · have hzz : (d2' == 0) = false := by simp [hz]
            have HR2 : Hid (readR x q true = (rt0, 400)) := by rw [Hid, HR.out, if_neg (fun h => hz h.2)]
            clear HR hkf hz
            go_wp2_with fail
            refine (H2.out _).mono ?_
            rintro e w2 ⟨rfl, hw2⟩
            rw [hw2]
            clear hw2 w2
            go_wp2_with fail
            go_ret
            exact ⟨false, { x with frm := d1' }, rfl, HR2.out, XB.frm HX1.out d1', HKS.out _⟩
        · have hkz := from_ne hkf
          have HR2 : Hid (readR x q true = (rt0, 400)) := by rw [Hid, HR.out, if_neg (fun h => hkf h.1)]
          clear HR hkf
          go_wp2_with fail
          go_ret
          exact ⟨false, x, rfl, HR2.out, HX1.out, HK.out⟩
end Go.Proofs.YtbpfggpljfpfcaaDoor
