/-
  Replies, one behind the other: the pure side; rows of replies.
-/
import Derived.Test.YtdkbgbhcnbmlfaaDoorSnd
import Derived.Test.YtdkbgbhcnbmlfaaDoorApW
namespace Go.Proofs.YtdkbgbhcnbmlfaaDoor
open Go.RowKit
/-- The replies of some bytes, how far they go, and what stops them. -/
def allF : Nat → List UInt8 → List Rp × Nat × Int
  | 0, _ => ([], 0, 0)
  | f + 1, l => if l = [] then ([], 0, 0) else if (parR l).2.2 = 0 then ((parR l).1 :: (allF f (l.drop (parR l).2.1)).1, (parR l).2.1 + (allF f (l.drop (parR l).2.1)).2.1, (allF f (l.drop (parR l).2.1)).2.2) else ([], 0, (parR l).2.2)
theorem wrL_pos (r : Rp) : 1 ≤ (wrL r).length := by
  unfold wrL
  have e : crlf.data.toList.length = 2 := rfl
  simp only [List.length_append]
  omega
theorem par_step (l : List UInt8) (h : (parR l).2.2 = 0) : 1 ≤ (parR l).2.1 ∧ (parR l).2.1 ≤ l.length := by
  rcases par_inv l with ⟨r, q, h1, h2, h3⟩ | ⟨r, h1, h2, h3⟩ | h3
  · rw [h3]
    have := wrL_pos r
    refine ⟨this, ?_⟩
    rw [h2, List.length_append]
    show (wrL r).length ≤ _
    omega
  · rw [h3] at h; exact absurd h (by decide)
  · rw [h3] at h; exact absurd h (by decide)
theorem allF_nil (f : Nat) : allF f [] = ([], 0, 0) := by cases f <;> simp [allF]
theorem allF_len : ∀ (f : Nat) (l : List UInt8), (allF f l).1.length ≤ l.length ∧ (allF f l).2.1 ≤ l.length
  | 0, l => by simp [allF]
  | f + 1, l => by
    rw [allF]
    by_cases h : l = []
    · rw [if_pos h]; simp
    · rw [if_neg h]
      by_cases g : (parR l).2.2 = 0
      · rw [if_pos g]
        have h1 := par_step l g
        have h2 := allF_len f (l.drop (parR l).2.1)
        rw [List.length_drop] at h2
        refine ⟨?_, ?_⟩
        · show (_ :: _).length ≤ _
          rw [List.length_cons]
          omega
        · show _ + _ ≤ _
          omega
      · rw [if_neg g]; simp
/-- Written replies, one behind the other, are what is told first. -/
def wrs (l : List Rp) : List UInt8 := l.flatMap wrL
theorem allF_wrs : ∀ (l : List Rp), (∀ r ∈ l, okR r = true) → ∀ (q : List UInt8) (f : Nat), (wrs l ++ q).length ≤ f → ∃ X, (allF f (wrs l ++ q)).1 = l ++ X
  | [], _, q, f, _ => ⟨_, rfl⟩
  | r :: l, h, q, f, hf => by
    have e : wrs (r :: l) ++ q = wrL r ++ (wrs l ++ q) := by simp [wrs]
    have hp := wrL_pos r
    rw [e] at hf ⊢
    cases f with
    | zero => rw [List.length_append] at hf; omega
    | succ f =>
      have hw := par_wr (h r (List.mem_cons_self ..)) (wrs l ++ q)
      rw [allF, if_neg (fun c => by have := congrArg List.length c; rw [List.length_append, List.length_nil] at this; omega), hw, if_pos rfl]
      show ∃ X, r :: (allF f ((wrL r ++ (wrs l ++ q)).drop (wrL r).length)).1 = _
      rw [List.drop_left]
      obtain ⟨X, hX⟩ := allF_wrs l (fun z hz => h z (List.mem_cons_of_mem _ hz)) q f (by rw [List.length_append] at hf; omega)
      exact ⟨X, by rw [hX]; rfl⟩
/-! ### Rows of replies -/
def rpL (r : Rp) : List Value := [.int .i64 r.status, .string (mkB r.body), .string (mkB r.cookie), .bool r.close]
def flR (l : List Rp) : List Value := l.flatMap rpL
theorem flR_app (a b : List Rp) : flR (a ++ b) = flR a ++ flR b := by simp [flR]
theorem flR_cons (a : Rp) (b : List Rp) : flR (a :: b) = rpL a ++ flR b := by simp [flR]
theorem rpL_one (c : Rp) : ∀ u ∈ rpL c, u.oneCell' = true := by
  intro u hu
  simp only [rpL, List.mem_cons, List.not_mem_nil, or_false] at hu
  rcases hu with rfl | rfl | rfl | rfl <;> rfl
theorem flR_get : ∀ {l : List Rp} {j : Nat} {c : Rp}, l[j]? = some c → ∀ i, i < 4 → (flR l)[j * 4 + i]? = (rpL c)[i]?
  | [], j, c, h, _, _ => by simp at h
  | d :: l, 0, c, h, i, hi => by
    simp only [List.getElem?_cons_zero, Option.some.injEq] at h
    subst h
    rw [flR_cons, Nat.zero_mul, Nat.zero_add, List.getElem?_append_left (by simp [rpL]; omega)]
  | d :: l, j + 1, c, h, i, hi => by
    rw [List.getElem?_cons_succ] at h
    rw [flR_cons, List.getElem?_append_right (by simp [rpL]; omega), ← flR_get h i hi]
    congr 1
    simp [rpL]
    omega
/-- Where replies stand in memory. -/
def RA (B : Nat) (W : World) (a : Option Addr) (l : List Rp) : Prop := ∀ (j : Nat) (q : Rp), l[j]? = some q → ∃ b off, a = some ⟨b, off, none⟩ ∧ b < B ∧ W.cell? ⟨b, off + j * 4, none⟩ = some (.int .i64 q.status) ∧ W.cell? ⟨b, off + j * 4 + 1, none⟩ = some (.string (mkB q.body)) ∧ W.cell? ⟨b, off + j * 4 + 2, none⟩ = some (.string (mkB q.cookie)) ∧ W.cell? ⟨b, off + j * 4 + 3, none⟩ = some (.bool q.close)
theorem RA.nil (B : Nat) (W : World) (a : Option Addr) : RA B W a [] := fun j q h => by simp at h
theorem RA.below {B : Nat} {W W' : World} {a : Option Addr} {l : List Rp} (h : RA B W a l) (b : Below W.heap.size W W') (hB : B ≤ W.heap.size) : RA B W' a l := fun j q hj => by
  obtain ⟨g, off, e, hg, c0, c1, c2, c3⟩ := h j q hj
  have hb := b.block g (by omega)
  exact ⟨g, off, e, hg, (World.cell?_of_block hb).trans c0, (World.cell?_of_block hb).trans c1, (World.cell?_of_block hb).trans c2, (World.cell?_of_block hb).trans c3⟩
theorem ra_row {W : World} {B : Nat} {a : Option Addr} {c : Nat} {l : List Rp} (h : W.ownsRow B 23 4 (.slice a l.length c) l.length (flR l)) : RA W.heap.size W a l := by
  rcases h.2 with ⟨hv, h0⟩ | ⟨g, cap, cur, hv, hB, hh, hn, _⟩
  · have : l = [] := List.eq_nil_of_length_eq_zero h0
    subst this
    exact RA.nil _ _ _
  · rw [Value.slice.injEq] at hv
    obtain ⟨rfl, _, rfl⟩ := hv
    refine fun j d hj => ⟨g, 0, rfl, (Array.getElem?_eq_some_iff.1 hh).1, ?_⟩
    have hjl : j < l.length := (List.getElem?_eq_some_iff.1 hj).1
    refine ⟨?_, ?_, ?_, ?_⟩
    · have := h.cellAt (j * 4 + 0) (by omega)
      rw [flR_get hj 0 (by omega)] at this
      simpa [rpL] using this
    · have := h.cellAt (j * 4 + 1) (by omega)
      rw [flR_get hj 1 (by omega)] at this
      simpa [rpL] using this
    · have := h.cellAt (j * 4 + 2) (by omega)
      rw [flR_get hj 2 (by omega)] at this
      simpa [rpL] using this
    · have := h.cellAt (j * 4 + 3) (by omega)
      rw [flR_get hj 3 (by omega)] at this
      simpa [rpL] using this
theorem info_rp : (Tryd.prog.info? 23).map (fun i => (i.zero, i.size, i.bytes)) = some (some (.agg #[.int .i64 0, .string ByteArray.empty, .string ByteArray.empty, .bool false]), 4, 48) := by kernel_rfl
end Go.Proofs.YtdkbgbhcnbmlfaaDoor
