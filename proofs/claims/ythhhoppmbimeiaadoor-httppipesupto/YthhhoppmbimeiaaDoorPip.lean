/-
  Requests one behind the other: rows of requests, and their bytes; the pure side.
-/
import Derived.Test.YthhhoppmbimeiaaDoorPtW
namespace Go.Proofs.YthhhoppmbimeiaaDoor
open Go.RowKit
def rqL (r : Rq) : List Value := [.string r.met, .string r.tar, .slice r.a r.fs.length r.c, .string r.body, .bool r.shut]
def flR (l : List Rq) : List Value := l.flatMap rqL
/-- Requests from a slice's address on. -/
def RA (W : World) (a : Option Addr) (l : List Rq) : Prop :=
  ∀ j r, l[j]? = some r → ∃ b off, a = some ⟨b, off, none⟩ ∧ b < W.heap.size ∧ W.cell? ⟨b, off + j * 5, none⟩ = some (.string r.met) ∧ W.cell? ⟨b, off + j * 5 + 1, none⟩ = some (.string r.tar) ∧ W.cell? ⟨b, off + j * 5 + 2, none⟩ = some (.slice r.a r.fs.length r.c) ∧ W.cell? ⟨b, off + j * 5 + 3, none⟩ = some (.string r.body) ∧ W.cell? ⟨b, off + j * 5 + 4, none⟩ = some (.bool r.shut)
theorem RA.below {W V : World} {a : Option Addr} {l : List Rq} (h : RA W a l) (k : Below W.heap.size W V) : RA V a l := by
  intro j r hj
  obtain ⟨b, off, ha, hb, h0, h1, h2, h3, h4⟩ := h j r hj
  have e : ∀ o, V.cell? ⟨b, o, none⟩ = W.cell? ⟨b, o, none⟩ := fun o => World.cell?_of_block (k.block b hb)
  exact ⟨b, off, ha, Nat.lt_of_lt_of_le hb k.size, (e _).trans h0, (e _).trans h1, (e _).trans h2, (e _).trans h3, (e _).trans h4⟩
theorem flR_cons (a : Rq) (b : List Rq) : flR (a :: b) = rqL a ++ flR b := by simp [flR]
theorem flR_app (a b : List Rq) : flR (a ++ b) = flR a ++ flR b := by simp [flR]
theorem rqL_one (c : Rq) : ∀ u ∈ rqL c, u.oneCell' = true := by
  intro u hu
  simp only [rqL, List.mem_cons, List.not_mem_nil, or_false] at hu
  rcases hu with rfl | rfl | rfl | rfl | rfl <;> rfl
theorem flR_get : ∀ {l : List Rq} {j : Nat} {c : Rq}, l[j]? = some c → ∀ i, i < 5 → (flR l)[j * 5 + i]? = (rqL c)[i]?
  | [], j, c, h, _, _ => by simp at h
  | d :: l, 0, c, h, i, hi => by
    simp only [List.getElem?_cons_zero, Option.some.injEq] at h
    subst h
    rw [flR_cons, Nat.zero_mul, Nat.zero_add, List.getElem?_append_left (by simp [rqL]; omega)]
  | d :: l, j + 1, c, h, i, hi => by
    rw [List.getElem?_cons_succ] at h
    rw [flR_cons, List.getElem?_append_right (by simp [rqL]; omega), ← flR_get h i hi]
    congr 1
    simp [rqL]
    omega
theorem ra_row {W : World} {B : Nat} {a : Option Addr} {c : Nat} {l : List Rq} (h : W.ownsRow B 24 5 (.slice a l.length c) l.length (flR l)) : RA W a l := by
  rcases h.2 with ⟨hv, h0⟩ | ⟨g, cap, cur, hv, hB, hh, hn, _⟩
  · have : l = [] := List.eq_nil_of_length_eq_zero h0
    subst this
    exact fun j r hj => by simp at hj
  · rw [Value.slice.injEq] at hv
    obtain ⟨rfl, _, rfl⟩ := hv
    refine fun j d hj => ⟨g, 0, rfl, (Array.getElem?_eq_some_iff.1 hh).1, ?_⟩
    have hjl : j < l.length := (List.getElem?_eq_some_iff.1 hj).1
    refine ⟨?_, ?_, ?_, ?_, ?_⟩
    · have := h.cellAt (j * 5 + 0) (by omega)
      rw [flR_get hj 0 (by omega)] at this
      simpa [rqL] using this
    · have := h.cellAt (j * 5 + 1) (by omega)
      rw [flR_get hj 1 (by omega)] at this
      simpa [rqL] using this
    · have := h.cellAt (j * 5 + 2) (by omega)
      rw [flR_get hj 2 (by omega)] at this
      simpa [rqL] using this
    · have := h.cellAt (j * 5 + 3) (by omega)
      rw [flR_get hj 3 (by omega)] at this
      simpa [rqL] using this
    · have := h.cellAt (j * 5 + 4) (by omega)
      rw [flR_get hj 4 (by omega)] at this
      simpa [rqL] using this
theorem infoRq : (Tryd.prog.info? 24).map (fun i => (i.zero, i.size, i.bytes)) = some (some zeroRq, 5, 80) := by kernel_rfl
def ckR (r : Rq) : Int := checkR r.met r.tar r.fs r.body r.shut
def prR (r : Rq) : ByteArray := printR r.met r.tar r.fs r.body r.shut
/-- Those that may be. -/
def okR (l : List Rq) : List Rq := l.filter (fun r => decide (ckR r = 0))
/-- Their bytes, one behind the other. -/
def allR (l : List Rq) : List UInt8 := (okR l).flatMap fun r => byts (prR r)
theorem okR_take {l : List Rq} {k : Nat} {x : Rq} (h : l[k]? = some x) : okR (l.take (k + 1)) = okR (l.take k) ++ if ckR x = 0 then [x] else [] := by
  unfold okR
  rw [List.take_add_one, h, Option.toList, List.filter_append]
  congr 1
  by_cases hq : ckR x = 0 <;> simp [List.filter, hq]
theorem allR_take {l : List Rq} {k : Nat} {x : Rq} (h : l[k]? = some x) : allR (l.take (k + 1)) = allR (l.take k) ++ if ckR x = 0 then byts (prR x) else [] := by
  unfold allR
  rw [okR_take h, List.flatMap_append]
  congr 1
  by_cases hq : ckR x = 0 <;> simp [hq]
/-- A request that is not too great. -/
def rqSm (r : Rq) : Prop := rqOk r ∧ r.met.size ≤ 100000000 ∧ r.tar.size ≤ 100000000 ∧ r.body.size ≤ 100000000 ∧ (hdB r.met r.tar r.fs).size ≤ 100000000 ∧ r.fs.length ≤ 100000000
/-- What Parse tells of a request's bytes with something behind. -/
theorem parse_pr {r : Rq} (h : ckR r = 0) (t : ByteArray) : parseR (prR r ++ t) = ⟨r.met, r.tar, r.fs, r.body, r.shut, (prR r).size, 0⟩ := by
  have h' : checkR r.met r.tar r.fs r.body r.shut = 0 := h
  have := parse_print h' t
  unfold prR printR
  rw [if_pos h', this, size_app]
theorem pr_pos {r : Rq} (h : ckR r = 0) : 1 ≤ (prR r).size := by
  have h' : checkR r.met r.tar r.fs r.body r.shut = 0 := h
  unfold prR printR
  rw [if_pos h', size_app, hdB_size]
  omega
theorem app_drop (a t : ByteArray) : (a ++ t).extract a.size (a ++ t).size = t := by
  apply ext_list
  rw [sub_list, size_app, Nat.add_sub_cancel_left]
  have e : (a ++ t).data.toList = a.data.toList ++ t.data.toList := by simp
  rw [e, ← size_list' a, List.drop_left, ← size_list' t, List.take_length]
theorem fil_mem {l : List Rq} {x : Rq} (h : x ∈ okR l) : x ∈ l ∧ ckR x = 0 := by
  unfold okR at h
  rw [List.mem_filter] at h
  exact ⟨h.1, of_decide_eq_true h.2⟩
end Go.Proofs.YthhhoppmbimeiaaDoor
