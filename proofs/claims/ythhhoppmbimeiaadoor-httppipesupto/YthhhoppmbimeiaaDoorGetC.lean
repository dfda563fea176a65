/-
  Requests; the values of a name's fields; the contract of Get.
-/
import Derived.Test.YthhhoppmbimeiaaDoorFlds
import Derived.Test.YthhhoppmbimeiaaDoorLowerC
namespace Go.Proofs.YthhhoppmbimeiaaDoor
open Go.RowKit
/-- A request: its texts, where its fields lie, its fields. -/
structure Rq where
  met : ByteArray
  tar : ByteArray
  a : Option Addr
  c : Nat
  fs : List Fd
  body : ByteArray
  shut : Bool
def rqV (r : Rq) : Value := .agg #[.string r.met, .string r.tar, .slice r.a r.fs.length r.c, .string r.body, .bool r.shut]
def lowT (s : ByteArray) : ByteArray := ⟨(s.data.toList.map lowC).toArray⟩
def hitF (name : ByteArray) (c : Fd) : Bool := (lowT c.name).toList == (lowT name).toList
def allF (name : ByteArray) (fs : List Fd) : List ByteArray := (fs.filter (hitF name)).map Fd.val
def getF (name : ByteArray) (fs : List Fd) : ByteArray × Bool := match allF name fs with
  | [] => (⟨#[]⟩, false)
  | v :: _ => (v, true)
theorem allF_take {name : ByteArray} {fs : List Fd} {k : Nat} {x : Fd} (h : fs[k]? = some x) : allF name (fs.take (k + 1)) = allF name (fs.take k) ++ (if hitF name x = true then [x.val] else []) := by
  unfold allF
  rw [List.take_add_one, h, Option.toList, List.filter_append, List.map_append]
  congr 1
  cases hq : hitF name x <;> simp [List.filter, hq]
theorem allF_from {name : ByteArray} {fs : List Fd} (k : Nat) : allF name fs = allF name (fs.take k) ++ allF name (fs.drop k) := by
  unfold allF
  rw [← List.map_append, ← List.filter_append, List.take_append_drop]
theorem getF_hit {name : ByteArray} {fs : List Fd} {k : Nat} {x : Fd} (h : fs[k]? = some x) (h0 : allF name (fs.take k) = []) (hx : hitF name x = true) : getF name fs = (x.val, true) := by
  unfold getF
  rw [allF_from (k + 1), allF_take h, h0, if_pos hx]
  rfl
theorem getF_none {name : ByteArray} {fs : List Fd} (h : allF name fs = []) : getF name fs = (⟨#[]⟩, false) := by
  unfold getF
  rw [h]
def rqOk (r : Rq) : Prop := r.fs.length ≤ 4398046511104 ∧ ∀ c ∈ r.fs, fdOk c
set_option maxRecDepth 20000 in
set_option maxHeartbeats 4000000 in
theorem get_any (r : Rq) (B : Nat) (name : ByteArray) (w : World) (h : FA B w r.a r.fs) (hB : B ≤ w.heap.size) (hr : rqOk r) (hs : name.size ≤ 140737488355328) :
    Calls Tryd.prog 12 #[rqV r, .string name] w fun e w' => e = .returned (.tuple #[.string (getF name r.fs).1, .bool (getF name r.fs).2]) ∧ Below w.heap.size w w' := by
  obtain ⟨met, tar, a, c, fs, body, shut⟩ := r
  simp only [rqV] at *
  obtain ⟨n, hn⟩ : ∃ n, fs.length = n := ⟨_, rfl⟩
  have hn0 : n ≤ 4398046511104 := by have := hr.1; simp only at this; omega
  have HO : Hid (∀ c ∈ fs, fdOk c) := hr.2
  have HL : Hid _ := hn
  have HC : Hid _ := h
  rw [hn]
  clear hn h hr
  have H1 : Hid (∀ W : World, _) := fun W => lower_any name hs W
  rw [show (⟨(name.data.toList.map lowC).toArray⟩ : ByteArray) = lowT name from rfl] at H1
  obtain ⟨nm, hnm⟩ : ∃ nm, lowT name = nm := ⟨_, rfl⟩
  rw [hnm] at H1
  have HNM : Hid _ := hnm
  clear hnm
  go_enter Tryd.func12, Tryd.ntmps12
  go_wp2_with fail
  refine (H1.out _).mono ?_
  rintro e w1 ⟨rfl, b1⟩
  have hbx : w1.cell? ⟨w.heap.size, 2, none⟩ = some (.slice a n c) := cell_of_block ((b1.block _ (by simp)).trans (block_alloc_at _ _)) rfl
  have HB1 : Hid (Below w.heap.size w w1) := ((Below.refl _ _).alloc (Nat.le_refl _) _).trans (b1.mono (by simp))
  clear b1 H1
  go_wp2_with fail
  go_loopw [13] (fun i wr => ∃ k : Nat, k ≤ n ∧ i = .int .i64 (k : Nat) ∧ Hid (allF name (fs.take k) = []) ∧ Hid (Below w.heap.size w wr)) (fun i _ => n - (intOf i).toNat)
  case atStart => exact ⟨0, by omega, rfl, by rw [Hid, List.take_zero]; rfl, HB1.out⟩
  case round =>
    obtain ⟨k, hkn, rfl, HE, HB⟩ := hrel
    by_cases hlt : k < n
    · obtain ⟨x, hx⟩ : ∃ x, fs[k]? = some x := ⟨fs[k]'(by rw [HL.out]; exact hlt), List.getElem?_eq_getElem _⟩
      have HC2 : FA B wr a fs := FA.below HC.out (fun b hb => HB.out.block b (by omega))
      obtain ⟨b, off, rfl, _, x0, x1⟩ := HC2 k x hx
      have hxo := HO.out x (List.mem_of_getElem? hx)
      have HT : Hid (allF name (fs.take (k + 1)) = (if hitF name x = true then [x.val] else [])) := by rw [Hid, allF_take hx, HE.out, List.nil_append]
      have HG : Hid (hitF name x = true → getF name fs = (x.val, true)) := fun h => getF_hit hx HE.out h
      have hh : hitF name x = ((lowT x.name).toList == nm.toList) := by rw [← HNM.out]; rfl
      have H2 : Hid (∀ W : World, _) := fun W => lower_any x.name hxo.1 W
      rw [show (⟨(x.name.data.toList.map lowC).toArray⟩ : ByteArray) = lowT x.name from rfl] at H2
      obtain ⟨ln, hln⟩ : ∃ ln, lowT x.name = ln := ⟨_, rfl⟩
      rw [hln] at H2 hh
      obtain ⟨xn, xv⟩ := x
      simp only at x0 x1 H2
      clear hx HC2 hxo hln
      cases hq : (ln.toList == nm.toList) with
      | true =>
        rw [hq] at hh
        have HR : Hid (getF name fs = (xv, true)) := HG.out hh
        clear hh HT HG
        go_wp2_with (go_at_call 27; refine (H2.out _).mono ?_; rintro e w2 ⟨rfl, b2⟩; have hv : w2.cell? ⟨wr.heap.size, 1, none⟩ = some (.string xv) := cell_of_block ((b2.block _ (by simp)).trans (block_alloc_at _ _)) rfl)
        go_ret2
        exact ⟨by rw [HR.out]; rfl, (HB.out.alloc HB.out.size _).trans (b2.mono (by have := HB.out.size; simp; omega))⟩
      | false =>
        rw [hq] at hh
        have HR : Hid (allF name (fs.take (k + 1)) = []) := by rw [Hid, HT.out, if_neg (by rw [hh]; decide)]
        clear hh HT HG
        go_wp2_with (go_at_call 27; refine (H2.out _).mono ?_; rintro e w2 ⟨rfl, b2⟩)
        go_roundw
        case rel => exact ⟨k + 1, by omega, by go_num, HR.out, (HB.out.alloc HB.out.size _).trans (b2.mono (by have := HB.out.size; simp; omega))⟩
        case measure => simp [intOf]; omega
    · have HT : Hid (getF name fs = (⟨#[]⟩, false)) := by
        have := HE.out
        rw [List.take_of_length_le (by rw [HL.out]; omega)] at this
        exact getF_none this
      go_wp2_with fail
      go_ret2
      exact ⟨by rw [HT.out]; rfl, HB.out⟩
end Go.Proofs.YthhhoppmbimeiaaDoor
