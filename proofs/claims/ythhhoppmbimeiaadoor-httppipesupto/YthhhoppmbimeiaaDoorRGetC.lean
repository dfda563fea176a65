/-
  The contract of the twin's Get.
-/
import Derived.Test.YthhhoppmbimeiaaDoorRAllC
namespace Go.Proofs.YthhhoppmbimeiaaDoor
open Go.RowKit
theorem owns_str {w : World} {B n c : Nat} {a : Option Addr} {l : List ByteArray} (h : w.ownsRow B 9 1 (.slice a n c) n (strV l)) {j : Nat} {x : ByteArray} (hj : l[j]? = some x) : ∃ g, a = some ⟨g, 0, none⟩ ∧ B ≤ g ∧ g < w.heap.size ∧ w.cell? ⟨g, j, none⟩ = some (.string x) := by
  have hl := h.1
  have hjl : j < l.length := (List.getElem?_eq_some_iff.1 hj).1
  simp only [strV, List.length_map] at hl
  rcases h.2 with ⟨_, h0⟩ | ⟨g, cap, cur, e, hB, hh, hn, _, _, ht⟩
  · omega
  · rw [Value.slice.injEq] at e
    refine ⟨g, e.1, hB, (Array.getElem?_eq_some_iff.1 hh).1, ?_⟩
    refine cell_of_block hh ?_
    have h1 : (strV l)[j]? = some (.string x) := by simp [strV, hj]
    rw [← ht, List.getElem?_take] at h1
    split at h1
    · simpa using h1
    · cases h1
def fstS : List ByteArray → ByteArray × Bool
  | [] => (⟨#[]⟩, false)
  | v :: _ => (v, true)
theorem getF_fst (name : ByteArray) (fs : List Fd) : getF name fs = fstS (allF name fs) := by
  unfold getF fstS
  rfl
set_option maxRecDepth 20000 in
set_option maxHeartbeats 4000000 in
theorem rget_any (r : Rq) (B : Nat) (name : ByteArray) (w : World) (h : FA B w r.a r.fs) (hB : B ≤ w.heap.size) (hr : rqOk r) (hs : name.size ≤ 140737488355328) :
    Calls Tryd.prog 13 #[rqV r, .string name] w fun e w' => e = .returned (.tuple #[.string (getF name r.fs).1, .bool (getF name r.fs).2]) ∧ Below w.heap.size w w' := by
  have H : Hid (∀ W : World, FA B W r.a r.fs → B ≤ W.heap.size → _) := fun W h1 h2 => rall_any r B name W h1 h2 hr hs
  have HF : Hid _ := h
  obtain ⟨L, hL⟩ : ∃ L, allF name r.fs = L := ⟨_, rfl⟩
  have HG : Hid (getF name r.fs = fstS L) := by rw [Hid, ← hL]; exact getF_fst _ _
  rw [hL] at H
  clear hL h hr
  obtain ⟨met, tar, a, c, fs, body, shut⟩ := r
  simp only [rqV] at *
  obtain ⟨n, hn⟩ : ∃ n, fs.length = n := ⟨_, rfl⟩
  rw [hn] at H ⊢
  clear hn
  obtain ⟨W0, hW0⟩ : ∃ W0, w.alloc (.cells #[.string met, .string tar, .slice a n c, .string body, .bool shut] 24) = W0 := ⟨_, rfl⟩
  have HZ : Hid (W0.heap.size = w.heap.size + 1) := by rw [Hid, ← hW0]; simp
  have HB0 : Hid (Below w.heap.size w W0) := by rw [Hid, ← hW0]; exact (Below.refl _ _).alloc (Nat.le_refl _) _
  have HF0 : Hid (FA B W0 a fs) := FA.below HF.out (fun b hb => HB0.out.block b (by omega))
  have hx := block_alloc_at w (.cells #[.string met, .string tar, .slice a n c, .string body, .bool shut] 24)
  rw [hW0] at hx
  have c0 : W0.cell? ⟨w.heap.size, 0, none⟩ = some (.string met) := cell_of_block hx rfl
  have c1 : W0.cell? ⟨w.heap.size, 1, none⟩ = some (.string tar) := cell_of_block hx rfl
  have c2 : W0.cell? ⟨w.heap.size, 2, none⟩ = some (.slice a n c) := cell_of_block hx rfl
  have c3 : W0.cell? ⟨w.heap.size, 3, none⟩ = some (.string body) := cell_of_block hx rfl
  have c4 : W0.cell? ⟨w.heap.size, 4, none⟩ = some (.bool shut) := cell_of_block hx rfl
  clear hx
  go_enter Tryd.func13, Tryd.ntmps13
  go_wp2_with fail
  try rw [hW0]
  clear hW0
  refine (H.out _ HF0.out (by have := HZ.out; omega)).mono ?_
  rintro e w1 ⟨a2, cc, rfl, ho, b1⟩
  have HB1 : Hid (Below w.heap.size w w1) := HB0.out.trans (b1.mono (by have := HZ.out; omega))
  clear b1 c0 c1 c2 c3 c4
  cases L with
  | nil =>
    clear ho
    go_wp2_with fail
    go_ret2
    exact ⟨by rw [HG.out]; rfl, HB1.out⟩
  | cons v L =>
    obtain ⟨g, rfl, _, _, hc⟩ := owns_str ho (j := 0) (x := v) rfl
    simp only [List.length_cons]
    obtain ⟨m, hm⟩ : ∃ m, L.length = m := ⟨_, rfl⟩
    rw [hm]
    have q0 : ((((m + 1 : Nat) : Int)) == 0) = false := by simp; omega
    have q1 : (((m : Int) + 1) == 0) = false := by simp; omega
    clear ho hm
    go_wp2_with fail
    go_ret2
    exact ⟨by rw [HG.out]; rfl, HB1.out⟩
end Go.Proofs.YthhhoppmbimeiaaDoor
