/-
  Does a field say that the connection ends: the contracts of closes, of both.
-/
import Derived.Test.YthhhoppmbimeiaaDoorRGetC
namespace Go.Proofs.YthhhoppmbimeiaaDoor
open Go.RowKit
def nmConn : ByteArray := ⟨#[99, 111, 110, 110, 101, 99, 116, 105, 111, 110]⟩
def vlClose : ByteArray := ⟨#[99, 108, 111, 115, 101]⟩
theorem vlClose_list : vlClose.toList = [99, 108, 111, 115, 101] := by rw [ByteArray.toList_eq]; rfl
def isClose (v : ByteArray) : Bool := (lowT v).toList == vlClose.toList
def clsR (fs : List Fd) : Bool := (allF nmConn fs).any isClose
theorem allF_mem {name : ByteArray} {fs : List Fd} {v : ByteArray} (h : v ∈ allF name fs) : ∃ c ∈ fs, c.val = v := by
  unfold allF at h
  obtain ⟨c, hc, e⟩ := List.mem_map.1 h
  exact ⟨c, (List.mem_filter.1 hc).1, e⟩
theorem any_at {l : List ByteArray} {k : Nat} {x : ByteArray} (h : l[k]? = some x) (hx : isClose x = true) : l.any isClose = true := List.any_eq_true.2 ⟨x, List.mem_of_getElem? h, hx⟩
theorem any_take {l : List ByteArray} {k : Nat} {x : ByteArray} (h : l[k]? = some x) (h0 : (l.take k).any isClose = false) (hx : isClose x = false) : (l.take (k + 1)).any isClose = false := by
  rw [List.take_add_one, h, Option.toList, List.any_append, h0, Bool.false_or, List.any_cons, hx]
  rfl
set_option maxRecDepth 20000 in
set_option maxHeartbeats 4000000 in
theorem closes_any (r : Rq) (B : Nat) (w : World) (h : FA B w r.a r.fs) (hB : B ≤ w.heap.size) (hr : rqOk r) :
    Calls Tryd.prog 24 #[rqV r] w fun e w' => e = .returned (.bool (clsR r.fs)) ∧ Below w.heap.size w w' := by
  have H : Hid (∀ W : World, FA B W r.a r.fs → B ≤ W.heap.size → _) := fun W h1 h2 => all_any r B nmConn W h1 h2 hr (by decide)
  have HF : Hid _ := h
  have HO : Hid (∀ v ∈ allF nmConn r.fs, v.size ≤ 140737488355328) := fun v hv => by
    obtain ⟨c, hc, rfl⟩ := allF_mem hv
    exact (hr.2 c hc).2
  have HN : Hid ((allF nmConn r.fs).length ≤ 4398046511104) := Nat.le_trans (allF_len _ _) hr.1
  obtain ⟨T, hT⟩ : ∃ T, clsR r.fs = T := ⟨_, rfl⟩
  have HT : Hid ((allF nmConn r.fs).any isClose = T) := hT
  rw [hT]
  clear hT
  obtain ⟨L, hL⟩ : ∃ L, allF nmConn r.fs = L := ⟨_, rfl⟩
  rw [hL] at H HO HT HN
  obtain ⟨m, hm⟩ : ∃ m, L.length = m := ⟨_, rfl⟩
  rw [hm] at H HN
  have HM : Hid _ := hm
  have hm0 : m ≤ 4398046511104 := HN.out
  clear hL h hr hm HN
  obtain ⟨met, tar, a, c, fs, body, shut⟩ := r
  simp only [rqV] at *
  obtain ⟨n, hn⟩ : ∃ n, fs.length = n := ⟨_, rfl⟩
  rw [hn] at H ⊢
  clear hn
  rw [show nmConn = (⟨#[99, 111, 110, 110, 101, 99, 116, 105, 111, 110]⟩ : ByteArray) from rfl] at H
  obtain ⟨W0, hW0⟩ : ∃ W0, w.alloc (.cells #[.string met, .string tar, .slice a n c, .string body, .bool shut] 24) = W0 := ⟨_, rfl⟩
  have HZ : Hid (W0.heap.size = w.heap.size + 1) := by rw [Hid, ← hW0]; simp
  have HB0 : Hid (Below w.heap.size w W0) := by rw [Hid, ← hW0]; exact (Below.refl _ _).alloc (Nat.le_refl _) _
  have HF0 : Hid (FA B W0 a fs) := FA.below HF.out (fun b hb => HB0.out.block b (by omega))
  have hx := block_alloc_at w (.cells #[.string met, .string tar, .slice a n c, .string body, .bool shut] 24)
  rw [hW0] at hx
  have c0 : W0.cell? ⟨w.heap.size, 0, none⟩ = some (.string met) := cell_of_block hx rfl
  have c1 : W0.cell? ⟨w.heap.size, 1, none⟩ = some (.string tar) := cell_of_block hx rfl
  have c2 : W0.cell? ⟨w.heap.size, 2, none⟩ = some (.slice a n c) := cell_of_block hx rfl
  have c3 : W0.cell? ⟨w.heap.size, 3, none⟩ = some (.string body) := cell_of_block hx rfl
  have c4 : W0.cell? ⟨w.heap.size, 4, none⟩ = some (.bool shut) := cell_of_block hx rfl
  clear hx
  go_enter Tryd.func24, Tryd.ntmps24
  go_wp2_with fail
  try rw [hW0]
  clear hW0
  refine (H.out _ HF0.out (by have := HZ.out; omega)).mono ?_
  rintro e w1 ⟨a2, cc, rfl, ho, b1⟩
  have HB1 : Hid (Below w.heap.size w w1) := HB0.out.trans (b1.mono (by have := HZ.out; omega))
  have HW : Hid _ := ho
  clear b1 c0 c1 c2 c3 c4 ho H
  go_wp2_with fail
  go_loopw [8] (fun i wr => ∃ k : Nat, k ≤ m ∧ i = .int .i64 (k : Nat) ∧ Hid ((L.take k).any isClose = false) ∧ Hid (Below w1.heap.size w1 wr)) (fun i _ => m - (intOf i).toNat)
  case atStart => exact ⟨0, by omega, rfl, by rw [Hid, List.take_zero]; rfl, Below.refl _ _⟩
  case round =>
    obtain ⟨k, hkm, rfl, HE, HB⟩ := hrel
    by_cases hlt : k < m
    · obtain ⟨x, hx⟩ : ∃ x, L[k]? = some x := ⟨L[k]'(by rw [HM.out]; exact hlt), List.getElem?_eq_getElem _⟩
      obtain ⟨g, rfl, _, hg, hc⟩ := owns_str HW.out hx
      have hc2 : wr.cell? ⟨g, k, none⟩ = some (.string x) := (World.cell?_of_block (HB.out.block g hg)).trans hc
      have H2 : Hid (∀ W : World, _) := fun W => lower_any x (HO.out x (List.mem_of_getElem? hx)) W
      rw [show (⟨(x.data.toList.map lowC).toArray⟩ : ByteArray) = lowT x from rfl] at H2
      have hq0 : isClose x = ((lowT x).toList == vlClose.toList) := rfl
      obtain ⟨ln, hln⟩ : ∃ ln, lowT x = ln := ⟨_, rfl⟩
      rw [hln] at H2 hq0
      have HX : Hid _ := hx
      clear hln hx hc hg
      cases hq : (ln.toList == vlClose.toList) with
      | true =>
        have HR : Hid (T = true) := by rw [Hid, ← HT.out]; exact any_at HX.out (hq0.trans hq)
        rw [vlClose_list] at hq
        clear hq0
        go_wp2_with (go_at_call 27; refine (H2.out _).mono ?_; rintro e w2 ⟨rfl, b2⟩)
        go_ret
        exact ⟨by rw [HR.out]; rfl, HB1.out.trans ((HB.out.trans (b2.mono HB.out.size)).mono HB1.out.size)⟩
      | false =>
        have HR : Hid ((L.take (k + 1)).any isClose = false) := any_take HX.out HE.out (hq0.trans hq)
        rw [vlClose_list] at hq
        clear hq0
        go_wp2_with (go_at_call 27; refine (H2.out _).mono ?_; rintro e w2 ⟨rfl, b2⟩)
        go_roundw
        case rel => exact ⟨k + 1, by omega, by go_num, HR.out, HB.out.trans (b2.mono HB.out.size)⟩
        case measure => simp [intOf]; omega
    · have HR : Hid (T = false) := by
        have := HE.out
        rw [List.take_of_length_le (by rw [HM.out]; omega)] at this
        rw [Hid, ← HT.out]
        exact this
      go_wp2_with fail
      go_ret
      exact ⟨by rw [HR.out]; rfl, HB1.out.trans (HB.out.mono HB1.out.size)⟩
set_option maxRecDepth 20000 in
set_option maxHeartbeats 4000000 in
theorem rcloses_any (r : Rq) (B : Nat) (w : World) (h : FA B w r.a r.fs) (hB : B ≤ w.heap.size) (hr : rqOk r) :
    Calls Tryd.prog 35 #[rqV r] w fun e w' => e = .returned (.bool (clsR r.fs)) ∧ Below w.heap.size w w' := by
  have H : Hid (∀ W : World, FA B W r.a r.fs → B ≤ W.heap.size → _) := fun W h1 h2 => rall_any r B nmConn W h1 h2 hr (by decide)
  have HF : Hid _ := h
  have HO : Hid (∀ v ∈ allF nmConn r.fs, v.size ≤ 140737488355328) := fun v hv => by
    obtain ⟨c, hc, rfl⟩ := allF_mem hv
    exact (hr.2 c hc).2
  have HN : Hid ((allF nmConn r.fs).length ≤ 4398046511104) := Nat.le_trans (allF_len _ _) hr.1
  obtain ⟨T, hT⟩ : ∃ T, clsR r.fs = T := ⟨_, rfl⟩
  have HT : Hid ((allF nmConn r.fs).any isClose = T) := hT
  rw [hT]
  clear hT
  obtain ⟨L, hL⟩ : ∃ L, allF nmConn r.fs = L := ⟨_, rfl⟩
  rw [hL] at H HO HT HN
  obtain ⟨m, hm⟩ : ∃ m, L.length = m := ⟨_, rfl⟩
  rw [hm] at H HN
  have HM : Hid _ := hm
  have hm0 : m ≤ 4398046511104 := HN.out
  clear hL h hr hm HN
  obtain ⟨met, tar, a, c, fs, body, shut⟩ := r
  simp only [rqV] at *
  obtain ⟨n, hn⟩ : ∃ n, fs.length = n := ⟨_, rfl⟩
  rw [hn] at H ⊢
  clear hn
  rw [show nmConn = (⟨#[99, 111, 110, 110, 101, 99, 116, 105, 111, 110]⟩ : ByteArray) from rfl] at H
  obtain ⟨W0, hW0⟩ : ∃ W0, w.alloc (.cells #[.string met, .string tar, .slice a n c, .string body, .bool shut] 24) = W0 := ⟨_, rfl⟩
  have HZ : Hid (W0.heap.size = w.heap.size + 1) := by rw [Hid, ← hW0]; simp
  have HB0 : Hid (Below w.heap.size w W0) := by rw [Hid, ← hW0]; exact (Below.refl _ _).alloc (Nat.le_refl _) _
  have HF0 : Hid (FA B W0 a fs) := FA.below HF.out (fun b hb => HB0.out.block b (by omega))
  have hx := block_alloc_at w (.cells #[.string met, .string tar, .slice a n c, .string body, .bool shut] 24)
  rw [hW0] at hx
  have c0 : W0.cell? ⟨w.heap.size, 0, none⟩ = some (.string met) := cell_of_block hx rfl
  have c1 : W0.cell? ⟨w.heap.size, 1, none⟩ = some (.string tar) := cell_of_block hx rfl
  have c2 : W0.cell? ⟨w.heap.size, 2, none⟩ = some (.slice a n c) := cell_of_block hx rfl
  have c3 : W0.cell? ⟨w.heap.size, 3, none⟩ = some (.string body) := cell_of_block hx rfl
  have c4 : W0.cell? ⟨w.heap.size, 4, none⟩ = some (.bool shut) := cell_of_block hx rfl
  clear hx
  go_enter Tryd.func35, Tryd.ntmps35
  go_wp2_with fail
  try rw [hW0]
  clear hW0
  refine (H.out _ HF0.out (by have := HZ.out; omega)).mono ?_
  rintro e w1 ⟨a2, cc, rfl, ho, b1⟩
  have HB1 : Hid (Below w.heap.size w w1) := HB0.out.trans (b1.mono (by have := HZ.out; omega))
  have HW : Hid _ := ho
  clear b1 c0 c1 c2 c3 c4 ho H
  go_wp2_with fail
  go_loopw [4] (fun i wr => ∃ k : Nat, k ≤ m ∧ i = .int .i64 (k : Nat) ∧ Hid ((L.take k).any isClose = false) ∧ Hid (Below w1.heap.size w1 wr)) (fun i _ => m - (intOf i).toNat)
  case atStart => exact ⟨0, by omega, rfl, by rw [Hid, List.take_zero]; rfl, Below.refl _ _⟩
  case round =>
    obtain ⟨k, hkm, rfl, HE, HB⟩ := hrel
    by_cases hlt : k < m
    · obtain ⟨x, hx⟩ : ∃ x, L[k]? = some x := ⟨L[k]'(by rw [HM.out]; exact hlt), List.getElem?_eq_getElem _⟩
      obtain ⟨g, rfl, _, hg, hc⟩ := owns_str HW.out hx
      have hc2 : wr.cell? ⟨g, k, none⟩ = some (.string x) := (World.cell?_of_block (HB.out.block g hg)).trans hc
      have H2 : Hid (∀ W : World, _) := fun W => rlower_any x (HO.out x (List.mem_of_getElem? hx)) W
      rw [show (⟨(x.data.toList.map lowC).toArray⟩ : ByteArray) = lowT x from rfl] at H2
      have hq0 : isClose x = ((lowT x).toList == vlClose.toList) := rfl
      obtain ⟨ln, hln⟩ : ∃ ln, lowT x = ln := ⟨_, rfl⟩
      rw [hln] at H2 hq0
      have HX : Hid _ := hx
      clear hln hx hc hg
      cases hq : (ln.toList == vlClose.toList) with
      | true =>
        have HR : Hid (T = true) := by rw [Hid, ← HT.out]; exact any_at HX.out (hq0.trans hq)
        rw [vlClose_list] at hq
        clear hq0
        go_wp2_with (go_at_call 28; refine (H2.out _).mono ?_; rintro e w2 ⟨rfl, b2⟩)
        go_ret
        exact ⟨by rw [HR.out]; rfl, HB1.out.trans ((HB.out.trans (b2.mono HB.out.size)).mono HB1.out.size)⟩
      | false =>
        have HR : Hid ((L.take (k + 1)).any isClose = false) := any_take HX.out HE.out (hq0.trans hq)
        rw [vlClose_list] at hq
        clear hq0
        go_wp2_with (go_at_call 28; refine (H2.out _).mono ?_; rintro e w2 ⟨rfl, b2⟩)
        go_roundw
        case rel => exact ⟨k + 1, by omega, by go_num, HR.out, HB.out.trans (b2.mono HB.out.size)⟩
        case measure => simp [intOf]; omega
    · have HR : Hid (T = false) := by
        have := HE.out
        rw [List.take_of_length_le (by rw [HM.out]; omega)] at this
        rw [Hid, ← HT.out]
        exact this
      go_wp2_with fail
      go_ret
      exact ⟨by rw [HR.out]; rfl, HB1.out.trans (HB.out.mono HB1.out.size)⟩
end Go.Proofs.YthhhoppmbimeiaaDoor
