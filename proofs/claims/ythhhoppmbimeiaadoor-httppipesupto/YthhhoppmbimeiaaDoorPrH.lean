/-
  The contracts of printHead and of the twin's plain.
-/
import Derived.Test.YthhhoppmbimeiaaDoorPr1
import Derived.Test.YthhhoppmbimeiaaDoorBldC
namespace Go.Proofs.YthhhoppmbimeiaaDoor
open Go.RowKit
theorem strC (s : ByteArray) : Lib.strCells s = Lib.byteCells (byts s) := rfl
theorem byteC_app (a b : List UInt8) : Lib.byteCells (a ++ b) = Lib.byteCells a ++ Lib.byteCells b := by simp [Lib.byteCells]
theorem bld_below {B b : Nat} {p : Value} {bs : List Value} {w w' : World} (h : Lib.BuilderAt 72 5 B b p bs w) (k : Below w.heap.size w w') : Lib.BuilderAt 72 5 B b p bs w' := by
  obtain ⟨h1, v, h2, h3, h4⟩ := h
  exact ⟨h1, v, (k.block b (Array.getElem?_eq_some_iff.1 h2).1).trans h2, owns_on h3 k, h4⟩
theorem isb_below {B b : Nat} {bs : List Value} {w w' : World} (h : Lib.IsBuilder 72 5 B b bs w) (k : Below w.heap.size w w') : Lib.IsBuilder 72 5 B b bs w' := h.imp (fun q => bld_below q k) (fun q => bld_below q k)
theorem flat_take {fs : List Fd} {k : Nat} {x : Fd} (h : fs[k]? = some x) : (fs.take (k + 1)).flatMap fdT = (fs.take k).flatMap fdT ++ fdT x := by
  rw [List.take_add_one, h, Option.toList, List.flatMap_append]
  simp
theorem flat_le (fs : List Fd) (k : Nat) : ((fs.take k).flatMap fdT).length ≤ (fs.flatMap fdT).length := by
  conv => rhs; rw [← List.take_append_drop k fs, List.flatMap_append, List.length_append]
  omega
theorem hdB_size (met tar : ByteArray) (fs : List Fd) : (hdB met tar fs).size = met.size + tar.size + 14 + (fs.flatMap fdT).length := by
  unfold hdB hdK lin0
  show (List.toArray _).size = _
  simp [byts]
  have e1 : met.data.size = met.size := rfl
  have e2 : tar.data.size = tar.size := rfl
  omega
theorem fdT_len (f : Fd) : (fdT f).length = f.name.size + f.val.size + 4 := by
  unfold fdT
  simp [byts]
  have e1 : f.name.data.size = f.name.size := rfl
  have e2 : f.val.data.size = f.val.size := rfl
  omega
theorem flat_mem {fs : List Fd} {k : Nat} {x : Fd} (h : fs[k]? = some x) : ((fs.take k).flatMap fdT).length + (x.name.size + x.val.size + 4) ≤ (fs.flatMap fdT).length := by
  have := flat_le fs (k + 1)
  rw [flat_take h, List.length_append, fdT_len] at this
  exact this
def hdS (met tar : ByteArray) (fs : List Fd) (k : Nat) : List UInt8 := lin0 met tar ++ [13, 10] ++ (fs.take k).flatMap fdT
theorem hdS_size (met tar : ByteArray) (fs : List Fd) (k : Nat) : (hdS met tar fs k).length = met.size + tar.size + 12 + ((fs.take k).flatMap fdT).length := by
  unfold hdS lin0 byts
  simp only [List.length_append, List.length_cons, List.length_nil, size_list']
  omega
theorem hdS_len (met tar : ByteArray) (fs : List Fd) (k : Nat) : (hdS met tar fs k).length ≤ (hdB met tar fs).size := by
  rw [hdB_size, hdS_size]
  have := flat_le fs k
  omega
theorem hdS_succ {met tar : ByteArray} {fs : List Fd} {k : Nat} {x : Fd} (h : fs[k]? = some x) : hdS met tar fs (k + 1) = hdS met tar fs k ++ fdT x := by
  rw [hdS, hdS, flat_take h]
  simp
set_option maxRecDepth 20000 in
set_option maxHeartbeats 8000000 in
theorem printHead_any (r : Rq) (B : Nat) (w : World) (h : FA B w r.a r.fs) (hB : B ≤ w.heap.size) (hz : (hdB r.met r.tar r.fs).size ≤ 100000000) (hn : r.fs.length ≤ 100000000) :
    Calls Tryd.prog 29 #[rqV r] w fun e w' => e = .returned (.string (hdB r.met r.tar r.fs)) ∧ Below w.heap.size w w' := by
  obtain ⟨met, tar, a, c, fs, body, shut⟩ := r
  simp only [rqV] at *
  have HSZ : Hid ((hdB met tar fs).size ≤ 100000000) := hz
  have hz2 := hz
  rw [hdB_size] at hz2
  have hmt : met.size + tar.size ≤ 100000000 := by omega
  have HF : Hid _ := h
  have HBE : Hid (hdB met tar fs = ⟨(hdS met tar fs fs.length ++ [13, 10]).toArray⟩) := by rw [Hid, hdB, hdK, hdS, List.take_length]
  obtain ⟨H, hH⟩ : ∃ H, hdB met tar fs = H := ⟨_, rfl⟩
  rw [hH] at HBE HSZ ⊢
  have HHL : Hid (∀ k, (hdS met tar fs k).length ≤ H.size) := fun k => by rw [← hH]; exact hdS_len met tar fs k
  clear h hz hz2 hH
  obtain ⟨n, hn2⟩ : ∃ n, fs.length = n := ⟨_, rfl⟩
  have HL : Hid _ := hn2
  rw [hn2] at HBE hn ⊢
  clear hn2
  have hm1 : met.size ≤ 100000000 := by omega
  have hm2 : tar.size ≤ 100000000 := by omega
  obtain ⟨W0, hW0⟩ : ∃ W0, w.alloc (.cells #[.string met, .string tar, .slice a n c, .string body, .bool shut] 24) = W0 := ⟨_, rfl⟩
  have HZ0 : Hid (W0.heap.size = w.heap.size + 1) := by rw [Hid, ← hW0]; simp
  have HB0 : Hid (Below w.heap.size w W0) := by rw [Hid, ← hW0]; exact (Below.refl _ _).alloc (Nat.le_refl _) _
  have HX0 : Hid (RB W0 w.heap.size met tar (.slice a n c) body shut) := by rw [Hid, ← hW0]; exact block_alloc_at _ _
  have HF0 : Hid (FA B W0 a fs) := FA.below HF.out (fun b hb => HB0.out.block b (by omega))
  obtain ⟨W1, hW1⟩ : ∃ W1, W0.alloc (.cells #[.pointer none, .slice none 0 0] 72) = W1 := ⟨_, rfl⟩
  have HB1 : Hid (Below W0.heap.size W0 W1) := by rw [Hid, ← hW1]; exact (Below.refl _ _).alloc (Nat.le_refl _) _
  have HI1 : Hid (Lib.IsBuilder 72 5 W0.heap.size W0.heap.size [] W1) := by rw [Hid, ← hW1]; exact Lib.fresh_isBuilder 72 5 W0
  have HX1 : Hid (RB W1 w.heap.size met tar (.slice a n c) body shut) := HX0.out.below HB1.out
  have HW : Hid (∀ (bs : List Value) (s : ByteArray) (W : World), Lib.IsBuilder 72 5 W0.heap.size W0.heap.size bs W → bs.length + s.size ≤ 140737488355328 → W0.heap.size ≤ W.heap.size → _) := fun bs s W h1 h2 h3 => Tryd.Builder_WriteString W0.heap.size W0.heap.size bs s W h1 h2 h3
  have HS : Hid (∀ (l : List UInt8) (W : World), Lib.IsBuilder 72 5 W0.heap.size W0.heap.size (Lib.byteCells l) W → l ≠ [] → _) := fun l W h1 h2 => Tryd.Builder_String W0.heap.size W0.heap.size l W h1 h2
  obtain ⟨k0, k1, k2, k3, k4⟩ := HX1.out.box
  have HM0 : Hid (∀ (k : Nat) (x : Fd), fs[k]? = some x → x.name.size + x.val.size ≤ 100000000) := fun k x hx => by
    have h1 := flat_mem hx
    have h2 := HHL.out fs.length
    rw [hdS_size, List.take_length] at h2
    have := HSZ.out
    omega
  go_enter Tryd.func29, Tryd.ntmps29
  go_wp2_with fail
  try rw [hW0]
  try rw [hW1]
  clear hW0 hW1
  refine (HW.out _ _ _ HI1.out (by rw [size_app, size_app, size_app, size_app, size_app]; show 0 + (met.size + 1 + tar.size + 1 + 8 + 2) ≤ _; omega) HB1.out.size).mono ?_
  rintro e w2 ⟨rfl, hb2, b2⟩
  have HI2 : Hid (Lib.IsBuilder 72 5 W0.heap.size W0.heap.size (Lib.byteCells (hdS met tar fs 0)) w2) := by
    refine Or.inr ?_
    rw [List.nil_append, strC] at hb2
    have e : byts (met ++ ⟨#[32]⟩ ++ tar ++ ⟨#[32]⟩ ++ ⟨#[72, 84, 84, 80, 47, 49, 46, 49]⟩ ++ ⟨#[13, 10]⟩) = hdS met tar fs 0 := by simp [byts, hdS, lin0]
    rw [e] at hb2
    exact hb2
  have HB2 : Hid (Below W0.heap.size W0 w2) := HB1.out.trans b2
  have HX2 : Hid (RB w2 w.heap.size met tar (.slice a n c) body shut) := HX0.out.below HB2.out
  clear hb2 b2 k0 k1 k2 k3 k4 HI1
  obtain ⟨k0, k1, k2, k3, k4⟩ := HX2.out.box
  go_wp2_with fail
  go_loopw [19] (fun i wr => ∃ k : Nat, k ≤ n ∧ i = .int .i64 (k : Nat) ∧ Hid (Lib.IsBuilder 72 5 W0.heap.size W0.heap.size (Lib.byteCells (hdS met tar fs k)) wr) ∧ Hid (Below W0.heap.size W0 wr)) (fun i _ => n - (intOf i).toNat)
  case atStart => exact ⟨0, by omega, rfl, HI2.out, HB2.out⟩
  case round =>
    obtain ⟨k, hk, rfl, HI, HBr⟩ := hrel
    by_cases hlt : k < n
    · have hlz : (k : Int) < (n : Int) := by omega
      obtain ⟨x, hx⟩ : ∃ x, fs[k]? = some x := ⟨fs[k]'(by rw [HL.out]; exact hlt), List.getElem?_eq_getElem _⟩
      have HC2 : FA B wr a fs := FA.below HF0.out (fun b hb => HBr.out.block b (by have := HZ0.out; omega))
      obtain ⟨b, off, rfl, _, x0, x1⟩ := HC2 k x hx
      have hxs := HM0.out k x hx
      have HSU : Hid (hdS met tar fs (k + 1) = hdS met tar fs k ++ fdT x) := hdS_succ hx
      have hkl := HHL.out k
      have hsz := HSZ.out
      obtain ⟨xn, xv⟩ := x
      simp only at x0 x1 hxs
      have hx1 : xn.size ≤ 100000000 := by omega
      have hx2 : xv.size ≤ 100000000 := by omega
      have HI2 : Hid (Lib.IsBuilder 72 5 W0.heap.size W0.heap.size (Lib.byteCells (hdS met tar fs k)) (wr.alloc (.cells #[.string xn, .string xv] 53))) := isb_below HI.out ((Below.refl _ _).alloc (Nat.le_refl _) _)
      have HB3 : Hid (Below W0.heap.size W0 (wr.alloc (.cells #[.string xn, .string xv] 53))) := HBr.out.alloc HBr.out.size _
      have HLN : Hid ((Lib.byteCells (hdS met tar fs k)).length ≤ 100000000) := by rw [Hid, Lib.byteCells_length]; omega
      clear hx HC2 hkl hsz
      go_wp2_with fail
      refine (HW.out _ _ _ HI2.out (by have := HLN.out; rw [size_app, size_app, size_app]; show _ + (xn.size + 2 + xv.size + 2) ≤ _; omega) HB3.out.size).mono ?_
      rintro e w3 ⟨rfl, hb3, b3⟩
      have HI3 : Hid (Lib.IsBuilder 72 5 W0.heap.size W0.heap.size (Lib.byteCells (hdS met tar fs (k + 1))) w3) := by
        refine Or.inr ?_
        rw [strC, ← byteC_app] at hb3
        have e : byts (xn ++ ⟨#[58, 32]⟩ ++ xv ++ ⟨#[13, 10]⟩) = fdT ⟨xn, xv⟩ := by simp [byts, fdT]
        rw [e, ← HSU.out] at hb3
        exact hb3
      have HB4 : Hid (Below W0.heap.size W0 w3) := HB3.out.trans b3
      clear hb3 b3
      go_wp2_with fail
      go_roundw
      case rel => exact ⟨k + 1, by omega, by go_num, HI3.out, HB4.out⟩
      case measure => simp [intOf]; omega
    · have hlz : ¬ (k : Int) < (n : Int) := by omega
      obtain rfl : k = n := by omega
      have HLN : Hid ((Lib.byteCells (hdS met tar fs k)).length ≤ 100000000) := by have := HHL.out k; have := HSZ.out; rw [Hid, Lib.byteCells_length]; omega
      go_wp2_with fail
      refine (HW.out _ _ _ HI.out (by have := HLN.out; show _ + 2 ≤ _; omega) HBr.out.size).mono ?_
      rintro e w3 ⟨rfl, hb3, b3⟩
      have HI3 : Hid (Lib.IsBuilder 72 5 W0.heap.size W0.heap.size (Lib.byteCells (hdS met tar fs k ++ [13, 10])) w3) := by
        refine Or.inr ?_
        rw [strC, ← byteC_app] at hb3
        exact hb3
      have HB4 : Hid (Below W0.heap.size W0 w3) := HBr.out.trans b3
      clear hb3 b3
      go_wp2_with fail
      refine (HS.out _ _ HI3.out (by simp)).mono ?_
      rintro e w4 ⟨rfl, b4⟩
      go_wp2_with fail
      go_ret
      exact ⟨by rw [HBE.out]; rfl, HB0.out.trans ((HB4.out.trans b4).mono HB0.out.size)⟩
end Go.Proofs.YthhhoppmbimeiaaDoor
