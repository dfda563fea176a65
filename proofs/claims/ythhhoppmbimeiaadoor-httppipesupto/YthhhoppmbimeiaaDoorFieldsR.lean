/-
  The contract of the twin's fields.
-/
import Derived.Test.YthhhoppmbimeiaaDoorLenR
namespace Go.Proofs.YthhhoppmbimeiaaDoor
open Go.RowKit
def nmHost : ByteArray := ⟨#[104, 111, 115, 116]⟩
def nmCode : ByteArray := ⟨#[116, 114, 97, 110, 115, 102, 101, 114, 45, 101, 110, 99, 111, 100, 105, 110, 103]⟩
def togR (fs : List Fd) : Bool := decide (fs.length ≤ 32 ∧ (allF nmHost fs).length = 1 ∧ (allF nmLen fs).length ≤ 1 ∧ (allF nmCode fs).length = 0)
/-- A request in a box. -/
def BoxR (V : World) (g : Nat) (met tar : ByteArray) (v : Value) (body : ByteArray) (shut : Bool) : Prop :=
  V.cell? ⟨g, 0, none⟩ = some (.string met) ∧ V.cell? ⟨g, 1, none⟩ = some (.string tar) ∧ V.cell? ⟨g, 2, none⟩ = some v ∧ V.cell? ⟨g, 3, none⟩ = some (.string body) ∧ V.cell? ⟨g, 4, none⟩ = some (.bool shut)
theorem BoxR.below {V V' : World} {g : Nat} {met tar : ByteArray} {v : Value} {body : ByteArray} {shut : Bool} (h : BoxR V g met tar v body shut) (b : Below V.heap.size V V') (hg : g < V.heap.size) : BoxR V' g met tar v body shut := by
  have e : ∀ j, V'.cell? ⟨g, j, none⟩ = V.cell? ⟨g, j, none⟩ := fun j => World.cell?_of_block (b.block g hg)
  unfold BoxR at *
  simp only [e]
  exact h
set_option maxRecDepth 20000 in
set_option maxHeartbeats 8000000 in
theorem rfields_any (r : Rq) (B : Nat) (w : World) (h : FA B w r.a r.fs) (hB : B ≤ w.heap.size) (hr : rqOk r) :
    Calls Tryd.prog 34 #[rqV r] w fun e w' => e = .returned (.bool (togR r.fs)) ∧ Below w.heap.size w w' := by
  have H1 : Hid (∀ W : World, FA B W r.a r.fs → B ≤ W.heap.size → _) := fun W h1 h2 => rall_any r B nmHost W h1 h2 hr (by decide)
  have H2 : Hid (∀ W : World, FA B W r.a r.fs → B ≤ W.heap.size → _) := fun W h1 h2 => rall_any r B nmLen W h1 h2 hr (by decide)
  have H3 : Hid (∀ W : World, FA B W r.a r.fs → B ≤ W.heap.size → _) := fun W h1 h2 => rall_any r B nmCode W h1 h2 hr (by decide)
  have HF : Hid _ := h
  have HT : Hid (togR r.fs = decide (r.fs.length ≤ 32 ∧ (allF nmHost r.fs).length = 1 ∧ (allF nmLen r.fs).length ≤ 1 ∧ (allF nmCode r.fs).length = 0)) := rfl
  obtain ⟨T, hT⟩ : ∃ T, togR r.fs = T := ⟨_, rfl⟩
  rw [hT] at HT ⊢
  clear hT h hr
  obtain ⟨met, tar, a, c, fs, body, shut⟩ := r
  simp only [rqV] at *
  obtain ⟨n, hn⟩ : ∃ n, fs.length = n := ⟨_, rfl⟩
  rw [hn] at H1 H2 H3 HT ⊢
  clear hn
  obtain ⟨m1, h1⟩ : ∃ m, (allF nmHost fs).length = m := ⟨_, rfl⟩
  obtain ⟨m2, h2⟩ : ∃ m, (allF nmLen fs).length = m := ⟨_, rfl⟩
  obtain ⟨m3, h3⟩ : ∃ m, (allF nmCode fs).length = m := ⟨_, rfl⟩
  rw [h1] at H1 HT
  rw [h2] at H2 HT
  rw [h3] at H3 HT
  clear h1 h2 h3
  rw [show nmHost = (⟨#[104, 111, 115, 116]⟩ : ByteArray) from rfl] at H1
  rw [show nmLen = (⟨#[99, 111, 110, 116, 101, 110, 116, 45, 108, 101, 110, 103, 116, 104]⟩ : ByteArray) from rfl] at H2
  rw [show nmCode = (⟨#[116, 114, 97, 110, 115, 102, 101, 114, 45, 101, 110, 99, 111, 100, 105, 110, 103]⟩ : ByteArray) from rfl] at H3
  obtain ⟨W0, hW0⟩ : ∃ W0, w.alloc (.cells #[.string met, .string tar, .slice a n c, .string body, .bool shut] 24) = W0 := ⟨_, rfl⟩
  have HZ : Hid (W0.heap.size = w.heap.size + 1) := by rw [Hid, ← hW0]; simp
  have HB0 : Hid (Below w.heap.size w W0) := by rw [Hid, ← hW0]; exact (Below.refl _ _).alloc (Nat.le_refl _) _
  have HF0 : Hid (FA B W0 a fs) := FA.below HF.out (fun b hb => HB0.out.block b (by omega))
  have hx := block_alloc_at w (.cells #[.string met, .string tar, .slice a n c, .string body, .bool shut] 24)
  rw [hW0] at hx
  have HX0 : Hid (BoxR W0 w.heap.size met tar (.slice a n c) body shut) := ⟨cell_of_block hx rfl, cell_of_block hx rfl, cell_of_block hx rfl, cell_of_block hx rfl, cell_of_block hx rfl⟩
  clear hx HF
  obtain ⟨c0, c1, c2, c3, c4⟩ := HX0.out
  have HG0 : Hid (w.heap.size + 1 ≤ W0.heap.size) := Nat.le_of_eq HZ.out.symm
  by_cases g0 : n ≤ 32
  · by_cases g1 : m1 = 1
    · by_cases g2 : m2 ≤ 1
      · by_cases g3 : m3 = 0
        · have HR : Hid (T = true) := by rw [Hid, HT.out, decide_eq_true (by omega)]
          have z0 : (n : Int) ≤ 32 := by omega
          have z1 : ((m1 : Int) == 1) = true := by simp; omega
          have z2 : (m2 : Int) ≤ 1 := by omega
          have z3 : ((m3 : Int) == 0) = true := by simp; omega
          go_enter Tryd.func34, Tryd.ntmps34
          go_wp2_with fail
          try rw [hW0]
          refine (H1.out _ HF0.out (by have := HZ.out; have := HB0.out.size; omega)).mono ?_
          rintro e w1 ⟨a1, cc1, rfl, _, b1⟩
          have HB1 : Hid (Below w.heap.size w w1) := HB0.out.trans (b1.mono HB0.out.size)
          have HX1 : Hid (BoxR w1 w.heap.size met tar (.slice a n c) body shut) := HX0.out.below b1 (by have := HZ.out; have := HG0.out; omega)
          have HF1 : Hid (FA B w1 a fs) := FA.below HF0.out (fun b hb => b1.block b (by have := HZ.out; have := HG0.out; omega))
          have HG1 : Hid (w.heap.size + 1 ≤ w1.heap.size) := Nat.le_trans HG0.out b1.size
          obtain ⟨c0, c1, c2, c3, c4⟩ := HX1.out
          clear b1
          go_wp2_with fail
          refine (H2.out _ HF1.out (by have := HZ.out; have := HB1.out.size; omega)).mono ?_
          rintro e w2 ⟨a2, cc2, rfl, _, b2⟩
          have HB2 : Hid (Below w.heap.size w w2) := HB1.out.trans (b2.mono HB1.out.size)
          have HX2 : Hid (BoxR w2 w.heap.size met tar (.slice a n c) body shut) := HX1.out.below b2 (by have := HZ.out; have := HG1.out; omega)
          have HF2 : Hid (FA B w2 a fs) := FA.below HF1.out (fun b hb => b2.block b (by have := HZ.out; have := HG1.out; omega))
          have HG2 : Hid (w.heap.size + 1 ≤ w2.heap.size) := Nat.le_trans HG1.out b2.size
          obtain ⟨c0, c1, c2, c3, c4⟩ := HX2.out
          clear b2
          go_wp2_with fail
          refine (H3.out _ HF2.out (by have := HZ.out; have := HB2.out.size; omega)).mono ?_
          rintro e w3 ⟨a3, cc3, rfl, _, b3⟩
          have HB3 : Hid (Below w.heap.size w w3) := HB2.out.trans (b3.mono HB2.out.size)
          have HX3 : Hid (BoxR w3 w.heap.size met tar (.slice a n c) body shut) := HX2.out.below b3 (by have := HZ.out; have := HG2.out; omega)
          have HF3 : Hid (FA B w3 a fs) := FA.below HF2.out (fun b hb => b3.block b (by have := HZ.out; have := HG2.out; omega))
          have HG3 : Hid (w.heap.size + 1 ≤ w3.heap.size) := Nat.le_trans HG2.out b3.size
          obtain ⟨c0, c1, c2, c3, c4⟩ := HX3.out
          clear b3
          go_wp2_with fail
          go_ret
          exact ⟨by rw [HR.out]; rfl, HB3.out⟩
        · have HR : Hid (T = false) := by rw [Hid, HT.out, decide_eq_false (by omega)]
          have z0 : (n : Int) ≤ 32 := by omega
          have z1 : ((m1 : Int) == 1) = true := by simp; omega
          have z2 : (m2 : Int) ≤ 1 := by omega
          have z3 : ((m3 : Int) == 0) = false := by simp; omega
          go_enter Tryd.func34, Tryd.ntmps34
          go_wp2_with fail
          try rw [hW0]
          refine (H1.out _ HF0.out (by have := HZ.out; have := HB0.out.size; omega)).mono ?_
          rintro e w1 ⟨a1, cc1, rfl, _, b1⟩
          have HB1 : Hid (Below w.heap.size w w1) := HB0.out.trans (b1.mono HB0.out.size)
          have HX1 : Hid (BoxR w1 w.heap.size met tar (.slice a n c) body shut) := HX0.out.below b1 (by have := HZ.out; have := HG0.out; omega)
          have HF1 : Hid (FA B w1 a fs) := FA.below HF0.out (fun b hb => b1.block b (by have := HZ.out; have := HG0.out; omega))
          have HG1 : Hid (w.heap.size + 1 ≤ w1.heap.size) := Nat.le_trans HG0.out b1.size
          obtain ⟨c0, c1, c2, c3, c4⟩ := HX1.out
          clear b1
          go_wp2_with fail
          refine (H2.out _ HF1.out (by have := HZ.out; have := HB1.out.size; omega)).mono ?_
          rintro e w2 ⟨a2, cc2, rfl, _, b2⟩
          have HB2 : Hid (Below w.heap.size w w2) := HB1.out.trans (b2.mono HB1.out.size)
          have HX2 : Hid (BoxR w2 w.heap.size met tar (.slice a n c) body shut) := HX1.out.below b2 (by have := HZ.out; have := HG1.out; omega)
          have HF2 : Hid (FA B w2 a fs) := FA.below HF1.out (fun b hb => b2.block b (by have := HZ.out; have := HG1.out; omega))
          have HG2 : Hid (w.heap.size + 1 ≤ w2.heap.size) := Nat.le_trans HG1.out b2.size
          obtain ⟨c0, c1, c2, c3, c4⟩ := HX2.out
          clear b2
          go_wp2_with fail
          refine (H3.out _ HF2.out (by have := HZ.out; have := HB2.out.size; omega)).mono ?_
          rintro e w3 ⟨a3, cc3, rfl, _, b3⟩
          have HB3 : Hid (Below w.heap.size w w3) := HB2.out.trans (b3.mono HB2.out.size)
          have HX3 : Hid (BoxR w3 w.heap.size met tar (.slice a n c) body shut) := HX2.out.below b3 (by have := HZ.out; have := HG2.out; omega)
          have HF3 : Hid (FA B w3 a fs) := FA.below HF2.out (fun b hb => b3.block b (by have := HZ.out; have := HG2.out; omega))
          have HG3 : Hid (w.heap.size + 1 ≤ w3.heap.size) := Nat.le_trans HG2.out b3.size
          obtain ⟨c0, c1, c2, c3, c4⟩ := HX3.out
          clear b3
          go_wp2_with fail
          go_ret
          exact ⟨by rw [HR.out]; rfl, HB3.out⟩
      · have HR : Hid (T = false) := by rw [Hid, HT.out, decide_eq_false (by omega)]
        have z0 : (n : Int) ≤ 32 := by omega
        have z1 : ((m1 : Int) == 1) = true := by simp; omega
        have z2 : ¬ (m2 : Int) ≤ 1 := by omega
        go_enter Tryd.func34, Tryd.ntmps34
        go_wp2_with fail
        try rw [hW0]
        refine (H1.out _ HF0.out (by have := HZ.out; have := HB0.out.size; omega)).mono ?_
        rintro e w1 ⟨a1, cc1, rfl, _, b1⟩
        have HB1 : Hid (Below w.heap.size w w1) := HB0.out.trans (b1.mono HB0.out.size)
        have HX1 : Hid (BoxR w1 w.heap.size met tar (.slice a n c) body shut) := HX0.out.below b1 (by have := HZ.out; have := HG0.out; omega)
        have HF1 : Hid (FA B w1 a fs) := FA.below HF0.out (fun b hb => b1.block b (by have := HZ.out; have := HG0.out; omega))
        have HG1 : Hid (w.heap.size + 1 ≤ w1.heap.size) := Nat.le_trans HG0.out b1.size
        obtain ⟨c0, c1, c2, c3, c4⟩ := HX1.out
        clear b1
        go_wp2_with fail
        refine (H2.out _ HF1.out (by have := HZ.out; have := HB1.out.size; omega)).mono ?_
        rintro e w2 ⟨a2, cc2, rfl, _, b2⟩
        have HB2 : Hid (Below w.heap.size w w2) := HB1.out.trans (b2.mono HB1.out.size)
        have HX2 : Hid (BoxR w2 w.heap.size met tar (.slice a n c) body shut) := HX1.out.below b2 (by have := HZ.out; have := HG1.out; omega)
        have HF2 : Hid (FA B w2 a fs) := FA.below HF1.out (fun b hb => b2.block b (by have := HZ.out; have := HG1.out; omega))
        have HG2 : Hid (w.heap.size + 1 ≤ w2.heap.size) := Nat.le_trans HG1.out b2.size
        obtain ⟨c0, c1, c2, c3, c4⟩ := HX2.out
        clear b2
        go_wp2_with fail
        go_ret
        exact ⟨by rw [HR.out]; rfl, HB2.out⟩
    · have HR : Hid (T = false) := by rw [Hid, HT.out, decide_eq_false (by omega)]
      have z0 : (n : Int) ≤ 32 := by omega
      have z1 : ((m1 : Int) == 1) = false := by simp; omega
      go_enter Tryd.func34, Tryd.ntmps34
      go_wp2_with fail
      try rw [hW0]
      refine (H1.out _ HF0.out (by have := HZ.out; have := HB0.out.size; omega)).mono ?_
      rintro e w1 ⟨a1, cc1, rfl, _, b1⟩
      have HB1 : Hid (Below w.heap.size w w1) := HB0.out.trans (b1.mono HB0.out.size)
      have HX1 : Hid (BoxR w1 w.heap.size met tar (.slice a n c) body shut) := HX0.out.below b1 (by have := HZ.out; have := HG0.out; omega)
      have HF1 : Hid (FA B w1 a fs) := FA.below HF0.out (fun b hb => b1.block b (by have := HZ.out; have := HG0.out; omega))
      have HG1 : Hid (w.heap.size + 1 ≤ w1.heap.size) := Nat.le_trans HG0.out b1.size
      obtain ⟨c0, c1, c2, c3, c4⟩ := HX1.out
      clear b1
      go_wp2_with fail
      go_ret
      exact ⟨by rw [HR.out]; rfl, HB1.out⟩
  · have HR : Hid (T = false) := by rw [Hid, HT.out, decide_eq_false (by omega)]
    have z0 : ¬ (n : Int) ≤ 32 := by omega
    go_enter Tryd.func34, Tryd.ntmps34
    go_wp2_with fail
    try rw [hW0]
    go_ret
    exact ⟨by rw [HR.out]; rfl, HB0.out⟩
end Go.Proofs.YthhhoppmbimeiaaDoor
