/-
  awake: the chapter's example.
-/
import Derived.Test.YtdgmjmohfpjlnaaLev
import Derived.Test.YtdgmjmohfpjlnaaSmi
import Derived.Test.YtdgmjmohfpjlnaaSnp
namespace Go.Proofs.Ytdgmjmohfpjlnaa
open Go.RowKit
def ac1 : Cl := ⟨⟨#[97]⟩, 1, ⟨#[120]⟩, false⟩
def ac2 : Cl := ⟨⟨#[97]⟩, 3, ⟨#[]⟩, true⟩
def ac3 : Cl := ⟨⟨#[98]⟩, 2, ⟨#[121]⟩, false⟩
def as1 : St := putS ac1 1 st0
def as2 : St := putS ac2 2 as1
def as3 : St := putS ac3 1 as2
theorem ar1 : putR ac1 1 st0 = 0 := by decide +kernel
theorem ar2 : putR ac2 2 as1 = 0 := by decide +kernel
theorem ar3 : putR ac3 1 as2 = 0 := by decide +kernel
theorem ar4 : as3.E.length = 3 := by decide +kernel
theorem ar5 : levR as3.E = [3, 1] := by decide +kernel
theorem ar6 : (getE ⟨#[97]⟩ 2 as3.E).isSome = true ∧ ((getE ⟨#[97]⟩ 2 as3.E).getD cl0).val.data.toList = [120] := by decide +kernel
theorem ar7 : as1.n = 2 ∧ as2.n = 3 ∧ as3.n = 4 ∧ as1.size = 18 ∧ as2.size = 35 := by decide +kernel
theorem ar8 : ∃ k q g, getE ⟨#[97]⟩ 2 as3.E = some ⟨k, q, ⟨#[120]⟩, g⟩ := by
  obtain ⟨h1, h2⟩ := ar6
  generalize getE ⟨#[97]⟩ 2 as3.E = x at *
  cases x with
  | none => cases h1
  | some c =>
    obtain ⟨k, q, v, g⟩ := c
    simp only [Option.getD_some] at h2
    refine ⟨k, q, g, ?_⟩
    obtain ⟨⟨l⟩⟩ := v
    simp only at h2
    rw [h2]
theorem feq (f : Nat) (lb : Array Value) (W : World) : (binOp BinOp.eql 54 (.func (.func f) #[] lb) Value.nilFunc).run Try.prog W = .ok (.bool false) W := by
  have h : ∀ d : Nat, (Op.equalIn (d + 1) 54 (.func (.func f) #[] lb) Value.nilFunc).run Try.prog W = .ok false W := fun d => by
    simp [Op.equalIn, run_underlying Try.underlying54]
  simp only [binOp]
  simp [Op.equal, Op.maxDepth, h 9999]
theorem fne (f : Nat) (lb : Array Value) (W : World) : (binOp BinOp.neq 54 (.func (.func f) #[] lb) Value.nilFunc).run Try.prog W = .ok (.bool true) W := by
  have h : ∀ d : Nat, (Op.equalIn (d + 1) 54 (.func (.func f) #[] lb) Value.nilFunc).run Try.prog W = .ok false W := fun d => by
    simp [Op.equalIn, run_underlying Try.underlying54]
  simp only [binOp]
  simp [Op.equal, Op.maxDepth, h 9999]
theorem ia_of_row {w : World} {base : Nat} {v : Value} {l : List Nat} (h : w.ownsRow base 3 1 v l.length (l.map fun x => .int .i64 ((x : Nat) : Int))) : ∃ a c, v = .slice a l.length c ∧ IA w a l := by
  rcases h.2 with ⟨q1, q2⟩ | ⟨g, cp, cur, hv, hg, hh, rr⟩
  · refine ⟨none, 0, by rw [q1, q2], fun j v hj => ?_⟩
    rw [List.length_eq_zero_iff.1 q2] at hj
    cases hj
  · refine ⟨some ⟨g, 0, none⟩, cp, hv, fun j x hj => ⟨g, 0, rfl, ?_⟩⟩
    have hjl := (List.getElem?_eq_some_iff.1 hj).1
    subst hv
    rw [Nat.zero_add, World.ownsRow.cellAt h _ (by omega), List.getElem?_map, hj]
    rfl
theorem ia_new (W : World) : IA (W.alloc (.cells #[.int .i64 3, .int .i64 1] 3)) (some ⟨W.heap.size, 0, none⟩) [3, 1] := by
  intro j v hj
  refine ⟨_, 0, rfl, ?_⟩
  have hjl := (List.getElem?_eq_some_iff.1 hj).1
  simp only [List.length_cons, List.length_nil] at hjl
  rcases (by omega : j = 0 ∨ j = 1) with rfl | rfl
  · cases hj; exact cell_of_block (block_alloc_at _ _) rfl
  · cases hj; exact cell_of_block (block_alloc_at _ _) rfl
set_option maxRecDepth 20000 in
set_option maxHeartbeats 16000000 in
theorem awake_any (w : World) : Calls Try.prog 10 #[] w fun e w' => e = .returned (.bool true) ∧ Below w.heap.size w w' := by
  obtain ⟨gk, gq, gg, hget⟩ := ar8
  have HGV : Hid _ := hget
  clear hget
  have HN : Hid (∀ W, _) := new_any
  have hfe := feq
  have hfn := fne
  go_enter Try.func10, Try.ntmps10
  go_wp2_with fail
  refine (HN.out w).mono ?_
  rintro e w1 ⟨rfl, m1, b1⟩
  obtain ⟨z, hz⟩ : ∃ z, w.heap.size = z := ⟨_, rfl⟩
  rw [hz] at m1 b1 ⊢
  have HZ : Hid _ := hz
  have HT1 : Hid (TM z z (z + 1) w w1 0 st0 z 1) := ⟨m1, by decide, by decide, b1, Nat.le_refl _⟩
  have hs1 : z ≤ w1.heap.size := by rw [← hz]; exact b1.size
  clear m1 b1 hz
  go_wp2_with fail
  refine (scan_any (some ⟨z + 1, 0, none⟩) ⟨#[]⟩ ⟨#[]⟩ w1).mono ?_
  rintro e w2 ⟨rfl, hw2⟩
  have hb2 : Below w1.heap.size w1 w2 := by rw [hw2]; exact (((Below.refl _ w1).alloc (Nat.le_refl _) _).alloc (by simp) _).alloc (by simp; omega) _
  have HT2 : Hid (TM z z (z + 1) w w2 0 st0 z 1) := HT1.out.on hb2 hs1
  have hs2 : z ≤ w2.heap.size := Nat.le_trans hs1 hb2.size
  clear hw2 hb2 HT1
  go_wp2_with fail
  refine (put_any z (z + 1) z _ st0 ac1 1 _ HT2.out.ma (by decide) HT2.out.sz).mono ?_
  rintro e w3 ⟨rfl, b3, cap3, m3, k3, q3⟩
  rw [ar1]
  have HT3 : Hid (TM z z (z + 1) w w3 1 as1 b3 cap3) := HT2.out.put ac1 1 m3 k3 hs2
  have hs3 : z ≤ w3.heap.size := Nat.le_trans hs2 k3.size
  clear m3 k3 q3 HT2
  go_wp2_with fail
  refine (put_any z (z + 1) b3 _ as1 ac2 2 _ HT3.out.ma (by rw [ar7.1]; decide) HT3.out.sz).mono ?_
  rintro e w4 ⟨rfl, b4, cap4, m4, k4, q4⟩
  rw [ar2]
  have HT4 : Hid (TM z z (z + 1) w w4 2 as2 b4 cap4) := HT3.out.put ac2 2 m4 k4 hs3
  have hs4 : z ≤ w4.heap.size := Nat.le_trans hs3 k4.size
  clear m4 k4 q4 HT3
  go_wp2_with fail
  refine (put_any z (z + 1) b4 _ as2 ac3 1 _ HT4.out.ma (by rw [ar7.2.1]; decide) HT4.out.sz).mono ?_
  rintro e w5 ⟨rfl, b5, cap5, m5, k5, q5⟩
  rw [ar3]
  have HT5 : Hid (TM z z (z + 1) w w5 3 as3 b5 cap5) := HT4.out.put ac3 1 m5 k5 hs4
  have hs5 : z ≤ w5.heap.size := Nat.le_trans hs4 k5.size
  clear m5 k5 q5 HT4
  go_wp2_with fail
  refine (get_any z (z + 1) b5 cap5 as3 ⟨#[97]⟩ 2 w5 HT5.out.ma).mono ?_
  rintro e w6 ⟨rfl, bb6⟩
  rw [HGV.out]
  simp only [getV, clV]
  have HT6 : Hid (TM z z (z + 1) w w6 3 as3 b5 cap5) := HT5.out.on bb6 hs5
  have hs6 : z ≤ w6.heap.size := Nat.le_trans hs5 bb6.size
  clear bb6 HT5
  obtain ⟨X6, hX6⟩ : ∃ X6, w6.alloc (.cells #[.string gk, .int .u64 (gq : Nat), .string ⟨#[120]⟩, .bool gg] 33) = X6 := ⟨_, rfl⟩
  have HX6 : Hid (X6.heap[w6.heap.size]? = some (.cells #[.string gk, .int .u64 (gq : Nat), .string ⟨#[120]⟩, .bool gg] 33 (0, 0))) := by rw [Hid, ← hX6]; exact block_alloc_at _ _
  have hb7 : Below w6.heap.size w6 X6 := by rw [← hX6]; exact below_new _ _
  have HT7 : Hid (TM z z (z + 1) w X6 3 as3 b5 cap5) := HT6.out.on hb7 hs6
  have hs7 : z ≤ X6.heap.size := Nat.le_trans hs6 hb7.size
  have HE6 : Hid _ := hX6
  clear hX6 hb7 HT6
  go_wp2_with fail
  try rw [HE6.out]
  refine (scan_any none ⟨#[]⟩ ⟨#[]⟩ X6).mono ?_
  rintro e w8 ⟨rfl, hw8⟩
  have hb8 : Below X6.heap.size X6 w8 := by rw [hw8]; exact (((Below.refl _ X6).alloc (Nat.le_refl _) _).alloc (by simp) _).alloc (by simp; omega) _
  have HT8 : Hid (TM z z (z + 1) w w8 3 as3 b5 cap5) := HT7.out.on hb8 hs7
  have hs8 : z ≤ w8.heap.size := Nat.le_trans hs7 hb8.size
  have cx : w8.cell? ⟨w6.heap.size, 2, none⟩ = some (.string ⟨#[120]⟩) := cell_of_block ((hb8.block _ (Array.getElem?_eq_some_iff.1 HX6.out).1).trans HX6.out) rfl
  clear hw8 hb8 HT7 HX6
  go_wp2_with fail
  have HLN := len_any z (z + 1) b5 cap5 as3 w8 HT8.out.ma
  rw [ar4] at HLN
  refine HLN.mono ?_
  rintro e w9 ⟨rfl, hw9⟩
  rw [hw9]
  clear hw9 w9 HLN
  go_wp2_with fail
  have HLV := callsIn_wide.1 (levels_in 8 (by omega) z (z + 1) b5 cap5 as3 w8 HT8.out.ma)
  rw [ar5] at HLV
  refine HLV.mono ?_
  rintro e w9 ⟨v9, rfl, o9, bb9⟩
  obtain ⟨a9, c9, rfl, i9⟩ := ia_of_row o9
  have HT9 : Hid (TM z z (z + 1) w w9 3 as3 b5 cap5) := HT8.out.on bb9 hs8
  have hs9 : z ≤ w9.heap.size := Nat.le_trans hs8 bb9.size
  have HI9 : Hid (IA w9 a9 [3, 1]) := i9
  clear o9 bb9 i9 HLV HT8
  go_wp2_with fail
  have HSM := sameInts_eq a9 (some ⟨w9.heap.size, 0, none⟩) c9 2 [3, 1] (w9.alloc (.cells #[.int .i64 3, .int .i64 1] 3)) (fun j v hj => by
    obtain ⟨b, off, q1, q2⟩ := HI9.out j v hj
    exact ⟨b, off, q1, cell_kept q2 (World.grownBy_alloc w9 _ none) (fun r e => by cases e)⟩) (ia_new w9) (by decide)
  refine HSM.mono ?_
  rintro e w10 ⟨rfl, bb10⟩
  have hbe : Below z w w10 := (HT9.out.bel.alloc hs9 _).trans (bb10.mono (by simp; omega))
  clear bb10 HSM
  go_wp2_with fail
  go_ret
  exact ⟨rfl, by rw [HZ.out]; exact hbe⟩
end Go.Proofs.Ytdgmjmohfpjlnaa
