/-
  MergeThins is true where what is handed in is small (the second form): a list that was thinned out, merged with another one, shows each reader from the oldest one on the same as the whole one does.
-/
import Derived.Test.YtohamjoiohfoiabMThin
import Derived.Test.YtohamjoiohfoiabOpens3
import Derived.Test.YtohamjoiohfoiabRows
namespace Go.Proofs.Ytohamjoiohfoiab.MergeThins
open Go.ChangeShapes Go.WideShapes Go.ChangeAt Go.RowKit Go.Deep
open Go.ChangeMaps (open_string shut_string)
theorem own : ownKnob Try.prog.godebug = none := by kernel_rfl
theorem laidOut : laidOutB Try.prog = true := by kernel_rfl
theorem contract (H : Type) (enc : TypeId × Value → H) (W : World) (base : Nat) (args : Array Value) (ds gs : List (DataW H)) (before : List MemPlace)
    (hval : ∀ (j : Nat) t v, Try.f4.params[j]? = some t → args[j]? = some v → Value.okWide Try.prog W .any base t v)
    (hW : DataW.Whole enc Try.prog Try.f4.params.toList Rows.mergeThinsSpec.vars false W args.toList ds gs before) (hk : Rows.uptoSmall H (ds ++ gs) = true) :
    Calls Try.prog 4 args W fun e W' => ∃ v, e = .returned v ∧ Rows.mergeThinsSpec.post enc Try.prog Try.f4 false true false false W args v W' := by
  have hW' := hW
  obtain ⟨p, q, hA0, hV, rfl, hfz, hnd⟩ := hW
  have hA : DataW.TrodAll enc Try.prog W 0 (fun _ => true) true Try.f4.params.toList args.toList ds p := hA0
  rw [Try.params4] at hA hval
  obtain ⟨v0, vs0, d0, ds0, p0, q0, hargs, rfl, rfl, h0, r0⟩ := trodAll_cons hA
  obtain ⟨v1, vs1, d1, ds1, p1, q1, rfl, rfl, rfl, h1, r1⟩ := trodAll_cons r0
  obtain ⟨rfl, rfl, rfl⟩ := trodAll_nil r1
  obtain rfl : args = #[v0, v1] := by cases args; simp_all
  obtain ⟨rfl, rfl⟩ := trodVars_none hV
  have hbulk : Rows.uptoBulkAll [d0, d1] ≤ 1048576 := by simpa [Rows.uptoSmall] using hk
  simp only [Rows.uptoBulkAll] at hbulk
  have k0 := h0
  have lt0 : ∀ x ∈ p0, x.block < W.heap.size := by obtain ⟨m, hm⟩ := k0; exact DataW.trod_lt m _ _ _ hm
  have k1 := h1
  have lt1 : ∀ x ∈ p1, x.block < W.heap.size := by obtain ⟨m, hm⟩ := k1; exact DataW.trod_lt m _ _ _ hm
  obtain ⟨cs0, rfl, hcs0⟩ := okWide_array Try.underlying32 (hval 0 32 v0 rfl rfl)
  rw [cells32] at hcs0
  obtain ⟨c0a, c0b, rfl⟩ := two_of hcs0
  obtain ⟨fuel0, hf0⟩ := id k0
  obtain ⟨xa0, xb0, pa0, pb0, la0, lb0, rfl, rfl, ha0, hb0, qa0, qb0, za0, zb0, ma0, mb0⟩ := lists2_small (c0 := c0a) (c1 := c0b) (by simpa [Value.cells] using hf0) (by simp only; omega)
  obtain ⟨cs1, rfl, hcs1⟩ := okWide_array Try.underlying33 (hval 1 33 v1 rfl rfl)
  rw [cells33] at hcs1
  obtain ⟨c1a, c1b, rfl⟩ := two_of hcs1
  obtain ⟨fuel1, hf1⟩ := id k1
  obtain ⟨m1, n1, rfl, rfl⟩ := pair_arg (c0 := c1a) (c1 := c1b) (by simpa [Value.cells] using hf1)
  have walk : Calls Try.prog 4 #[.agg #[.slice xa0 la0.length pa0, .slice xb0 lb0.length pb0], .agg #[.int .u64 (m1 : Nat), .int .u64 (n1 : Nat)]] W fun r w' => r = .returned (.bool true) ∧ Below W.heap.size W w' := mthin_any xa0 xb0 la0.length lb0.length pa0 pb0 m1 n1 la0 lb0 W ha0 hb0 rfl rfl qa0 qb0 ma0 mb0
  clear hA0
  refine walk.mono fun e W' ⟨he, bel⟩ => ?_
  subst he
  exact ⟨_, rfl, _, _, _, [], _, [], hW', trodAll_mk1 (shut_bool Try.underlying4 _), (trodAll_cons_mk (Below.trod laidOut (by kernel_rfl) (of_decide_eq_true (by kernel_rfl)) k0 bel lt0) (trodAll_cons_mk (Below.trod laidOut (by kernel_rfl) (of_decide_eq_true (by kernel_rfl)) k1 bel lt1) trodAll_mk0)), rfl, bel.frame _, fun h => by cases h⟩
set_option maxRecDepth 100000 in
theorem lifted (os : Os) (started : os.Started) (H : Type) (enc : TypeId × Value → H) (F : Stop.Interp) :
    ReturnsInHanded {} Try.checked os 4 .any ((Rows.OpenSpec.upto Rows.mergeThinsSpec).pre6 enc Try.prog Try.f4 Rows.mergeThinsUptoRow.domain false) (((Rows.OpenSpec.upto Rows.mergeThinsSpec).at F).post enc Try.prog Try.f4 false true false false) := by
  refine returnsInHanded_of_cond (C := Try.checked) (s := Rows.OpenSpec.upto Rows.mergeThinsSpec) (k := Rows.uptoSmall) rfl own started (by kernel_rfl) Try.func4
    (OpenSpec.witness (enc := enc) (C := Try.checked) (s := Rows.OpenSpec.upto Rows.mergeThinsSpec) (k := Rows.uptoSmall) rfl false ⟨#[], #[.agg #[.slice none 0 0, .slice none 0 0], .agg #[.int .u64 0, .int .u64 0]], []⟩ 8 (by kernel_rfl) (by kernel_rfl) (by kernel_rfl)
      (x := ([.agg [.nil, .nil], .agg [.lit (.int .u64 0), .lit (.int .u64 0)]], [], [])) (by kernel_rfl) rfl (by kernel_rfl)) ?_
  intro W base args ds gs before hval hW _ hk _
  exact contract H enc W base args ds gs before hval hW hk
theorem holds : Rows.MergeThinsUptoSaid :=
  OpenClaim.holds_of_cond 4 Try.f4 rfl rfl rfl rfl rfl rfl rfl ⟨rfl, rfl, rfl, rfl, rfl⟩ rfl rfl rfl rfl rfl (by kernel_rfl) Try.func4 (by kernel_rfl)
    (of_decide_eq_true (by kernel_rfl)) (by unfold Func.isWrapper; first | (rw [if_pos (by decide +kernel)]; kernel_rfl) | (rw [if_neg (by decide +kernel)]; exact ⟨rfl, rfl⟩))
    (fun os started H enc _ F => lifted os started H enc F)
end Go.Proofs.Ytohamjoiohfoiab.MergeThins
namespace Go.Proofs.Ytohamjoiohfoiab
theorem mergeThins_holds : Rows.MergeThinsUptoSaid := MergeThins.holds
#print axioms mergeThins_holds
end Go.Proofs.Ytohamjoiohfoiab
