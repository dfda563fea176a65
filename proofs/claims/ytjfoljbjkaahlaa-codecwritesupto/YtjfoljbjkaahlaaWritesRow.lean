/-
  CodecWrites is true for every input of bulk at most 1048576: a writer puts just the bytes that were asked for, and tells when they do not fit.
-/
import Derived.Test.YtjfoljbjkaahlaaWrites
import Derived.Test.YtjfoljbjkaahlaaBulk
import Derived.ProofKit
import Derived.OpenShut
import Derived.ShutString
import Derived.ChangeOld
import Derived.Below
import Derived.JoinedCond
import Derived.Deep.Slices
import Derived.Deep.Strs
namespace Go.Proofs.Ytjfoljbjkaahlaa.WritesRow
open Go.ChangeShapes Go.WideShapes Go.ChangeAt Go.RowKit Go.Deep
open Go.ChangeMaps (open_string shut_string)
set_option maxRecDepth 100000 in
set_option maxHeartbeats 2000000 in
theorem writes_none (most : Int) (a : Option Addr) (cap : Nat) (w : World) :
    Calls Try.prog 4 #[.int .i64 most, .slice a 0 cap] w fun r w' => r = .returned (.bool true) ∧ Below w.heap.size w w' := by
  obtain ⟨M, hMd⟩ : ∃ M, max most 0 = M := ⟨_, rfl⟩
  go_enter Try.func4, Try.ntmps4
  go_wp2_with fail
  refine (newWriter_any most _).mono ?_
  rintro e w1 ⟨rfl, h1, k1⟩
  rw [hMd] at h1
  clear hMd
  have B1 : Below w.heap.size w w1 := k1.below (Nat.le_refl _) (fun _ f => f.elim)
  have z1 := h1.lt
  go_wp2_with fail
  refine (awake_any _).mono ?_
  rintro e w2 ⟨rfl, B2⟩
  have h2 : WIs w2 w.heap.size w.heap.size M [] false (.slice none 0 0) := ⟨(B2.block _ z1).trans h1.block, World.ownsRow_nil _ _ _ _⟩
  have B3 : Below w.heap.size w w2 := B1.trans (B2.mono (by omega))
  clear h1 k1 B1 B2
  go_wp2_with fail
  refine wp_loop_rounds 1 ?_
  rw [rounds_succ]
  go_wp2_with fail
  refine (wdone_ok h2).mono ?_
  rintro e4 w4 ⟨rfl, rfl⟩
  go_wp2_with fail
  refine (wlen_any h2).mono ?_
  rintro e6 w6 ⟨rfl, rfl⟩
  go_wp2_with fail
  go_ret
  exact ⟨rfl, B3⟩
theorem own : ownKnob Try.prog.godebug = none := by kernel_rfl
theorem laidOut : laidOutB Try.prog = true := by kernel_rfl
theorem cells28 : Try.prog.cellsOf 28 = 3 := by kernel_rfl
theorem cells3 : Try.prog.cellsOf 3 = 1 := by kernel_rfl
theorem cells26 : Try.prog.cellsOf 26 = 1 := by kernel_rfl
theorem cells9 : Try.prog.cellsOf 9 = 1 := by kernel_rfl
theorem nat_of_wf {x : Int} (h : (Lit.int .u64 x).wf = true) : ∃ n : Nat, x = n ∧ n < 18446744073709551616 := by
  simp [Lit.wf, IntKind.min, IntKind.max, IntKind.signed, IntKind.bits] at h
  exact ⟨x.toNat, by omega, by omega⟩
theorem size_le {H : Type} {D : Nat → DataW H} {S : Nat → ByteArray} : ∀ {len : Nat}, (∀ i, i < len → (S i).size + 4 ≤ Rows.uptoBulk (D i)) → sizeTo S len ≤ 3 * Rows.uptoBulkAll ((List.range len).map D)
  | 0, _ => Nat.le_refl _
  | k + 1, h => by
    have h1 := size_le (len := k) (fun i hi => h i (by omega))
    have h2 := h k (by omega)
    rw [List.range_succ, List.map_append, bulks.append]
    simp only [List.map_cons, List.map_nil, Rows.uptoBulkAll]
    show sizeTo S k + (S k).size + 10 ≤ _
    omega
theorem ops_open {H : Type} {enc : TypeId × Value → H} {W : World} {a : Option Addr} {len cap fuel : Nat} {x : DataW H × List MemPlace}
    (hf : DataW.trod enc Try.prog W 0 (fun _ => true) true fuel 22 [.slice a len cap] = some x) (hsz : Rows.uptoBulk x.1 ≤ 1048576) :
    len = 0 ∨ ∃ (b off : Nat) (K : Nat → Int) (N : Nat → Nat) (S : Nat → ByteArray), a = some ⟨b, off, none⟩ ∧ b < W.heap.size ∧ len ≤ 9223372036854775807 ∧ (∀ j, N j < 18446744073709551616) ∧ (∀ j, (S j).size ≤ 140737488355328) ∧ sizeTo S len ≤ 1073741824 ∧
      ∀ j, j < len → W.cell? ⟨b, off + j * 3, none⟩ = some (.int .i64 (K j)) ∧ W.cell? ⟨b, off + j * 3 + 1, none⟩ = some (.int .u64 (N j)) ∧ W.cell? ⟨b, off + j * 3 + 2, none⟩ = some (.string (S j)) := by
  rcases open_slice Try.underlying22 hf with ⟨hcs, _⟩ | ⟨y, l, c, m, n, D, Pl, hcs, _, hl, hm, hmm, hxd, hx⟩
  · simp at hcs
    exact Or.inl hcs.2.1
  · simp only [List.cons.injEq, Value.slice.injEq, and_true] at hcs
    obtain ⟨rfl, rfl, rfl⟩ := hcs
    by_cases h0 : len = 0
    · exact Or.inl h0
    right
    have hmm' : m = cap := by simpa using hmm
    have hall : Rows.uptoBulkAll ((List.range len).map D) ≤ 1048576 := by
      rw [hxd] at hsz
      have := bulks.slice_elems ((List.range len).map D) ((List.range (m - len)).map fun j => D (len + j))
      simp only at hsz
      omega
    have each : ∀ i, ∃ q : Int × Nat × ByteArray, (i < len → W.cell? (y.add (i * 3)) = some (.int .i64 q.1) ∧ W.cell? (y.add (i * 3 + 1)) = some (.int .u64 q.2.1) ∧ W.cell? (y.add (i * 3 + 2)) = some (.string q.2.2) ∧ q.2.2.size + 4 ≤ Rows.uptoBulk (D i)) ∧ q.2.1 < 18446744073709551616 ∧ q.2.2.size ≤ 140737488355328 := by
      intro i
      by_cases hi : i < len
      · obtain ⟨cs', h1, h2⟩ := hx i (by omega)
        rw [cells28] at h1
        obtain ⟨_, hlen, hcell⟩ := World.cells?_some h1
        obtain ⟨y0, y1, y2, k, hD, _, g0, g1, g2⟩ := trod_struct3 Try.underlying28 h2
        match cs', hlen with
        | [v0, v1, v2], _ =>
          simp [cells3, cells26, cells9] at g0 g1 g2
          obtain ⟨a0, e0, f0, _⟩ := DataW.trod_int Try.underlying3 g0
          obtain ⟨a1, e1, f1, w1⟩ := DataW.trod_int Try.underlying26 g1
          obtain ⟨a2, e2, f2, _⟩ := DataW.trod_string Try.underlying9 g2
          simp at e0 e1 e2
          subst e0 e1 e2
          obtain ⟨nn, rfl, hn⟩ := nat_of_wf w1
          have hDi : D i = .agg [y0.1, y1.1, y2.1] := by have := congrArg Prod.fst hD; simpa using this
          have hbk : a2.size + 4 ≤ Rows.uptoBulk (D i) := by
            rw [hDi, f0, f1, f2]
            simp only [Rows.uptoBulk, Rows.uptoBulkAll]
            rw [size_list]
            omega
          have hz : a2.size ≤ 140737488355328 := by
            have h3 := bulks.part_le (d := D i) (List.mem_map.2 ⟨i, List.mem_range.2 hi, rfl⟩ : D i ∈ (List.range len).map D)
            omega
          have c0 := hcell 0 (by omega)
          have c1 := hcell 1 (by omega)
          have c2 := hcell 2 (by omega)
          rw [add_add] at c0 c1 c2
          exact ⟨(a0, nn, a2), fun _ => ⟨by simpa using c0, by simpa using c1, by simpa using c2, hbk⟩, hn, hz⟩
      · exact ⟨(0, 0, ByteArray.empty), fun h => absurd h hi, by decide, by decide⟩
    obtain ⟨q, hq⟩ := Classical.axiomOfChoice each
    obtain ⟨b, off, spot⟩ := y
    have hs0 := ((hq 0).1 (by omega)).1
    have hspot : spot = none := by simpa [Addr.add] using World.cell?_spot hs0
    subst hspot
    refine ⟨b, off, fun i => (q i).1, fun i => (q i).2.1, fun i => (q i).2.2, rfl, ?_, by unfold maxLen at hm; omega, fun j => (hq j).2.1, fun j => (hq j).2.2, ?_, fun j hj => ?_⟩
    · have := World.block_lt_of_cell? W _ hs0
      simpa [Addr.add] using this
    · have := size_le (D := D) (S := fun i => (q i).2.2) (len := len) (fun i hi => ((hq i).1 hi).2.2.2)
      omega
    · obtain ⟨r0, r1, r2, _⟩ := (hq j).1 hj
      have ea : ∀ i, (⟨b, off, none⟩ : Addr).add i = ⟨b, off + i, none⟩ := fun i => by by_cases hi0 : i = 0 <;> simp [Addr.add, hi0]
      rw [ea] at r0 r1 r2
      exact ⟨r0, by rw [Nat.add_assoc]; exact r1, by rw [Nat.add_assoc]; exact r2⟩
theorem i64_of_wf {x : Int} (h : (Lit.int .i64 x).wf = true) : -9223372036854775808 ≤ x ∧ x ≤ 9223372036854775807 := by
  simp [Lit.wf, IntKind.min, IntKind.max, IntKind.signed, IntKind.bits] at h
  omega
theorem contract (H : Type) (enc : TypeId × Value → H) (W : World) (base : Nat) (args : Array Value) (ds gs : List (DataW H)) (before : List MemPlace)
    (hval : ∀ (j : Nat) t v, Try.f4.params[j]? = some t → args[j]? = some v → Value.okWide Try.prog W .any base t v)
    (hW : DataW.Whole enc Try.prog Try.f4.params.toList Rows.codecWritesSpec.vars false W args.toList ds gs before) (hk : Rows.uptoSmall H (ds ++ gs) = true) :
    Calls Try.prog 4 args W fun e W' => ∃ v, e = .returned v ∧ Rows.codecWritesSpec.post enc Try.prog Try.f4 false true false false W args v W' := by
  have hW' := hW
  obtain ⟨p, q, hA0, hV, rfl, hfz, hnd⟩ := hW
  have hA : DataW.TrodAll enc Try.prog W 0 (fun _ => true) true Try.f4.params.toList args.toList ds p := hA0
  rw [Try.params4] at hA hval
  obtain ⟨v0, vs0, d0, ds0, p0, q0, hargs, rfl, rfl, h0, r0⟩ := trodAll_cons hA
  obtain ⟨v1, vs1, d1, ds1, p1, q1, rfl, rfl, rfl, h1, r1⟩ := trodAll_cons r0
  obtain ⟨rfl, rfl, rfl⟩ := trodAll_nil r1
  obtain rfl : args = #[v0, v1] := by cases args; simp_all
  obtain ⟨rfl, rfl⟩ := trodVars_none hV
  have hbulk := bulks.bound hk
  simp only [List.append_nil, Rows.uptoBulkAll] at hbulk
  have k0 := h0
  have lt0 : ∀ x ∈ p0, x.block < W.heap.size := by obtain ⟨m, hm⟩ := k0; exact DataW.trod_lt m _ _ _ hm
  have k1 := h1
  have lt1 : ∀ x ∈ p1, x.block < W.heap.size := by obtain ⟨m, hm⟩ := k1; exact DataW.trod_lt m _ _ _ hm
  obtain ⟨a0, rfl, _, _, w0⟩ := open_int Try.underlying3 (hval 0 3 v0 rfl rfl) h0
  obtain ⟨a1, len1, cap1, rfl⟩ := okWide_slice Try.underlying22 (hval 1 22 v1 rfl rfl)
  have hm0 := i64_of_wf w0
  have walk : Calls Try.prog 4 #[.int .i64 a0, .slice a1 len1 cap1] W fun r w' => r = .returned (.bool true) ∧ Below W.heap.size W w' := by
    obtain ⟨fuel, hf⟩ := h1
    rcases ops_open (by simpa [Value.cells] using hf) (by simp only; omega) with hz | ⟨b, off, K, N, S, rfl, hb, hl, hN, hS, hsum, hops⟩
    · subst hz
      exact writes_none a0 a1 cap1 W
    · exact writes_walk a0 b off len1 cap1 K N S W hm0.1 hm0.2 hl hb hN hS hsum hops
  clear hA0
  refine walk.mono fun e W' ⟨he, bel⟩ => ?_
  subst he
  exact ⟨_, rfl, _, _, _, [], _, [], hW', trodAll_mk1 (shut_bool Try.underlying4 _), (trodAll_cons_mk (Below.trod laidOut (by kernel_rfl) (of_decide_eq_true (by kernel_rfl)) k0 bel lt0) (trodAll_cons_mk (Below.trod laidOut (by kernel_rfl) (of_decide_eq_true (by kernel_rfl)) k1 bel lt1) trodAll_mk0)), rfl, bel.frame _, fun h => by cases h⟩
set_option maxRecDepth 100000 in
theorem lifted (os : Os) (started : os.Started) (H : Type) (enc : TypeId × Value → H) (F : Stop.Interp) :
    ReturnsInHanded {} Try.checked os 4 .any ((Rows.OpenSpec.upto Rows.codecWritesSpec).pre6 enc Try.prog Try.f4 Rows.codecWritesUptoRow.domain false) (((Rows.OpenSpec.upto Rows.codecWritesSpec).at F).post enc Try.prog Try.f4 false true false false) := by
  refine returnsInHanded_of_cond (C := Try.checked) (s := Rows.OpenSpec.upto Rows.codecWritesSpec) (k := Rows.uptoSmall) rfl own started (by kernel_rfl) Try.func4
    (OpenSpec.witness (enc := enc) (C := Try.checked) (s := Rows.OpenSpec.upto Rows.codecWritesSpec) (k := Rows.uptoSmall) rfl false ⟨#[], #[.int .i64 0, .slice none 0 0], []⟩ 8 (by kernel_rfl) (by kernel_rfl) (by kernel_rfl)
      (x := ([.lit (.int .i64 0), .nil], [], [])) (by kernel_rfl) rfl (by kernel_rfl)) ?_
  intro W base args ds gs before hval hW _ hk _
  exact contract H enc W base args ds gs before hval hW hk
theorem holds : Rows.CodecWritesUptoSaid :=
  OpenClaim.holds_of_cond 4 Try.f4 rfl rfl rfl rfl rfl rfl rfl ⟨rfl, rfl, rfl, rfl, rfl⟩ rfl rfl rfl rfl rfl (by kernel_rfl) Try.func4 (by kernel_rfl)
    (of_decide_eq_true (by kernel_rfl)) (by unfold Func.isWrapper; first | (rw [if_pos (by decide +kernel)]; kernel_rfl) | (rw [if_neg (by decide +kernel)]; exact ⟨rfl, rfl⟩))
    (fun os started H enc _ F => lifted os started H enc F)
end Go.Proofs.Ytjfoljbjkaahlaa.WritesRow
namespace Go.Proofs.Ytjfoljbjkaahlaa
theorem codecWrites_holds : Rows.CodecWritesUptoSaid := WritesRow.holds
#print axioms codecWrites_holds
end Go.Proofs.Ytjfoljbjkaahlaa
