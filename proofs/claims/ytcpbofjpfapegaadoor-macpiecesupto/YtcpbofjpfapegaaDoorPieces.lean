/-
  MacPieces is true for every input of bulk at most 1048576 (the card: the variable roundWords starts as the program's text lays it): a text has the same sum however it is cut into pieces, wherever one asks, and whatever is written to forks.
-/
import Derived.Test.YtcpbofjpfapegaaDoorPiecesWalk
import Derived.Test.YtcpbofjpfapegaaDoorLaid
import Derived.Test.YtcpbofjpfapegaaDoorBulk
import Derived.Test.YtcpbofjpfapegaaDoorTie
import Derived.Test.YtcpbofjpfapegaaDoorCards
import Derived.SevenTiedAt
import Derived.Deep.DeepHandedRow
import Derived.Deep.Slices
import Derived.Deep.Strs
namespace Go.Proofs.YtcpbofjpfapegaaDoor.MacPieces
open Go.ChangeShapes Go.WideShapes Go.ChangeAt Go.RowKit
open Go.ChangeMaps (open_string shut_string)
open Go.Deep
set_option maxRecDepth 100000 in
set_option maxHeartbeats 4000000 in
theorem pieces_none (a : Option Addr) (cap : Nat) (w : World) (hK : GK w) :
    Calls Tryd.prog 6 #[.slice a 0 cap] w fun e w' => e = .returned (.bool true) ∧ Below w.heap.size w w' := by
  have HK : Hid (GK w) := hK
  clear hK
  have hpos := HK.out.1
  go_enter Tryd.func6, Tryd.ntmps6
  go_wp2_with fail
  refine (new_any w).mono ?_
  rintro e0 w0 ⟨rfl, q0, k0⟩
  have B0 : Below w.heap.size w w0 := k0.below (Nat.le_refl _) (fun _ f => f.elim)
  have HK0 : Hid (GK w0) := HK.out.below B0
  have z0 := B0.size
  go_wp2_with fail
  refine (awake_any w0 HK0.out).mono ?_
  rintro e1 w1 ⟨rfl, B1⟩
  have P1 : PI w w1 w.heap.size fresh (.slice none 0 0) [] := ⟨below_his' q0 B1 q0.lt, Nat.le_refl _, World.ownsRow_nil _ _ _ _, B0.trans (B1.mono (by omega))⟩
  clear q0 k0 B0 HK0 B1 z0
  go_wp2_with fail
  refine wp_loop_rounds 1 ?_
  rw [rounds_succ]
  obtain ⟨D, hD⟩ : ∃ D : ByteArray, D = ⟨(sha ByteArray.empty).toArray⟩ := ⟨_, rfl⟩
  have HP20 : Hid (∀ W : World, PI w W w.heap.size fresh (.slice none 0 0) [] → Calls Tryd.prog 20 #[.pointer (some ⟨w.heap.size, 0, none⟩)] W fun e W' => e = .returned (.string D) ∧ Below W.heap.size W W') := by
    intro W hW
    have := hsum_any w.heap.size _ W hW.his (HK.out.below hW.bel) (by decide)
    rw [show sumOf fresh = sha ByteArray.empty from rfl, ← hD] at this
    exact this
  have HP11 : Hid (∀ W : World, Calls Tryd.prog 11 #[.string ⟨#[]⟩] W fun e W' => e = .returned (.string D) ∧ Below W.heap.size W W') := by
    rw [Hid, hD]; exact fun W => refSum_any ByteArray.empty W (by decide)
  have HP10 : Hid (∀ W : World, PI w W w.heap.size fresh (.slice none 0 0) [] → Calls Tryd.prog 10 #[.string ⟨#[]⟩] W fun e W' => e = .returned (.string D) ∧ Below W.heap.size W W') := by
    rw [Hid, hD]; exact fun W hW => sum_any ByteArray.empty W (HK.out.below hW.bel) (by decide)
  have HP21 : Hid (∀ W : World, PI w W w.heap.size fresh (.slice none 0 0) [] → Calls Tryd.prog 21 #[.pointer (some ⟨w.heap.size, 0, none⟩)] W fun e W' => e = .returned (.int .i64 0) ∧ W' = W) := fun W hW => len_any w.heap.size _ W hW.his
  have HCV : Hid (∀ W : World, (convert 28 9 (.slice none 0 0)).run Tryd.prog W = .ok (.string ⟨#[]⟩) W) := fun W => conv_row (W := W) (base := 0) (bs := []) (World.ownsRow_nil _ _ _ _)
  have hPd := P1.drew
  have cvd := HCV.out
  clear hD P1
  go_wp2_with fail
  go_region_with (first
    | (go_at_call 20; first
      | (refine (HP20.out _ hP6).mono ?_; rintro e7 w7 ⟨rfl, B7⟩; have hP7 := hP6.below B7; clear B7)
      | (refine (HP20.out _ hPd).mono ?_; rintro e5 w5 ⟨rfl, B5⟩; have hP5 := hPd.below B5; clear B5))
    | (go_at_call 10; refine (HP10.out _ hP5).mono ?_; rintro e6 w6 ⟨rfl, B6⟩; have hP6 := hP5.below B6; clear B6)
    | (go_at_call 11; refine (HP11.out _).mono ?_; rintro e8 w8 ⟨rfl, B8⟩; have hP8 := hP7.below B8; clear B8)
    | (go_at_call 21; refine (HP21.out _ hP8).mono ?_; rintro e9 w9 ⟨rfl, rfl⟩))
  all_goals
    go_wp2_with fail
    go_ret
    exact ⟨rfl, hP8.bel⟩
theorem cells34 : Tryd.prog.cellsOf 34 = 3 := by kernel_rfl
theorem cells9 : Tryd.prog.cellsOf 9 = 1 := by kernel_rfl
theorem cells4 : Tryd.prog.cellsOf 4 = 1 := by kernel_rfl
theorem all_le {H : Type} {D : Nat → DataW H} {T : Nat → ByteArray} : ∀ {len : Nat}, (∀ i, i < len → (T i).size + 4 ≤ Rows.uptoBulk (D i)) → (allTo T len).length ≤ Rows.uptoBulkAll ((List.range len).map D)
  | 0, _ => Nat.le_refl _
  | k + 1, h => by
    have h1 := all_le (len := k) (fun i hi => h i (by omega))
    have h2 := h k (by omega)
    have e : (T k).data.toList.length = (T k).size := by simp
    rw [List.range_succ, List.map_append, bulks.append, allTo, List.length_append]
    simp only [List.map_cons, List.map_nil, Rows.uptoBulkAll]
    omega
theorem pieces_open {H : Type} {enc : TypeId × Value → H} {W : World} {a : Option Addr} {len cap fuel : Nat} {x : DataW H × List MemPlace}
    (hf : DataW.trod enc Tryd.prog W 0 (fun _ => true) true fuel 30 [.slice a len cap] = some x) (hsz : Rows.uptoBulk x.1 ≤ 1048576) :
    len = 0 ∨ ∃ (b off : Nat) (T : Nat → ByteArray) (F A : Nat → Bool), a = some ⟨b, off, none⟩ ∧ b < W.heap.size ∧ len ≤ 9223372036854775807 ∧ (allTo T len).length ≤ 1048576 ∧
      ∀ j, j < len → W.cell? ⟨b, off + j * 3, none⟩ = some (.string (T j)) ∧ W.cell? ⟨b, off + j * 3 + 1, none⟩ = some (.bool (F j)) ∧ W.cell? ⟨b, off + j * 3 + 2, none⟩ = some (.bool (A j)) := by
  rcases open_slice Tryd.underlying30 hf with ⟨hcs, _⟩ | ⟨y, l, c, m, n, D, Pl, hcs, _, hl, hm, hmm, hxd, hx⟩
  · simp at hcs
    exact Or.inl hcs.2.1
  · simp only [List.cons.injEq, Value.slice.injEq, and_true] at hcs
    obtain ⟨rfl, rfl, rfl⟩ := hcs
    by_cases h0 : len = 0
    · exact Or.inl h0
    right
    have hmm' : m = cap := by simpa using hmm
    have hall : Rows.uptoBulkAll ((List.range len).map D) ≤ 1048576 := by
      rw [hxd] at hsz
      have := bulks.slice_elems ((List.range len).map D) ((List.range (m - len)).map fun j => D (len + j))
      simp only at hsz
      omega
    have each : ∀ i, i < len → ∃ q : ByteArray × Bool × Bool, W.cell? (y.add (i * 3)) = some (.string q.1) ∧ W.cell? (y.add (i * 3 + 1)) = some (.bool q.2.1) ∧ W.cell? (y.add (i * 3 + 2)) = some (.bool q.2.2) ∧ q.1.size + 4 ≤ Rows.uptoBulk (D i) := by
      intro i hi
      obtain ⟨cs', h1, h2⟩ := hx i (by omega)
      rw [cells34] at h1
      obtain ⟨_, hlen, hcell⟩ := World.cells?_some h1
      obtain ⟨y0, y1, y2, k, hD, _, g0, g1, g2⟩ := trod_struct3 Tryd.underlying34 h2
      match cs', hlen with
      | [v0, v1, v2], _ =>
        simp [cells9, cells4] at g0 g1 g2
        obtain ⟨a0, e0, f0, _⟩ := DataW.trod_string Tryd.underlying9 g0
        obtain ⟨a1, e1, f1⟩ := DataW.trod_bool Tryd.underlying4 g1
        obtain ⟨a2, e2, f2⟩ := DataW.trod_bool Tryd.underlying4 g2
        simp at e0 e1 e2
        subst e0 e1 e2
        have hDi : D i = .agg [y0.1, y1.1, y2.1] := by have := congrArg Prod.fst hD; simpa using this
        have hbk : a0.size + 4 ≤ Rows.uptoBulk (D i) := by
          have e : a0.data.toList.length = a0.size := by simp
          rw [hDi, f0, f1, f2]
          simp only [Rows.uptoBulk, Rows.uptoBulkAll]
          omega
        have c0 := hcell 0 (by omega)
        have c1 := hcell 1 (by omega)
        have c2 := hcell 2 (by omega)
        rw [add_add] at c0 c1 c2
        exact ⟨(a0, a1, a2), by simpa using c0, by simpa using c1, by simpa using c2, hbk⟩
    obtain ⟨q, hq⟩ := choose_lt each
    obtain ⟨b, off, spot⟩ := y
    have hs0 := (hq 0 (by omega)).1
    have hspot : spot = none := by simpa [Addr.add] using World.cell?_spot hs0
    subst hspot
    refine ⟨b, off, fun i => (q i).1, fun i => (q i).2.1, fun i => (q i).2.2, rfl, ?_, by unfold maxLen at hm; omega, ?_, fun j hj => ?_⟩
    · have := World.block_lt_of_cell? W _ hs0
      simpa [Addr.add] using this
    · have := all_le (D := D) (T := fun i => (q i).1) (len := len) (fun i hi => (hq i hi).2.2.2)
      omega
    · obtain ⟨r0, r1, r2, _⟩ := hq j hj
      have ea : ∀ i, (⟨b, off, none⟩ : Addr).add i = ⟨b, off + i, none⟩ := fun i => by by_cases hi0 : i = 0 <;> simp [Addr.add, hi0]
      rw [ea] at r0 r1 r2
      exact ⟨r0, by rw [Nat.add_assoc]; exact r1, by rw [Nat.add_assoc]; exact r2⟩
theorem contract (H : Type) (enc : TypeId × Value → H) (W : World) (base : Nat) (args : Array Value) (ds gs : List (DataW H)) (before : List MemPlace)
    (hval : ∀ (j : Nat) t v, Tryd.f6.params[j]? = some t → args[j]? = some v → Value.okWide Tryd.prog W .any base t v)
    (hW : DataW.Whole enc Tryd.prog Tryd.f6.params.toList Rows.macPiecesSpec.vars false W args.toList ds gs before) (hk : Rows.uptoSmall H (ds ++ gs) = true) (hL : laidMetH Tryd.prog [("atrium/mac.roundWords", Rows.laid_atrium_mac_roundWords)] W) :
    Calls Tryd.prog 6 args W fun e W' => ∃ v, e = .returned v ∧ Rows.macPiecesSpec.post enc Tryd.prog Tryd.f6 false true false false W args v W' := by
  have hW' := hW
  obtain ⟨p, q, hA0, hV, rfl, hfz, hnd⟩ := hW
  have hA : DataW.TrodAll enc Tryd.prog W 0 (fun _ => true) true Tryd.f6.params.toList args.toList ds p := hA0
  rw [Tryd.params6] at hA hval
  obtain ⟨v0, vs0, d0, ds0, p0, q0, hargs, rfl, rfl, h0, r0⟩ := trodAll_cons hA
  obtain ⟨rfl, rfl, rfl⟩ := trodAll_nil r0
  obtain rfl : args = #[v0] := by cases args; simp_all
  obtain ⟨rfl, rfl⟩ := trodVars_none hV
  have hbulk := bulks.bound hk
  simp only [List.append_nil, Rows.uptoBulkAll] at hbulk
  have k0 := h0
  have lt0 : ∀ x ∈ p0, x.block < W.heap.size := by obtain ⟨m, hm⟩ := k0; exact DataW.trod_lt m _ _ _ hm
  obtain ⟨a0, len0, cap0, rfl⟩ := okWide_slice Tryd.underlying30 (hval 0 30 v0 rfl rfl)
  have walk : Calls Tryd.prog 6 #[.slice a0 len0 cap0] W fun r w' => r = .returned (.bool true) ∧ Below W.heap.size W w' := by
    obtain ⟨fuel, hf⟩ := h0
    rcases pieces_open (by simpa [Value.cells] using hf) (by simp only; omega) with hz | ⟨b, off, T, F, A, rfl, hb, hl, hs, hops⟩
    · subst hz
      exact pieces_none a0 cap0 W (gk_of hL)
    · exact pieces_walk b off len0 cap0 T F A W (gk_of hL) hl hb hs hops
  clear hA0
  refine walk.mono fun e W' ⟨he, bel⟩ => ?_
  subst he
  exact ⟨_, rfl, _, _, _, [], _, [], hW', trodAll_mk1 (shut_bool Tryd.underlying4 _), (trodAll_cons_mk (Below.trod laidOut (by kernel_rfl) (of_decide_eq_true (by kernel_rfl)) k0 bel lt0) trodAll_mk0), rfl, bel.frame _, fun h => by cases h⟩
set_option maxRecDepth 100000 in
theorem lifted (os : Os) (started : os.Started) (H : Type) (enc : TypeId × Value → H) (F : Stop.Interp) :
    ReturnsInHanded {} Tryd.checked os 6 .any ((Rows.OpenSpec.upto Rows.macPiecesSpec).preRow enc Tryd.prog Tryd.f6 Rows.macPiecesUptoRow.domain false Rows.macPiecesUptoRow.laid) (((Rows.OpenSpec.upto Rows.macPiecesSpec).at F).post enc Tryd.prog Tryd.f6 false true false false) := by
  have hx : DataW.whole enc Tryd.prog (({ World.holding Tryd.prog os ⟨#[], #[], []⟩ with heap := (World.holding Tryd.prog os ⟨#[], #[], []⟩).heap.modify 0 relay } : World).forCall (fun _ _ => 0) ⟨#[], #[.slice none 0 0], []⟩).memory Tryd.f6.params.toList Rows.macPiecesSpec.vars false #[.slice none 0 0].toList 8 = some ([.nil], [], []) := by kernel_rfl
  refine returnsInHanded_of_row (C := Tryd.checked) (s := Rows.OpenSpec.upto Rows.macPiecesSpec) own started (by kernel_rfl) Tryd.func6
    (witness_row_at (enc := enc) (C := Tryd.checked) false ({ World.holding Tryd.prog os ⟨#[], #[], []⟩ with heap := (World.holding Tryd.prog os ⟨#[], #[], []⟩).heap.modify 0 relay } : World) #[.slice none 0 0] rfl (by kernel_rfl) (by kernel_rfl) (by kernel_rfl)
      (OpenSpec.preRow_of_cond 8 hx (by kernel_rfl) (fun k hk => by cases hk; kernel_rfl) (by kernel_rfl) (laidWorld_met os _))) ?_
  intro W base args ds gs before hval hW hcond1 hcond2 hcond3 hL _ _
  exact contract H enc W base args ds gs before hval hW (by first | exact hcond1 _ rfl | exact hcond2 _ rfl | exact hcond3 _ rfl) hL
theorem said : Rows.MacPiecesUptoSaid :=
  OpenClaim.holds_of_cond 6 Tryd.f6 rfl rfl rfl rfl rfl rfl rfl ⟨rfl, rfl, rfl, rfl, rfl⟩ rfl rfl rfl rfl rfl (by kernel_rfl) Tryd.func6 (by kernel_rfl)
    (of_decide_eq_true (by kernel_rfl)) (by unfold Func.isWrapper; first | (rw [if_pos (by decide +kernel)]; kernel_rfl) | (rw [if_neg (by decide +kernel)]; exact ⟨rfl, rfl⟩))
    (fun os started H enc _ F => by rw [OpenClaim.pre_eq_preRow]; exact lifted os started H enc F)
theorem plain (f : FuncId) (fn : Func) (hf : Tryd.pinned.checked.prog.funcNamed "atrium/atriumlaw04.MacPieces" = some f) (hfn : Tryd.pinned.checked.prog.funcs[f]? = some fn) :
    false = Tryd.pinned.checked.prog.looks [] ∧ ∀ (j : Nat) t, fn.params[j]? = some t → Tryd.pinned.checked.prog.wantsStandIn t = false := by
  obtain rfl : f = 6 := Option.some.inj ((show Tryd.prog.funcNamed "atrium/atriumlaw04.MacPieces" = some 6 by kernel_rfl).symm.trans hf) |>.symm
  obtain rfl : fn = Tryd.f6 := (Option.some.inj (Tryd.func6.symm.trans hfn)).symm
  refine ⟨by kernel_rfl, fun j t ht => ?_⟩
  rw [Tryd.params6] at ht
  have ht' : t = 30 := by simpa using Array.mem_of_getElem? ht
  rcases ht' with rfl
  · exact (show Tryd.prog.wantsStandIn 30 = false by kernel_rfl)
theorem card : Rows.MacPiecesUptoCardSaid :=
  Claim7.holds_tied_plain_at .later [] _ _ _ _ said (fun _ h => by cases h) (by kernel_rfl) (fun _ h => by cases h) macPiecesUpto_row_tie rfl ⟨rfl, rfl⟩ (by kernel_rfl) rfl plain (by kernel_rfl)
end Go.Proofs.YtcpbofjpfapegaaDoor.MacPieces
namespace Go.Proofs.YtcpbofjpfapegaaDoor
theorem macPieces_holds : Rows.MacPiecesUptoCardSaid := MacPieces.card
#print axioms macPieces_holds
end Go.Proofs.YtcpbofjpfapegaaDoor
