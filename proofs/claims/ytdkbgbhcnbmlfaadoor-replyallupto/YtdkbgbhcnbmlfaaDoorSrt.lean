/-
  Builder's WriteString and sorted keys at this program; the phrases of replies, and the contracts of phrases and of Words.
-/
import Derived.Test.YtdkbgbhcnbmlfaaDoorKps
import Derived.Maps.OwnOps
import Derived.Maps.OwnSet
import Derived.Maps.Views
namespace Go.Proofs
open Go.Shelf
def Tryd.lays166_ren : Go.Shelf.Ren := ⟨fun | 166 => 24 | 240 => 31 | 276 => 42 | n => n, fun | 37 => 35 | 70 => 49 | 72 => 51 | 75 => 53 | 80 => 57 | 164 => 74 | n => n, fun | n => n⟩
theorem Tryd.lays166 : Go.Proofs.Lays.n166 Tryd.prog Tryd.lays166_ren := {
  mixed := by kernel_rfl
  f166 := Tryd.func24.trans (congrArg some (by kernel_rfl))
  f240 := Tryd.func31.trans (congrArg some (by kernel_rfl))
  f276 := Tryd.func42.trans (congrArg some (by kernel_rfl))
  t0 := Tryd.underlying0
  a0 := Tryd.isAgg0
  z0 := Tryd.sizeOf0
  v0 := Tryd.zeroValue0
  t3 := Tryd.underlying3
  a3 := Tryd.isAgg3
  z3 := Tryd.sizeOf3
  v3 := Tryd.zeroValue3
  t4 := Tryd.underlying4
  a4 := Tryd.isAgg4
  z4 := Tryd.sizeOf4
  v4 := Tryd.zeroValue4
  t9 := Tryd.underlying9
  a9 := Tryd.isAgg9
  z9 := Tryd.sizeOf9
  v9 := Tryd.zeroValue9
  t20 := Tryd.underlying20
  a20 := Tryd.isAgg20
  z20 := Tryd.sizeOf20
  v20 := Tryd.zeroValue20
  t37 := Tryd.underlying35
  a37 := Tryd.isAgg35
  z37 := Tryd.sizeOf35
  v37 := Tryd.zeroValue35
  t70 := Tryd.underlying49
  a70 := Tryd.isAgg49
  z70 := Tryd.sizeOf49
  v70 := Tryd.zeroValue49
  t72 := Tryd.underlying51
  a72 := Tryd.isAgg51
  z72 := Tryd.sizeOf51
  v72 := Tryd.zeroValue51
  t75 := Tryd.underlying53
  a75 := Tryd.isAgg53
  z75 := Tryd.sizeOf53
  v75 := Tryd.zeroValue53
  t164 := Tryd.underlying74
  a164 := Tryd.isAgg74
  z164 := Tryd.sizeOf74
  v164 := Tryd.zeroValue74 }
theorem Tryd.Builder_Extra_166 : Builder.Extra Tryd.prog Tryd.lays166_ren := {
  sizeBuilder := by kernel_rfl
  liesBuilder := by kernel_rfl
  t5 := Tryd.underlying5
  a5 := Tryd.isAgg5
  z5 := Tryd.sizeOf5
  v5 := Tryd.zeroValue5
  infoByte := by kernel_rfl
  cellsByte := by kernel_rfl
  sizeByte := by kernel_rfl
  neB5 := by decide }
open Go.RowKit in
theorem Tryd.Builder_WriteString (B b : Nat) (bs : List Value) (s : ByteArray) (w : World) (h : Lib.IsBuilder 51 5 B b bs w) (hlen : bs.length + s.size ≤ 140737488355328) (hBw : B ≤ w.heap.size) :
    Calls Tryd.prog 24 #[.pointer (some ⟨b, 0, none⟩), .string s] w fun e w' => e = .returned (.tuple #[.int .i64 s.size, .nilIface]) ∧ (Lib.BuilderAt 51 5 B b (.pointer (some ⟨b, 0, none⟩)) (bs ++ Lib.strCells s) w' ∧ Below B w w') := Any.Builder_WriteString Tryd.lays166 Tryd.Builder_Extra_166 B b bs s w h hlen hBw
end Go.Proofs
namespace Go.Proofs.YtdkbgbhcnbmlfaaDoor
open Go.RowKit Go.WideMaps Go.Maps Go.Sort Go.Shelf
/-! ### Sorted keys -/
theorem sortsA (m : Nat) : AnyZI.SortsIn Tryd.prog Tryd.sortedA_ren Fence.wide m :=
  ⟨fun blk off cap ss W hH hblk hsz => callsIn_wide.2 (AnyM.slices_Sort_int Tryd.sortA blk off cap ss W hH hblk hsz),
   fun p cap W => callsIn_wide.2 (AnyM.slices_Sort_int_none Tryd.sortA p cap W)⟩
theorem keys_any (mb : Option Nat) (W : World) : Calls Tryd.prog 45 #[.map mb] W fun e w' => e = .returned (.func (.func 57) #[] #[.pointer (some ⟨W.heap.size, 0, none⟩)]) ∧ w' = W.alloc (.cells #[.map mb] 46) :=
  (callsIn_wide (n := 5)).1 (AnyZI.keys_in Tryd.keysA Fence.wide 5 trivial rfl mb W)
set_option maxHeartbeats 1000000 in
theorem sorted_any {H : Type} (b nn : Nat) (D0 : DataW H) (R : Value → Option (DataW H × List MemPlace)) (w : World) (hown : w.ownsMap Tryd.prog 3 R b nn D0) (hmax : Maps.size D0 ≤ maxLen) (hbytes : Maps.size D0 * 8 ≤ 140737488355328) :
    Calls Tryd.prog 44 #[.func (.func 57) #[] #[.pointer (some ⟨w.heap.size, 0, none⟩)]] (w.alloc (.cells #[.map (some b)] 46)) fun e w' => ∃ (v : Value) (ss : List Int), e = .returned v ∧ ss.Perm (intKeys D0) ∧
      w'.ownsRow (w.heap.size + 1) 3 1 v ss.length ((ss.mergeSort (fun x y => decide (x ≤ y))).map encZ) ∧ Below w.heap.size w w' := by
  refine (callsIn_wide (n := 5)).1 ?_
  have hbl := hown.lt
  have hseq : SeqGives Fence.wide 2 Tryd.prog 57 #[.pointer (some ⟨w.heap.size, 0, none⟩)] encZ (fun ss => ss.Perm (intKeys D0)) (Maps.size D0) (w.alloc (.cells #[.map (some b)] 46)) :=
    AnyZI.keys_gives (ρ := Tryd.keysA_ren) { Tryd.keysA with } Fence.wide _ trivial rfl (by omega) w.heap.size b nn D0 _ (by simp) (by simp) (by
      obtain ⟨es, clock, hb, Ft, hs, hD⟩ := hown
      exact ⟨es, clock, (Below.heap_alloc _ _ b hbl).trans hb, Ft, hs, hD⟩)
  have cS := AnyZI.sorted_in Tryd.sortedA Fence.wide 5 trivial trivial trivial trivial rfl (by omega) (sortsA _) (enters_of Tryd.func56 (by kernel_rfl) rfl) 57 #[.pointer (some ⟨w.heap.size, 0, none⟩)] trivial (enters_of Tryd.func57 (by kernel_rfl) rfl) _ _ hmax hbytes _ hseq
  change CallsIn _ _ Tryd.prog 44 _ _ _ at cS
  refine cS.mono ?_
  rintro e w' ⟨v, ss, rfl, hS, hrow, hnil, hb⟩
  exact ⟨v, ss, rfl, hS, by have h2 := hrow; rw [show (w.alloc (.cells #[.map (some b)] 46)).heap.size = w.heap.size + 1 by simp] at h2; exact h2, ((Below.refl _ w).alloc (Nat.le_refl _) _).trans (hb.mono (by simp))⟩
theorem sorted_of {ss L : List Int} (h : ss.Perm L) (hs : L.Pairwise (fun x y => decide (x ≤ y) = true)) : ss.mergeSort (fun x y => decide (x ≤ y)) = L := by
  have h1 : (ss.mergeSort (fun x y => decide (x ≤ y))).Perm L := (List.mergeSort_perm ss _).trans h
  have h2 : (ss.mergeSort (fun x y => decide (x ≤ y))).Pairwise (fun x y => decide (x ≤ y) = true) := List.pairwise_mergeSort (fun a b c hab hbc => by simp only [decide_eq_true_eq] at *; omega) (fun a b => by simp only [Bool.or_eq_true, decide_eq_true_eq]; omega) ss
  exact h1.eq_of_pairwise (fun a b _ _ hab hba => by simp only [decide_eq_true_eq] at hab hba; omega) h2 hs
/-! ### The phrases -/
def phR (v : Value) : Option (DataW Unit × List MemPlace) := match v with
  | .agg a => (match a.toList with
    | [.string s] => some (.lit (.string s.data.toList), [])
    | _ => none)
  | _ => none
theorem phR_inv {v : Value} {l : List UInt8} {ps : List MemPlace} (h : phR v = some (.lit (.string l), ps)) : v = .agg #[.string (mkB l)] := by
  unfold phR at h
  split at h
  · rename_i a
    split at h
    · rename_i s hs
      simp only [Option.some.injEq, Prod.mk.injEq, DataW.lit.injEq, Lit.string.injEq] at h
      rw [← h.1, list_mkB]
      congr 1
      exact Array.toList_inj.1 hs
    · cases h
  · cases h
def phD : List (Int × ByteArray) → DataW Unit
  | [] => .map []
  | (k, s) :: r => (phD r).put (.int .i64 k) (.lit (.string s.data.toList))
def phF : List (Int × ByteArray) → Int → Option ByteArray
  | [], _ => none
  | (k, s) :: r, z => if z = k then some s else phF r z
theorem key_lit (z : Int) : WideAt.IsKeyLit (.int .i64 z) := by first | trivial | exact ⟨_, _, rfl⟩ | simp [WideAt.IsKeyLit]
theorem phD_map : ∀ l, Go.Maps.IsMap (phD l)
  | [] => tidy_empty.isMap
  | (k, s) :: r => by
    have h := phD_map r
    rw [phD]
    cases hq : phD r with
    | map es => exact ⟨_, rfl⟩
    | _ => rw [hq] at h; obtain ⟨_, h⟩ := h; cases h
theorem phD_at (zd : DataW Unit) (z : Int) : ∀ l, (phD l).atKey (.int .i64 z) zd = match phF l z with | some s => .lit (.string s.data.toList) | none => zd
  | [] => rfl
  | (k, s) :: r => by
    rw [phD, phF]
    by_cases e : z = k
    · rw [if_pos e, e, atKey_put_same (phD_map r) (key_lit k)]
    · rw [if_neg e, atKey_put_other (fun q => e (by cases q; rfl)), phD_at zd z r]
theorem phD_has (z : Int) : ∀ l, has (phD l) (.int .i64 z) = (phF l z).isSome
  | [] => rfl
  | (k, s) :: r => by
    rw [phD, phF]
    by_cases e : z = k
    · rw [if_pos e, e, has_put_same (phD_map r) (key_lit k)]
      rfl
    · rw [if_neg e, has_put_other (fun q => e (by cases q; rfl)), phD_has z r]
def phL : List (Int × ByteArray) := [(507, ⟨#[73, 110, 115, 117, 102, 102, 105, 99, 105, 101, 110, 116, 32, 83, 116, 111, 114, 97, 103, 101]⟩), (503, ⟨#[83, 101, 114, 118, 105, 99, 101, 32, 85, 110, 97, 118, 97, 105, 108, 97, 98, 108, 101]⟩), (500, ⟨#[73, 110, 116, 101, 114, 110, 97, 108, 32, 83, 101, 114, 118, 101, 114, 32, 69, 114, 114, 111, 114]⟩), (431, ⟨#[82, 101, 113, 117, 101, 115, 116, 32, 72, 101, 97, 100, 101, 114, 32, 70, 105, 101, 108, 100, 115, 32, 84, 111, 111, 32, 76, 97, 114, 103, 101]⟩), (429, ⟨#[84, 111, 111, 32, 77, 97, 110, 121, 32, 82, 101, 113, 117, 101, 115, 116, 115]⟩), (413, ⟨#[67, 111, 110, 116, 101, 110, 116, 32, 84, 111, 111, 32, 76, 97, 114, 103, 101]⟩), (405, ⟨#[77, 101, 116, 104, 111, 100, 32, 78, 111, 116, 32, 65, 108, 108, 111, 119, 101, 100]⟩), (404, ⟨#[78, 111, 116, 32, 70, 111, 117, 110, 100]⟩), (401, ⟨#[85, 110, 97, 117, 116, 104, 111, 114, 105, 122, 101, 100]⟩), (400, ⟨#[66, 97, 100, 32, 82, 101, 113, 117, 101, 115, 116]⟩), (204, ⟨#[78, 111, 32, 67, 111, 110, 116, 101, 110, 116]⟩), (201, ⟨#[67, 114, 101, 97, 116, 101, 100]⟩), (200, ⟨#[79, 75]⟩)]
def sts : List Int := [200, 201, 204, 400, 401, 404, 405, 413, 429, 431, 500, 503, 507]
theorem phL_keys : intKeys (phD phL) = sts := by decide +kernel
theorem phL_size : Maps.size (phD phL) = 13 := by decide +kernel
theorem sts_sorted : sts.Pairwise (fun x y => decide (x ≤ y) = true) := by decide
/-- A status's words. -/
def wordsR (z : Int) : ByteArray := (phF phL z).getD ⟨#[]⟩
theorem mlaw3 : Keyed Tryd.prog 3 := int_keyed Tryd.underlying3
theorem wf64 {z : Int} (h0 : -9223372036854775808 ≤ z) (h1 : z ≤ 9223372036854775807) : (Lit.int .i64 z).wf = true := by
  simp [Lit.wf, IntKind.min, IntKind.max, IntKind.signed, IntKind.bits]
  omega
theorem key3 {z : Int} (h0 : -9223372036854775808 ≤ z) (h1 : z ≤ 9223372036854775807) : keyOf Tryd.prog 3 (.int .i64 z) = some (.int .i64 z) := keyOf_int_mk Tryd.underlying3 (wf64 h0 h1)
theorem mzeroP (w : World) : (zeroValue 44).run Tryd.prog w = .ok (.agg #[.string ⟨#[]⟩]) w := by kernel_rfl
theorem ph_lookup {w : World} {b n : Nat} (h : w.ownsMap Tryd.prog 3 phR b n (phD phL)) {z : Int} (h0 : -9223372036854775808 ≤ z) (h1 : z ≤ 9223372036854775807) : (Instr.lookup 46 (.map (some b)) (.int .i64 z) false).run Tryd.prog w = .ok (.agg #[.string (wordsR z)]) w := by
  obtain ⟨v, ps, hrun, hv⟩ := h.lookup mlaw3 Tryd.underlying46 (mzeroP w) (zd := .lit (.string [])) (zp := []) rfl (key3 h0 h1)
  rw [phD_at] at hv
  rw [hrun]
  unfold wordsR
  cases hq : phF phL z with
  | none =>
    rw [hq] at hv
    rw [phR_inv hv]
    rfl
  | some s =>
    rw [hq] at hv
    rw [phR_inv hv, list_mkB]
    rfl
theorem ph_look_ok {w : World} {b n : Nat} (h : w.ownsMap Tryd.prog 3 phR b n (phD phL)) {z : Int} (h0 : -9223372036854775808 ≤ z) (h1 : z ≤ 9223372036854775807) : (Instr.lookup 46 (.map (some b)) (.int .i64 z) true).run Tryd.prog w = .ok (.tuple #[.agg #[.string (wordsR z)], .bool (phF phL z).isSome]) w := by
  obtain ⟨v, ps, hrun, hv⟩ := h.look_ok mlaw3 Tryd.underlying46 (mzeroP w) (zd := .lit (.string [])) (zp := []) rfl (key3 h0 h1)
  rw [phD_at] at hv
  rw [hrun, phD_has]
  unfold wordsR
  cases hq : phF phL z with
  | none =>
    rw [hq] at hv
    rw [phR_inv hv]
    rfl
  | some s =>
    rw [hq] at hv
    rw [phR_inv hv, list_mkB]
    rfl
theorem ph_put {w : World} {b n : Nat} {D : DataW Unit} (h : w.ownsMap Tryd.prog 3 phR b n D) (hn : n < 100) (z : Int) (h0 : -9223372036854775808 ≤ z) (h1 : z ≤ 9223372036854775807) (s : ByteArray) : ∃ w', (Instr.mapUpdate 46 (.map (some b)) (.int .i64 z) (.agg #[.string s])).run Tryd.prog w = .ok () w' ∧ w'.ownsMap Tryd.prog 3 phR b (n + 1) (D.put (.int .i64 z) (.lit (.string s.data.toList))) ∧ w.grownBy w' (some b) :=
  h.update mlaw3 Tryd.underlying46 (by unfold maxLen; omega) (key3 h0 h1) rfl
set_option maxRecDepth 20000 in
set_option maxHeartbeats 8000000 in
theorem phrases_any (w : World) : Calls Tryd.prog 22 #[] w fun e w' => e = .returned (.map (some w.heap.size)) ∧ w'.ownsMap Tryd.prog 3 phR w.heap.size 13 (phD phL) ∧ Below w.heap.size w w' := by
  have hmm := @run_makeMap Tryd.prog
  have h0 : (w.alloc (.map #[] 0)).ownsMap Tryd.prog 3 phR w.heap.size 0 (.map []) := World.ownsMap_made _ _ _ _
  have b0 : Below w.heap.size w (w.alloc (.map #[] 0)) := (Below.refl _ _).alloc (Nat.le_refl _) _
  obtain ⟨w1, r1, o1, g1⟩ := ph_put h0 (by decide) 200 (by decide) (by decide) ⟨#[79, 75]⟩
  have b1 : Below w.heap.size w w1 := b0.grown g1 b0.size (fun j hj => by cases hj; exact Nat.le_refl _)
  obtain ⟨w2, r2, o2, g2⟩ := ph_put o1 (by decide) 201 (by decide) (by decide) ⟨#[67, 114, 101, 97, 116, 101, 100]⟩
  have b2 : Below w.heap.size w w2 := b1.grown g2 b1.size (fun j hj => by cases hj; exact Nat.le_refl _)
  obtain ⟨w3, r3, o3, g3⟩ := ph_put o2 (by decide) 204 (by decide) (by decide) ⟨#[78, 111, 32, 67, 111, 110, 116, 101, 110, 116]⟩
  have b3 : Below w.heap.size w w3 := b2.grown g3 b2.size (fun j hj => by cases hj; exact Nat.le_refl _)
  obtain ⟨w4, r4, o4, g4⟩ := ph_put o3 (by decide) 400 (by decide) (by decide) ⟨#[66, 97, 100, 32, 82, 101, 113, 117, 101, 115, 116]⟩
  have b4 : Below w.heap.size w w4 := b3.grown g4 b3.size (fun j hj => by cases hj; exact Nat.le_refl _)
  obtain ⟨w5, r5, o5, g5⟩ := ph_put o4 (by decide) 401 (by decide) (by decide) ⟨#[85, 110, 97, 117, 116, 104, 111, 114, 105, 122, 101, 100]⟩
  have b5 : Below w.heap.size w w5 := b4.grown g5 b4.size (fun j hj => by cases hj; exact Nat.le_refl _)
  obtain ⟨w6, r6, o6, g6⟩ := ph_put o5 (by decide) 404 (by decide) (by decide) ⟨#[78, 111, 116, 32, 70, 111, 117, 110, 100]⟩
  have b6 : Below w.heap.size w w6 := b5.grown g6 b5.size (fun j hj => by cases hj; exact Nat.le_refl _)
  obtain ⟨w7, r7, o7, g7⟩ := ph_put o6 (by decide) 405 (by decide) (by decide) ⟨#[77, 101, 116, 104, 111, 100, 32, 78, 111, 116, 32, 65, 108, 108, 111, 119, 101, 100]⟩
  have b7 : Below w.heap.size w w7 := b6.grown g7 b6.size (fun j hj => by cases hj; exact Nat.le_refl _)
  obtain ⟨w8, r8, o8, g8⟩ := ph_put o7 (by decide) 413 (by decide) (by decide) ⟨#[67, 111, 110, 116, 101, 110, 116, 32, 84, 111, 111, 32, 76, 97, 114, 103, 101]⟩
  have b8 : Below w.heap.size w w8 := b7.grown g8 b7.size (fun j hj => by cases hj; exact Nat.le_refl _)
  obtain ⟨w9, r9, o9, g9⟩ := ph_put o8 (by decide) 429 (by decide) (by decide) ⟨#[84, 111, 111, 32, 77, 97, 110, 121, 32, 82, 101, 113, 117, 101, 115, 116, 115]⟩
  have b9 : Below w.heap.size w w9 := b8.grown g9 b8.size (fun j hj => by cases hj; exact Nat.le_refl _)
  obtain ⟨w10, r10, o10, g10⟩ := ph_put o9 (by decide) 431 (by decide) (by decide) ⟨#[82, 101, 113, 117, 101, 115, 116, 32, 72, 101, 97, 100, 101, 114, 32, 70, 105, 101, 108, 100, 115, 32, 84, 111, 111, 32, 76, 97, 114, 103, 101]⟩
  have b10 : Below w.heap.size w w10 := b9.grown g10 b9.size (fun j hj => by cases hj; exact Nat.le_refl _)
  obtain ⟨w11, r11, o11, g11⟩ := ph_put o10 (by decide) 500 (by decide) (by decide) ⟨#[73, 110, 116, 101, 114, 110, 97, 108, 32, 83, 101, 114, 118, 101, 114, 32, 69, 114, 114, 111, 114]⟩
  have b11 : Below w.heap.size w w11 := b10.grown g11 b10.size (fun j hj => by cases hj; exact Nat.le_refl _)
  obtain ⟨w12, r12, o12, g12⟩ := ph_put o11 (by decide) 503 (by decide) (by decide) ⟨#[83, 101, 114, 118, 105, 99, 101, 32, 85, 110, 97, 118, 97, 105, 108, 97, 98, 108, 101]⟩
  have b12 : Below w.heap.size w w12 := b11.grown g12 b11.size (fun j hj => by cases hj; exact Nat.le_refl _)
  obtain ⟨w13, r13, o13, g13⟩ := ph_put o12 (by decide) 507 (by decide) (by decide) ⟨#[73, 110, 115, 117, 102, 102, 105, 99, 105, 101, 110, 116, 32, 83, 116, 111, 114, 97, 103, 101]⟩
  have b13 : Below w.heap.size w w13 := b12.grown g13 b12.size (fun j hj => by cases hj; exact Nat.le_refl _)
  have HO : Hid _ := o13
  have HB : Hid _ := b13
  clear o1 g1 b1 o2 g2 b2 o3 g3 b3 o4 g4 b4 o5 g5 b5 o6 g6 b6 o7 g7 b7 o8 g8 b8 o9 g9 b9 o10 g10 b10 o11 g11 b11 o12 g12 b12 o13 g13 b13 h0 b0
  go_enter Tryd.func22, Tryd.ntmps22
  go_wp2_with fail
  go_ret
  exact ⟨rfl, HO.out, HB.out⟩
theorem field_ph (s : ByteArray) (W : World) : (Instr.field 44 (.agg #[.string s]) 0).run Tryd.prog W = .ok (.string s) W := by kernel_rfl
set_option maxRecDepth 20000 in
theorem words_any (z : Int) (h0 : -9223372036854775808 ≤ z) (h1 : z ≤ 9223372036854775807) (w : World) : Calls Tryd.prog 20 #[.int .i64 z] w fun e w' => e = .returned (.string (wordsR z)) ∧ Below w.heap.size w w' := by
  have H1 : Hid (∀ W : World, _) := fun W => phrases_any W
  have HL : Hid (∀ (W : World) (b : Nat), W.ownsMap Tryd.prog 3 phR b 13 (phD phL) → _) := fun W b h => ph_lookup h h0 h1
  obtain ⟨s, hs⟩ : ∃ s, wordsR z = s := ⟨_, rfl⟩
  rw [hs] at HL ⊢
  clear hs
  go_enter Tryd.func20, Tryd.ntmps20
  go_wp2_with fail
  refine (H1.out _).mono ?_
  rintro e w1 ⟨rfl, o1, b1⟩
  have l1 := HL.out _ _ o1
  have l2 := field_ph s
  go_wp2_with fail
  go_ret
  exact ⟨rfl, b1⟩
end Go.Proofs.YtdkbgbhcnbmlfaaDoor
