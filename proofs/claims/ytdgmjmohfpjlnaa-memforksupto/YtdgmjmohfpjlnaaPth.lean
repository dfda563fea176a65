/-
  The contract of path.
-/
import Derived.Test.YtdgmjmohfpjlnaaMrp
namespace Go.Proofs.Ytdgmjmohfpjlnaa
open Go.RowKit
/-- An array of links in a block. -/
def AB (W : World) (x : Nat) (f : Nat → Nat) : Prop := W.heap[x]? = some (.cells (lkL f).toArray 66 (0, 0))
theorem AB.below {W W' : World} {x : Nat} {f : Nat → Nat} (h : AB W x f) (b : Below W.heap.size W W') : AB W' x f := (b.block x (Array.getElem?_eq_some_iff.1 h).1).trans h
theorem free_of_block {w : World} {b : Nat} {c : Array Value} {t : TypeId} (h : w.heap[b]? = some (.cells c t (0, 0))) (o : Nat) : w.frozen? ⟨b, o, none⟩ = false := by simp [World.frozen?, h]
theorem set_block {W : World} {g : Nat} {c : Array Value} {t : TypeId} (h : W.heap[g]? = some (.cells c t (0, 0))) (i : Nat) (v : Value) : (W.setCell ⟨g, i, none⟩ v).heap[g]? = some (.cells (c.setIfInBounds i v) t (0, 0)) := by
  simp [World.setCell, Array.getElem?_modify, h]
theorem set_other {W : World} {g x : Nat} (h : g ≠ x) (i : Nat) (v : Value) : (W.setCell ⟨g, i, none⟩ v).heap[x]? = W.heap[x]? := Below.heap_setCell _ _ _ _ (Ne.symm h)
theorem AB.set {W : World} {x : Nat} {f : Nat → Nat} (h : AB W x f) {k : Nat} (hk : k < 12) (v : Nat) : AB (W.setCell ⟨x, k, none⟩ (.int .i64 (v : Nat))) x (fun j => if j = k then v else f j) := by
  have := set_block h k (.int .i64 (v : Nat))
  unfold AB
  rw [this, ← lkL_set f hk v]
  simp
theorem AB.at {W : World} {x : Nat} {f : Nat → Nat} (h : AB W x f) {k : Nat} (hk : k < 12) : W.cell? ⟨x, k, none⟩ = some (.int .i64 (f k : Nat)) := cell_of_block h (by rw [List.getElem?_toArray]; exact lkL_get f hk)
theorem AB.cells {W : World} {x : Nat} {f : Nat → Nat} (h : AB W x f) : W.cell? ⟨x, 0, none⟩ = some (.int .i64 (f 0 : Nat)) ∧ W.cell? ⟨x, 1, none⟩ = some (.int .i64 (f 1 : Nat)) ∧ W.cell? ⟨x, 2, none⟩ = some (.int .i64 (f 2 : Nat)) ∧ W.cell? ⟨x, 3, none⟩ = some (.int .i64 (f 3 : Nat)) ∧ W.cell? ⟨x, 4, none⟩ = some (.int .i64 (f 4 : Nat)) ∧ W.cell? ⟨x, 5, none⟩ = some (.int .i64 (f 5 : Nat)) ∧ W.cell? ⟨x, 6, none⟩ = some (.int .i64 (f 6 : Nat)) ∧ W.cell? ⟨x, 7, none⟩ = some (.int .i64 (f 7 : Nat)) ∧ W.cell? ⟨x, 8, none⟩ = some (.int .i64 (f 8 : Nat)) ∧ W.cell? ⟨x, 9, none⟩ = some (.int .i64 (f 9 : Nat)) ∧ W.cell? ⟨x, 10, none⟩ = some (.int .i64 (f 10 : Nat)) ∧ W.cell? ⟨x, 11, none⟩ = some (.int .i64 (f 11 : Nat)) := ⟨cell_of_block h rfl, cell_of_block h rfl, cell_of_block h rfl, cell_of_block h rfl, cell_of_block h rfl, cell_of_block h rfl, cell_of_block h rfl, cell_of_block h rfl, cell_of_block h rfl, cell_of_block h rfl, cell_of_block h rfl, cell_of_block h rfl⟩
theorem AB.free {W : World} {x : Nat} {f : Nat → Nat} (h : AB W x f) : W.frozen? ⟨x, 0, none⟩ = false ∧ W.frozen? ⟨x, 1, none⟩ = false ∧ W.frozen? ⟨x, 2, none⟩ = false ∧ W.frozen? ⟨x, 3, none⟩ = false ∧ W.frozen? ⟨x, 4, none⟩ = false ∧ W.frozen? ⟨x, 5, none⟩ = false ∧ W.frozen? ⟨x, 6, none⟩ = false ∧ W.frozen? ⟨x, 7, none⟩ = false ∧ W.frozen? ⟨x, 8, none⟩ = false ∧ W.frozen? ⟨x, 9, none⟩ = false ∧ W.frozen? ⟨x, 10, none⟩ = false ∧ W.frozen? ⟨x, 11, none⟩ = false := ⟨free_of_block h _, free_of_block h _, free_of_block h _, free_of_block h _, free_of_block h _, free_of_block h _, free_of_block h _, free_of_block h _, free_of_block h _, free_of_block h _, free_of_block h _, free_of_block h _⟩
/-- An array is stored. -/
def setA (W : World) (x : Nat) (f : Nat → Nat) : World := (((((((((((W.setCell ⟨x, 0, none⟩ (.int .i64 (f 0 : Nat))).setCell ⟨x, 1, none⟩ (.int .i64 (f 1 : Nat))).setCell ⟨x, 2, none⟩ (.int .i64 (f 2 : Nat))).setCell ⟨x, 3, none⟩ (.int .i64 (f 3 : Nat))).setCell ⟨x, 4, none⟩ (.int .i64 (f 4 : Nat))).setCell ⟨x, 5, none⟩ (.int .i64 (f 5 : Nat))).setCell ⟨x, 6, none⟩ (.int .i64 (f 6 : Nat))).setCell ⟨x, 7, none⟩ (.int .i64 (f 7 : Nat))).setCell ⟨x, 8, none⟩ (.int .i64 (f 8 : Nat))).setCell ⟨x, 9, none⟩ (.int .i64 (f 9 : Nat))).setCell ⟨x, 10, none⟩ (.int .i64 (f 10 : Nat))).setCell ⟨x, 11, none⟩ (.int .i64 (f 11 : Nat))
theorem AB.setA {W : World} {x : Nat} {f0 : Nat → Nat} (h : AB W x f0) (f : Nat → Nat) : AB (setA W x f) x f := by
  have h0 := set_block h 0 (.int .i64 (f 0 : Nat))
  have h1 := set_block h0 1 (.int .i64 (f 1 : Nat))
  have h2 := set_block h1 2 (.int .i64 (f 2 : Nat))
  have h3 := set_block h2 3 (.int .i64 (f 3 : Nat))
  have h4 := set_block h3 4 (.int .i64 (f 4 : Nat))
  have h5 := set_block h4 5 (.int .i64 (f 5 : Nat))
  have h6 := set_block h5 6 (.int .i64 (f 6 : Nat))
  have h7 := set_block h6 7 (.int .i64 (f 7 : Nat))
  have h8 := set_block h7 8 (.int .i64 (f 8 : Nat))
  have h9 := set_block h8 9 (.int .i64 (f 9 : Nat))
  have h10 := set_block h9 10 (.int .i64 (f 10 : Nat))
  have h11 := set_block h10 11 (.int .i64 (f 11 : Nat))
  unfold AB Go.Proofs.Ytdgmjmohfpjlnaa.setA
  rw [h11]
  simp [lkL]
theorem setA_below {B : Nat} {a W : World} (h : Below B a W) {x : Nat} (hx : B ≤ x) (f : Nat → Nat) : Below B a (setA W x f) := by
  unfold setA
  exact (((((((((((h.setCell (p := ⟨x, 0, none⟩) hx _).setCell (p := ⟨x, 1, none⟩) hx _).setCell (p := ⟨x, 2, none⟩) hx _).setCell (p := ⟨x, 3, none⟩) hx _).setCell (p := ⟨x, 4, none⟩) hx _).setCell (p := ⟨x, 5, none⟩) hx _).setCell (p := ⟨x, 6, none⟩) hx _).setCell (p := ⟨x, 7, none⟩) hx _).setCell (p := ⟨x, 8, none⟩) hx _).setCell (p := ⟨x, 9, none⟩) hx _).setCell (p := ⟨x, 10, none⟩) hx _).setCell (p := ⟨x, 11, none⟩) hx _
theorem results_cell1 {fn : Func} {p : Tmp} {ty : TypeId} (h : fn.results = #[.cell p ty]) (tmps : Array Value) (P : Program) (w : World) :
    (results fn tmps).run P w =
      ((asAddr (tmps.getD p undef)).run P w).andThen fun a w₁ => (loadVar ty a).run P w₁ := by
  simp only [results, h]
  simp [Sem.run_bind, Result.andThen]
/-- How many stand behind a place. -/
def rk (E : List En) (a : Nat) : Nat := if a = 0 then E.length else E.length - ((E.map En.p).idxOf a + 1)
theorem idx_at {a : Nat} : ∀ {A : List Nat} {R : List Nat}, a ∉ A → (A ++ a :: R).idxOf a = A.length
  | [], R, _ => by simp
  | x :: A, R, h => by
    have h1 : x ≠ a := fun e => h (by rw [e]; exact List.mem_cons_self ..)
    rw [List.cons_append, List.idxOf_cons, show (x == a) = false by simpa using h1]
    show (A ++ a :: R).idxOf a + 1 = _
    rw [idx_at (fun q => h (List.mem_cons_of_mem _ q))]
    rfl
theorem At.rk {n : Nat} {cell : Nat → Cl} {nx : Nat → Nat → Nat} {key : ByteArray} {seq k : Nat} {E A R : List En} {a : Nat} (r : Rep n cell nx E) (h : At key seq k E A R a) : rk E a = R.length := by
  unfold Go.Proofs.Ytdgmjmohfpjlnaa.rk
  rcases h.last with ⟨h1, h2⟩ | ⟨A', e, h1, h2, _⟩
  · rw [if_pos h2, h.split, h1]; rfl
  · have hs : E = A' ++ e :: R := by rw [h.split, h1]; simp
    have he := (r.each e (by rw [hs]; simp)).1
    rw [if_neg (by omega), h2]
    have hn := r.apart
    rw [hs, List.map_append, List.map_cons] at hn
    have hna : e.p ∉ A'.map En.p := fun q => (List.nodup_append.1 hn).2.2 _ q _ (List.mem_cons_self ..) rfl
    rw [hs, List.map_append, List.map_cons, idx_at hna]
    simp
    omega
/-- The path down to a level. -/
def ptF (key : ByteArray) (seq : Nat) (E : List En) (j k : Nat) : Nat := if j ≤ k then lsL k (ahE key seq E) else 0
theorem ptF_step (key : ByteArray) (seq : Nat) (E : List En) (k : Nat) : (fun j => if j = k then lsL k (ahE key seq E) else ptF key seq E (k + 1) j) = ptF key seq E k := by
  funext j
  unfold ptF
  by_cases h : j = k
  · subst h; rw [if_pos rfl, if_pos (Nat.le_refl _)]
  · rw [if_neg h]
    by_cases h2 : k + 1 ≤ j
    · rw [if_pos h2, if_pos (by omega)]
    · rw [if_neg h2, if_neg (by omega)]
set_option maxRecDepth 20000 in
set_option maxHeartbeats 16000000 in
theorem path_any (B g b cap : Nat) (s : St) (key : ByteArray) (seq : Nat) (w : World) (h : MA B w g b cap s) : Calls Try.prog 29 #[.pointer (some ⟨g, 0, none⟩), .string key, .int .u64 (seq : Nat)] w fun e w' => e = .returned (.agg (lkL (fun k => lsL k (ahE key seq s.E))).toArray) ∧ Below w.heap.size w w' := by
  have HM : Hid (MA B w g b cap s) := h
  have HRP : Hid (Rep s.n s.cell s.nx s.E) := h.rep
  have hgw := h.lt.1
  have hsm := h.small
  clear h
  obtain ⟨z, hz⟩ : ∃ z, w.heap.size = z := ⟨_, rfl⟩
  obtain ⟨W0, hW0⟩ : ∃ W0, (w.alloc (.cells #[.int .i64 0, .int .i64 0, .int .i64 0, .int .i64 0, .int .i64 0, .int .i64 0, .int .i64 0, .int .i64 0, .int .i64 0, .int .i64 0, .int .i64 0, .int .i64 0] 66)).alloc (.cells #[.int .i64 0, .int .i64 0, .int .i64 0, .int .i64 0, .int .i64 0, .int .i64 0, .int .i64 0, .int .i64 0, .int .i64 0, .int .i64 0, .int .i64 0, .int .i64 0] 66) = W0 := ⟨_, rfl⟩
  have HB0 : Hid (Below w.heap.size w W0) := by rw [Hid, ← hW0]; exact ((Below.refl _ _).alloc (Nat.le_refl _) _).alloc (by simp) _
  have HA0 : Hid (AB W0 (z + 1) (ptF key seq s.E 12)) := by
    rw [Hid, ← hW0, ← hz, show ((w.heap.size + 1 : Nat)) = (w.alloc (.cells #[.int .i64 0, .int .i64 0, .int .i64 0, .int .i64 0, .int .i64 0, .int .i64 0, .int .i64 0, .int .i64 0, .int .i64 0, .int .i64 0, .int .i64 0, .int .i64 0] 66)).heap.size by simp]
    exact block_alloc_at _ _
  have HZ0 : Hid (AB W0 z (fun _ => 0)) := by
    rw [Hid, ← hW0, ← hz]
    exact AB.below (block_alloc_at _ _) (below_new _ _)
  have HZ : Hid _ := hz
  clear hz
  go_enter Try.func29, Try.ntmps29
  go_wp2_with fail
  try rw [hW0]
  clear hW0
  try rw [HZ.out]
  go_loopw [8, 9, 10] (fun sa sl _ wr => ∃ (j a : Nat) (A R : List En), j ≤ 12 ∧ sa = .int .i64 (a : Nat) ∧ sl = .int .i64 ((j : Int) - 1) ∧ Hid (At key seq j s.E A R a) ∧ Hid (AB wr (z + 1) (ptF key seq s.E j)) ∧ Hid (AB wr z (fun _ => 0)) ∧ Hid (Below w.heap.size w wr)) (fun _ sl _ _ => (intOf sl + 1).toNat)
  case atStart => exact ⟨12, 0, [], s.E, by omega, rfl, rfl, At.start _ _ _ _, HA0.out, HZ0.out, HB0.out⟩
  case round =>
    obtain ⟨j, a, A, R, hj, rfl, rfl, HAT, HAB, HZB, HB⟩ := hrel
    cases j with
    | zero =>
      have hlz : ¬ (0 : Int) ≤ ((0 : Nat) : Int) - 1 := by omega
      have e0 : ptF key seq s.E 0 = fun k => lsL k (ahE key seq s.E) := by funext k; unfold ptF; rw [if_pos (by omega)]
      have HA1 : Hid (AB wr (z + 1) (fun k => lsL k (ahE key seq s.E))) := by rw [Hid, ← e0]; exact HAB.out
      clear e0 HAB
      obtain ⟨F, hF⟩ : ∃ F, (fun k => lsL k (ahE key seq s.E)) = F := ⟨_, rfl⟩
      have HF : Hid _ := hF
      rw [hF] at HA1
      clear hF
      obtain ⟨c0, c1, c2, c3, c4, c5, c6, c7, c8, c9, c10, c11⟩ := AB.cells HA1.out
      obtain ⟨z0, z1, z2, z3, z4, z5, z6, z7, z8, z9, z10, z11⟩ := AB.cells HZB.out
      obtain ⟨f0, f1, f2, f3, f4, f5, f6, f7, f8, f9, f10, f11⟩ := AB.free HZB.out
      obtain ⟨W9, hW9⟩ : ∃ W9, setA wr z F = W9 := ⟨_, rfl⟩
      have HX9 : Hid (AB W9 z F) := by rw [Hid, ← hW9]; exact AB.setA HZB.out F
      have HB9 : Hid (Below w.heap.size w W9) := by rw [Hid, ← hW9]; exact setA_below HB.out (by rw [HZ.out]; exact Nat.le_refl _) F
      unfold setA at hW9
      have HW9 : Hid _ := hW9
      clear hW9
      go_wp2_with fail
      rw [HW9.out]
      clear HW9 c0 c1 c2 c3 c4 c5 c6 c7 c8 c9 c10 c11 z0 z1 z2 z3 z4 z5 z6 z7 z8 z9 z10 z11 f0 f1 f2 f3 f4 f5 f6 f7 f8 f9 f10 f11
      obtain ⟨c0, c1, c2, c3, c4, c5, c6, c7, c8, c9, c10, c11⟩ := AB.cells HX9.out
      refine bodyPost_ret (v := .agg (lkL F).toArray) ?_ rfl ⟨by rw [HF.out], HB9.out⟩
      rw [results_cell1 rfl]
      unfold lkL
      go_simp
    | succ k =>
      have hkk : (((k + 1 : Nat) : Int) - 1) = (k : Int) := by omega
      rw [hkk]
      have hk12 : k < 12 := by omega
      have HATK : Hid (At key seq k s.E A R a) := At.down HAT.out (by omega)
      have HMV : Hid (MA B wr g b cap s) := HM.out.below HB.out
      obtain ⟨m0, m1, m2⟩ := HMV.out.hd
      have hal := At.lt HRP.out HATK.out
      have hlk := HMV.out.link hal hk12
      have haz : (a : Int) < (s.n : Int) := by omega
      have hkz : (k : Int) < 12 := by omega
      have hk0 : (0 : Int) ≤ (k : Int) := by omega
      clear hkk HAT
      obtain ⟨V, rfl⟩ : ∃ V, V = wr := ⟨wr, rfl⟩
      go_wp2_with fail
      go_loopw [8, 10] (fun sa sx wq => ∃ (a : Nat) (A R : List En), sa = .int .i64 (a : Nat) ∧ sx = .int .i64 (s.nx a k : Nat) ∧ Hid (At key seq k s.E A R a) ∧ Hid (wq = V)) (fun sa _ _ => rk s.E (intOf sa).toNat)
      case atStart => exact ⟨a, A, R, rfl, rfl, HATK.out, rfl⟩
      case round =>
        clear hal hlk haz HATK
        obtain ⟨a, A, R, rfl, rfl, HATK, HWV⟩ := hrel
        have hw : wr = V := HWV.out
        rw [hw]
        clear hw HWV wr
        have hnx := At.next HRP.out HATK.out hk12
        rcases At.step HRP.out HATK.out with ⟨e1, e2⟩ | ⟨C, e, R', e1, e2, e3, e4, e5, e6, e7, e8⟩
        · have hn0 : s.nx a k = 0 := hnx.trans e1
          rw [hn0]
          clear hnx e1 hn0
          have HPA : Hid (a = lsL k (ahE key seq s.E)) := At.stop HATK.out (Or.inl e2)
          have HAN : Hid (At key seq k s.E A R a) := HATK.out
          obtain ⟨old, hold⟩ : ∃ v, V.cell? ⟨z + 1, k, none⟩ = some v := ⟨_, AB.at HAB.out hk12⟩
          have hfz : V.frozen? ⟨z + 1, k, none⟩ = false := free_of_block HAB.out _
          have HAB2 : Hid (AB (V.setCell ⟨z + 1, k, none⟩ (.int .i64 (a : Nat))) (z + 1) (ptF key seq s.E k)) := by
            rw [Hid, ← ptF_step, ← HPA.out]
            exact AB.set HAB.out hk12 a
          have HZB2 : Hid (AB (V.setCell ⟨z + 1, k, none⟩ (.int .i64 (a : Nat))) z (fun _ => 0)) := (set_other (show z + 1 ≠ z by omega) _ _).trans HZB.out
          have HB2 : Hid (Below w.heap.size w (V.setCell ⟨z + 1, k, none⟩ (.int .i64 (a : Nat)))) := HB.out.setCell (p := ⟨z + 1, k, none⟩) (by show w.heap.size ≤ z + 1; rw [HZ.out]; omega) _
          clear e2
          go_wp2_with fail
          go_roundw
          case rel => exact ⟨k, a, A, R, by omega, rfl, by go_num, HAN.out, HAB2.out, HZB2.out, HB2.out⟩
          case measure => simp [intOf]
        · have hn0 : s.nx a k = e.p := hnx.trans e4
          rw [hn0]
          have hpz : ((e.p : Int) != 0) = true := by simp; omega
          have hpn : (e.p : Int) < (s.n : Int) := by omega
          obtain ⟨d0, d1, _, _⟩ := HMV.out.node e6
          rw [e7] at d0 d1
          have HBF : Hid (∀ _ : Unit, _) := fun _ => before_any b (e.p * 16) e.c key seq V d0 d1
          cases hah : ahK e.c key seq with
          | false =>
            rw [hah] at HBF
            clear hnx e4 hn0 d0 d1
            have HPA : Hid (a = lsL k (ahE key seq s.E)) := At.stop HATK.out (Or.inr ⟨C, e, R', e1, e2, hah⟩)
            have HAN : Hid (At key seq k s.E A R a) := HATK.out
            obtain ⟨old, hold⟩ : ∃ v, V.cell? ⟨z + 1, k, none⟩ = some v := ⟨_, AB.at HAB.out hk12⟩
            have hfz : V.frozen? ⟨z + 1, k, none⟩ = false := free_of_block HAB.out _
            have HAB2 : Hid (AB (V.setCell ⟨z + 1, k, none⟩ (.int .i64 (a : Nat))) (z + 1) (ptF key seq s.E k)) := by
              rw [Hid, ← ptF_step, ← HPA.out]
              exact AB.set HAB.out hk12 a
            have HZB2 : Hid (AB (V.setCell ⟨z + 1, k, none⟩ (.int .i64 (a : Nat))) z (fun _ => 0)) := (set_other (show z + 1 ≠ z by omega) _ _).trans HZB.out
            have HB2 : Hid (Below w.heap.size w (V.setCell ⟨z + 1, k, none⟩ (.int .i64 (a : Nat)))) := HB.out.setCell (p := ⟨z + 1, k, none⟩) (by show w.heap.size ≤ z + 1; rw [HZ.out]; omega) _
            clear e1 e2 e3 e5 e6 e7 e8 hah
            go_wp2_with fail
            refine (HBF.out ()).mono ?_
            rintro e w2 ⟨rfl, hw2⟩
            rw [hw2]
            clear hw2 w2
            go_wp2_with fail
            go_roundw
            case rel => exact ⟨k, a, A, R, by omega, rfl, by go_num, HAN.out, HAB2.out, HZB2.out, HB2.out⟩
            case measure => simp [intOf]
          | true =>
            rw [hah] at HBF
            have HN2 : Hid (At key seq k s.E (A ++ (C ++ [e])) R' e.p) := e8 hah
            have HRK1 := At.rk HRP.out HATK.out
            have HRK2 := At.rk HRP.out HN2.out
            have HRL : Hid (R'.length < R.length) := by rw [Hid, e1]; simp; omega
            have hl2 := HMV.out.link e6 hk12
            have HRKS : Hid (rk s.E e.p < rk s.E a) := by rw [Hid, HRK1, HRK2]; exact HRL.out
            clear hnx e1 e2 e3 e4 e5 e6 e7 e8 hah hn0 d0 d1 HRK1 HRK2 HRL
            go_wp2_with fail
            refine (HBF.out ()).mono ?_
            rintro e' w2 ⟨rfl, hw2⟩
            rw [hw2]
            clear hw2 w2
            go_wp2_with fail
            go_roundw
            case rel => exact ⟨e.p, _, R', rfl, rfl, HN2.out, by first | rfl | trivial⟩
            case measure =>
              have h3 := HRKS.out
              simp only [intOf, Int.toNat_natCast]
              exact h3
end Go.Proofs.Ytdgmjmohfpjlnaa
