/-
  Arrays by value: rows of words and of bytes; a row that lies amid a block is loaded and stored whole.
-/
import Derived.Test.YtedibkcempcpnaaDoorRor
namespace Go.Proofs.YtedibkcempcpnaaDoor
open Go.RowKit
/-- Words as cells. -/
def wcells (f : Nat → Nat) (n : Nat) : List Value := (List.range n).map fun i => .int .u32 (f i : Int)
/-- Bytes as cells. -/
def bcells (f : Nat → Nat) (n : Nat) : List Value := (List.range n).map fun i => .int .u8 (f i : Int)
def upd (f : Nat → Nat) (i x : Nat) : Nat → Nat := fun j => if j = i then x else f j
theorem upd_same (f : Nat → Nat) (i x : Nat) : upd f i x i = x := by simp [upd]
theorem upd_other {f : Nat → Nat} {i j x : Nat} (h : j ≠ i) : upd f i x j = f j := by simp [upd, h]
theorem wcells_length (f : Nat → Nat) (n : Nat) : (wcells f n).length = n := by simp [wcells]
theorem bcells_length (f : Nat → Nat) (n : Nat) : (bcells f n).length = n := by simp [bcells]
theorem wcells_get {f : Nat → Nat} {n i : Nat} (h : i < n) : (wcells f n)[i]? = some (.int .u32 (f i : Int)) := by simp [wcells, h]
theorem bcells_get {f : Nat → Nat} {n i : Nat} (h : i < n) : (bcells f n)[i]? = some (.int .u8 (f i : Int)) := by simp [bcells, h]
theorem wcells_one (f : Nat → Nat) (n : Nat) : ∀ v ∈ wcells f n, v.oneCell' = true := by
  intro v hv
  simp only [wcells, List.mem_map] at hv
  obtain ⟨_, _, rfl⟩ := hv
  rfl
theorem bcells_one (f : Nat → Nat) (n : Nat) : ∀ v ∈ bcells f n, v.oneCell' = true := by
  intro v hv
  simp only [bcells, List.mem_map] at hv
  obtain ⟨_, _, rfl⟩ := hv
  rfl
theorem wcells_set (f : Nat → Nat) (n i x : Nat) : (wcells f n).set i (.int .u32 (x : Int)) = wcells (upd f i x) n := by
  apply List.ext_getElem?
  intro k
  rw [List.getElem?_set]
  by_cases hk : k < n
  · by_cases hi : i = k
    · subst hi; simp [wcells, hk, upd]
    · rw [if_neg hi, wcells_get hk, wcells_get hk, upd_other (fun e => hi e.symm)]
  · have e1 : (wcells f n)[k]? = none := by simp [wcells]; omega
    have e2 : (wcells (upd f i x) n)[k]? = none := by simp [wcells]; omega
    rw [e1, e2]
    simp [wcells]
    intro h; omega
theorem bcells_set (f : Nat → Nat) (n i x : Nat) : (bcells f n).set i (.int .u8 (x : Int)) = bcells (upd f i x) n := by
  apply List.ext_getElem?
  intro k
  rw [List.getElem?_set]
  by_cases hk : k < n
  · by_cases hi : i = k
    · subst hi; simp [bcells, hk, upd]
    · rw [if_neg hi, bcells_get hk, bcells_get hk, upd_other (fun e => hi e.symm)]
  · have e1 : (bcells f n)[k]? = none := by simp [bcells]; omega
    have e2 : (bcells (upd f i x) n)[k]? = none := by simp [bcells]; omega
    rw [e1, e2]
    simp [bcells]
    intro h; omega
theorem wcells_congr {f g : Nat → Nat} {n : Nat} (h : ∀ i, i < n → f i = g i) : wcells f n = wcells g n := by
  unfold wcells
  apply List.map_congr_left
  intro i hi
  rw [h i (List.mem_range.1 hi)]
theorem bcells_congr {f g : Nat → Nat} {n : Nat} (h : ∀ i, i < n → f i = g i) : bcells f n = bcells g n := by
  unfold bcells
  apply List.map_congr_left
  intro i hi
  rw [h i (List.mem_range.1 hi)]

theorem blk_old {w : World} {k : Nat} {x : Obj} (h : w.heap[k]? = some x) (o : Obj) : (w.alloc o).heap[k]? = some x := by
  rw [Below.heap_alloc _ _ _ (Array.getElem?_eq_some_iff.1 h).1]; exact h
theorem add_off (g off i : Nat) : (⟨g, off, none⟩ : Addr).add i = ⟨g, off + i, none⟩ := by unfold Addr.add; split <;> simp_all
section
variable {P : Program}
theorem run_load_mid (w : World) (g off : Nat) (t ty : TypeId) (pre mid post : List Value) (fr : Nat × Nat) (d : TypeDesc) (hg : w.heap[g]? = some (.cells (pre ++ mid ++ post).toArray t fr)) (hoff : off = pre.length)
    (hu : P.underlying ty = some d) (hd : (match d with | .struct _ | .array _ _ => true | _ => false) = true) (hi : (P.info? ty).map (·.size) = some mid.length) :
    (loadVar ty ⟨g, off, none⟩).run P w = .ok (.agg mid.toArray) w := by
  have hl : (loadCells ⟨g, off, none⟩ mid.length).run P w = .ok mid.toArray w :=
    run_loadCells_list (P := P) w ⟨g, off, none⟩ mid (fun j v hv => by
      rw [add_off, cell_of_row w g _ _ t fr hg]
      have hj : j < mid.length := (List.getElem?_eq_some_iff.1 hv).1
      subst hoff
      rw [List.getElem?_toArray, List.append_assoc, List.getElem?_append_right (by omega), List.getElem?_append_left (by omega)]
      simpa using hv)
  cases hq : P.info? ty with
  | none => simp [hq] at hi
  | some i =>
    have hs : i.size = mid.length := by simpa [hq] using hi
    have hagg : (isAgg ty).run P w = .ok true w := by
      unfold isAgg
      rw [Sem.run_bind, run_underlying hu w]
      cases d <;> simp_all
    simp [loadVar, Sem.run_bind, hagg, sizeOf, typeInfo, hq, hs, hl]
theorem setRow_self (w : World) (g : Nat) (c : Array Value) (t : TypeId) (fr : Nat × Nat) (hg : w.heap[g]? = some (.cells c t fr)) : w.setRow g c = w := by
  have hlt : g < w.heap.size := (Array.getElem?_eq_some_iff.1 hg).1
  have hv : w.heap[g] = .cells c t fr := (Array.getElem?_eq_some_iff.1 hg).2
  unfold World.setRow
  cases w with
  | mk heap tape drawn os output =>
    congr 1
    apply Array.ext
    · simp
    · intro k h1 h2
      simp only [Array.getElem_modify]
      split
      · rename_i hk; subst hk; simp at hv; simp [hv]
      · rfl
theorem run_storeCells_mid (g off : Nat) (t : TypeId) : ∀ (vs : List Value) (i : Nat) (pre old post : List Value) (w : World), w.heap[g]? = some (.cells (pre ++ old ++ post).toArray t (0, 0)) → off + i = pre.length → old.length = vs.length → (∀ v ∈ vs, v.oneCell' = true) →
    (storeCells ⟨g, off, none⟩ vs i).run P w = .ok () (w.setRow g (pre ++ vs ++ post).toArray)
  | [], i, pre, old, post, w, hg, _, hl, _ => by
    have e : old = [] := List.eq_nil_of_length_eq_zero hl
    subst e
    rw [setRow_self w g _ t _ hg]
    rfl
  | v :: rest, i, pre, [], post, w, hg, ho, hl, h1 => by simp at hl
  | v :: rest, i, pre, x :: old, post, w, hg, ho, hl, h1 => by
    have hcell : w.cell? ⟨g, off + i, none⟩ = some x := by
      rw [cell_of_row w g _ _ t _ hg, ho]
      simp
    have hfro : w.frozen? ⟨g, off + i, none⟩ = false := by simp [World.frozen?, hg]
    have hset : (pre ++ x :: old ++ post).toArray.setIfInBounds (off + i) v = ((pre ++ [v]) ++ old ++ post).toArray := by
      rw [List.setIfInBounds_toArray, ho]
      simp
    have hst : (store ((⟨g, off, none⟩ : Addr).add i) v).run P w = .ok () (w.setRow g ((pre ++ [v]) ++ old ++ post).toArray) := by
      rw [add_off, run_store P w _ v _ (h1 v (by simp)), hcell]
      simp only [hfro, setCell_eq_setRow w g (off + i) _ t (0, 0) v hg, hset]
      rfl
    have ih := run_storeCells_mid g off t rest (i + 1) (pre ++ [v]) old post (w.setRow g ((pre ++ [v]) ++ old ++ post).toArray) (setRow_heap w g _ _ t _ hg) (by simp; omega) (by simpa using hl) (fun y hy => h1 y (by simp [hy]))
    simp only [storeCells, Sem.run_bind, hst, Result.andThen_ok, ih, setRow_setRow]
    simp
theorem run_store_mid (w : World) (g off : Nat) (t ty : TypeId) (pre old post new : List Value) (hg : w.heap[g]? = some (.cells (pre ++ old ++ post).toArray t (0, 0))) (hoff : off = pre.length)
    (hi : (P.info? ty).map (·.size) = some new.length) (ho : old.length = new.length) (h1 : ∀ v ∈ new, v.oneCell' = true) :
    (storeVar ty ⟨g, off, none⟩ (.agg new.toArray)).run P w = .ok () (w.setRow g (pre ++ new ++ post).toArray) := by
  have := run_storeCells_mid (P := P) g off t new 0 pre old post w hg (by omega) ho h1
  cases hq : P.info? ty with
  | none => simp [hq] at hi
  | some i =>
    have hs : new.length = i.size := by simp [hq] at hi; omega
    simp [storeVar, sizeOf, typeInfo, hq, Value.cells, hs, this]
variable {ops : Array Oper} {rest : List Oper} {o : Oper} {a : Act} {w : World} {Q : Exit → Act → World → Prop} {K : Act → World → Prop}
theorem wp_load_mid (ty : TypeId) (x : Operand) (ho : o.op = .load ty x)
    (g off : Nat) (hx : a.eval x = .pointer (some ⟨g, off, none⟩)) (t : TypeId) (pre mid post : List Value) (fr : Nat × Nat) (d : TypeDesc) (hg : w.heap[g]? = some (.cells (pre ++ mid ++ post).toArray t fr)) (hoff : off = pre.length)
    (hu : P.underlying ty = some d) (hd : (match d with | .struct _ | .array _ _ => true | _ => false) = true) (hi : (P.info? ty).map (·.size) = some mid.length)
    (h : K (a.put o.dst (.agg mid.toArray)) w) : o.wp P a w K Q := by
  unfold Oper.wp execOp
  simp only [ho, hx, Instr.loadAt, Instr.sureAddr, Sem.run_bind, Sem.run_pure, Result.andThen_ok, run_load_mid w g off t ty pre mid post fr d hg hoff hu hd hi]
  exact h
theorem wpList_load_mid (hgd : o.guard = none) (ty : TypeId) (x : Operand) (ho : o.op = .load ty x)
    (g off : Nat) (hx : a.eval x = .pointer (some ⟨g, off, none⟩)) (t : TypeId) (pre mid post : List Value) (fr : Nat × Nat) (d : TypeDesc) (hg : w.heap[g]? = some (.cells (pre ++ mid ++ post).toArray t fr)) (hoff : off = pre.length)
    (hu : P.underlying ty = some d) (hd : (match d with | .struct _ | .array _ _ => true | _ => false) = true) (hi : (P.info? ty).map (·.size) = some mid.length)
    (h : wpList P ops Q rest (a.put o.dst (.agg mid.toArray)) w) : wpList P ops Q (o :: rest) a w :=
  wpList_plain hgd fun _ hK => wp_load_mid ty x ho g off hx t pre mid post fr d hg hoff hu hd hi (hK _ _ h)
theorem wp_store_mid (ty : TypeId) (x y : Operand) (ho : o.op = .store ty x y)
    (g off : Nat) (new : List Value) (hx : a.eval x = .pointer (some ⟨g, off, none⟩)) (hy : a.eval y = .agg new.toArray)
    (t : TypeId) (pre old post : List Value) (hg : w.heap[g]? = some (.cells (pre ++ old ++ post).toArray t (0, 0))) (hoff : off = pre.length) (hi : (P.info? ty).map (·.size) = some new.length)
    (hold : old.length = new.length) (h1 : ∀ v ∈ new, v.oneCell' = true)
    (h : K (a.put o.dst undef) (w.setRow g (pre ++ new ++ post).toArray)) : o.wp P a w K Q := by
  unfold Oper.wp execOp
  simp only [ho, hx, hy, Instr.storeAt, Instr.sureAddr, Sem.run_bind, Sem.run_pure, Result.andThen_ok, run_store_mid w g off t ty pre old post new hg hoff hi hold h1]
  exact h
theorem wpList_store_mid (hgd : o.guard = none) (ty : TypeId) (x y : Operand) (ho : o.op = .store ty x y)
    (g off : Nat) (new : List Value) (hx : a.eval x = .pointer (some ⟨g, off, none⟩)) (hy : a.eval y = .agg new.toArray)
    (t : TypeId) (pre old post : List Value) (hg : w.heap[g]? = some (.cells (pre ++ old ++ post).toArray t (0, 0))) (hoff : off = pre.length) (hi : (P.info? ty).map (·.size) = some new.length)
    (hold : old.length = new.length) (h1 : ∀ v ∈ new, v.oneCell' = true)
    (h : wpList P ops Q rest (a.put o.dst undef) (w.setRow g (pre ++ new ++ post).toArray)) : wpList P ops Q (o :: rest) a w :=
  wpList_plain hgd fun _ hK => wp_store_mid ty x y ho g off new hx hy t pre old post hg hoff hi hold h1 (hK _ _ h)
theorem wpList_alloc_row (hgd : o.guard = none) (ty : TypeId) (ho : o.op = .alloc ty) (cs : Array Value) (n : Nat) (hz : (P.info? ty).map (fun i => (i.zero, i.size)) = some (some (.agg cs), n))
    (h : wpList P ops Q rest (a.put o.dst (.pointer (some ⟨w.heap.size, 0, none⟩))) (w.alloc (.cells cs ty))) : wpList P ops Q (o :: rest) a w :=
  wpList_plain hgd fun _ hK => by
    have hz' := (zero_of_info hz).1
    unfold Oper.wp execOp
    simp only [ho]
    have : (Instr.alloc ty true (.tuple #[])).run P w = .ok (.pointer (some ⟨w.heap.size, 0, none⟩)) (w.alloc (.cells cs ty)) := by
      simp [Instr.alloc, hz', go_sem]
    rw [Sem.run_bind, this]
    exact hK _ _ h
end
theorem run_index49 (w : World) (cs : Array Value) (k : Nat) (v : Value) (hk : k < 64) (hv : cs[k]? = some v) : (Instr.index 83 (.agg cs) (.int .i64 (k : Int))).run Tryd.prog w = .ok v w := by
  simp [Instr.index, go_sem, hv]
  intro h
  omega
theorem run_index42 (w : World) (cs : Array Value) (k : Nat) (v : Value) (hk : k < 8) (hv : cs[k]? = some v) : (Instr.index 81 (.agg cs) (.int .i64 (k : Int))).run Tryd.prog w = .ok v w := by
  simp [Instr.index, go_sem, hv]
  intro h
  omega
theorem run_index48 (w : World) (cs : Array Value) (k : Nat) (v : Value) (hk : k < 8) (hv : cs[k]? = some v) : (Instr.index 82 (.agg cs) (.int .i64 (k : Int))).run Tryd.prog w = .ok v w := by
  simp [Instr.index, go_sem, hv]
  intro h
  omega
theorem zero53 : (Tryd.prog.info? 87).map (fun i => (i.zero, i.size)) = some (some (.agg (wcells (fun _ => 0) 64).toArray), 64) := by kernel_rfl
theorem zero42 : (Tryd.prog.info? 81).map (fun i => (i.zero, i.size)) = some (some (.agg (wcells (fun _ => 0) 8).toArray), 8) := by kernel_rfl
theorem zero48 : (Tryd.prog.info? 82).map (fun i => (i.zero, i.size)) = some (some (.agg (wcells (fun _ => 0) 8).toArray), 8) := by kernel_rfl
theorem zero49 : (Tryd.prog.info? 83).map (fun i => (i.zero, i.size)) = some (some (.agg (bcells (fun _ => 0) 64).toArray), 64) := by kernel_rfl
theorem zero59 : (Tryd.prog.info? 100).map (fun i => (i.zero, i.size)) = some (some (.agg (bcells (fun _ => 0) 8).toArray), 8) := by kernel_rfl
theorem zero51 : (Tryd.prog.info? 85).map (fun i => (i.zero, i.size)) = some (some (.agg (wcells (fun _ => 0) 8 ++ bcells (fun _ => 0) 64 ++ [Value.int .i64 0]).toArray), 73) := by kernel_rfl
theorem size53 : (Tryd.prog.info? 87).map (·.size) = some 64 := by kernel_rfl
theorem size42 : (Tryd.prog.info? 81).map (·.size) = some 8 := by kernel_rfl
theorem size48 : (Tryd.prog.info? 82).map (·.size) = some 8 := by kernel_rfl
theorem size49 : (Tryd.prog.info? 83).map (·.size) = some 64 := by kernel_rfl
theorem size59 : (Tryd.prog.info? 100).map (·.size) = some 8 := by kernel_rfl
theorem size51 : (Tryd.prog.info? 85).map (·.size) = some 73 := by kernel_rfl
end Go.Proofs.YtedibkcempcpnaaDoor
