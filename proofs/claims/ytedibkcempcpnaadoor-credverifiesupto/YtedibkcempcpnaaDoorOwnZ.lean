/-
  A row that []byte(s) has made, and what one byte more behind it makes.
-/
import Derived.Test.YtedibkcempcpnaaDoorMacL
import Derived.ArgAppend
import Derived.Lib.ConvBytes
namespace Go.Proofs.YtedibkcempcpnaaDoor
open Go.RowKit
/-- The row in block g has the bytes xs; nothing of it is frozen but, it may be, what lies behind it. -/
structure OwnZ (w : World) (base g cap : Nat) (xs : List UInt8) : Prop where
  low : base ≤ g
  len : xs.length ≤ cap
  small : cap ≤ maxLen
  row : ∃ cur fz, w.heap[g]? = some (.cells cur 5 fz) ∧ (fz = (0, 0) ∨ cur.size ≤ fz.1) ∧ cur.size = cap ∧ cur.toList.take xs.length = cellsOf xs
theorem OwnZ.lt {w : World} {base g cap : Nat} {xs : List UInt8} (h : OwnZ w base g cap xs) : g < w.heap.size := by
  obtain ⟨cur, fz, hg, _⟩ := h.row
  exact (Array.getElem?_eq_some_iff.1 hg).1
theorem OwnZ.kept {w w' : World} {base g cap : Nat} {xs : List UInt8} (h : OwnZ w base g cap xs) (e : w'.heap[g]? = w.heap[g]?) : OwnZ w' base g cap xs :=
  ⟨h.low, h.len, h.small, by rw [e]; exact h.row⟩
theorem OwnZ.alloc {w : World} {base g cap : Nat} {xs : List UInt8} (h : OwnZ w base g cap xs) (o : Obj) : OwnZ (w.alloc o) base g cap xs := h.kept (Below.heap_alloc _ _ _ h.lt)
theorem OwnZ.cells {w : World} {base g cap : Nat} {xs : List UInt8} (h : OwnZ w base g cap xs) : ∀ j u, (cellsOf xs)[j]? = some u → w.cell? ((⟨g, 0, none⟩ : Addr).add j) = some u := by
  intro j u hu
  obtain ⟨cur, fz, hg, _, _, ht⟩ := h.row
  rw [add_off, Nat.zero_add, cell_of_row w g j cur 5 fz hg]
  rw [← ht, List.getElem?_take] at hu
  split at hu
  · simpa using hu
  · cases hu
theorem OwnZ.conv {w : World} {base g cap : Nat} {xs : List UInt8} (h : OwnZ w base g cap xs) : (convert 37 9 (.slice (some ⟨g, 0, none⟩) xs.length cap)).run Tryd.prog w = .ok (.string ⟨xs.toArray⟩) w := by
  refine run_convert_bytes_back w 37 9 5 _ _ xs Tryd.underlying37 Tryd.underlying5 Tryd.underlying9 (fun j hj => ?_)
  exact h.cells j _ (by simp [cellsOf, hj])
theorem OwnZ.new (w : World) (s : ByteArray) (hs : s.size ≤ maxLen) : OwnZ (Lib.bytesWorld w 5 s) w.heap.size w.heap.size (grownCap w s.size 0 5) s.data.toList := by
  have hge := grownCap_ge w s.size 0 5
  have hl : s.data.toList.length = s.size := by simp
  refine ⟨Nat.le_refl _, by rw [hl]; exact hge, grownCap_le_maxLen w s.size 0 5 hs, _, _, Lib.bytesWorld_at_new w 5 s, Or.inr (Nat.le_refl _), ?_, ?_⟩
  · simp [Lib.bytesCells]; omega
  · rw [hl]
    simp [Lib.bytesCells, cellsOf]
theorem bytes_below (w : World) (s : ByteArray) : Below w.heap.size w (Lib.bytesWorld w 5 s) := by
  refine ⟨?_, ?_, ?_, by rw [Lib.bytesWorld_size]; omega, fun k hk => Lib.bytesWorld_at_old w 5 s k hk⟩ <;> rfl
theorem run_append_Z (w : World) (ty : TypeId) (i : TypeInfo) (hi : Tryd.prog.info? 5 = some i) (hz : i.zero = some (.int .u8 0)) (hs : i.size = 1) (hb : i.bytes = 1) {base g cap : Nat} {xs : List UInt8} (h : OwnZ w base g cap xs)
    (a : Addr) (d : UInt8) (c : Nat) (hnews : ∀ j u, (cellsOf [d])[j]? = some u → w.cell? (a.add j) = some u) (hl : xs.length + 1 ≤ 140737488355328) (hbase : base ≤ w.heap.size) :
    ∃ g' cap' w', (Builtin.append_ #[37, 37] ty #[.slice (some ⟨g, 0, none⟩) xs.length cap, .slice (some a) 1 c]).run Tryd.prog w = .ok (.slice (some ⟨g', 0, none⟩) (xs.length + 1) cap') w' ∧ OwnZ w' base g' cap' (xs ++ [d]) ∧ w.grownBy w' (some g) := by
  have hlc : (cellsOf xs).length = xs.length := cellsOf_length xs
  by_cases hroom : xs.length + 1 ≤ cap
  · obtain ⟨cur, fz, hg, hf, hcs, ht⟩ := h.row
    have hlt : xs.length < cur.size := by omega
    have hcell : w.cell? ⟨g, xs.length, none⟩ = some cur[xs.length] := by rw [cell_of_row w g _ cur 5 fz hg]; exact Array.getElem?_eq_getElem hlt
    have hfro : w.frozen? ⟨g, xs.length, none⟩ = false := by
      obtain ⟨lo, up⟩ := fz
      simp only [World.frozen?, hg]
      rcases hf with hf | hf
      · simp only [Prod.mk.injEq] at hf; simp [hf.1, hf.2]
      · have : ¬ lo ≤ xs.length := by simp at hf; omega
        simp [this]
    have hr := run_append_room_cells (P := Tryd.prog) w 37 ty 5 i Tryd.underlying37 hi g 0 xs.length cap a 1 c (cellsOf [d]) (by rw [hs]; rfl) hnews (cellsOf_one _) hroom
      (fun j hj => by have : j = 0 := by simp [cellsOf] at hj; exact hj
                      subst this; rw [hs]; simp [hcell])
      (fun j hj => by have : j = 0 := by simp [cellsOf] at hj; exact hj
                      subst this; rw [hs]; simpa using hfro)
    rw [hs] at hr
    refine ⟨g, cap, w.setCell ⟨g, xs.length, none⟩ (.int .u8 d.toNat), ?_, ⟨h.low, by simpa using hroom, h.small, ?_⟩, ⟨rfl, rfl, rfl, by simp, fun k _ hk => Below.heap_setCell _ _ _ _ (fun e => hk (by rw [e]))⟩⟩
    · rw [hr]
      simp [World.setCells, cellsOf]
    · have hlt' := h.lt
      have hv : w.heap[g] = .cells cur 5 fz := (Array.getElem?_eq_some_iff.1 hg).2
      refine ⟨cur.setIfInBounds xs.length (.int .u8 d.toNat), fz, ?_, by simpa using hf, by simpa using hcs, ?_⟩
      · show (w.heap.modify g _)[g]? = _
        rw [Array.getElem?_eq_getElem (by simpa using hlt'), Array.getElem_modify_self, hv]
        rfl
      · rw [List.length_append, Array.toList_setIfInBounds, cellsOf_append, ← ht]
        apply List.ext_getElem?
        intro k
        rw [List.getElem?_take, List.getElem?_set]
        have hcl : cur.toList.length = cur.size := by simp
        have htl : (List.take xs.length cur.toList).length = xs.length := by rw [List.length_take]; omega
        by_cases hk : k < xs.length
        · rw [if_pos (by simp; omega), if_neg (by omega), List.getElem?_append_left (by omega), List.getElem?_take_of_lt hk]
        · by_cases hk2 : k = xs.length
          · subst hk2
            rw [if_pos (by simp), if_pos rfl, if_pos (by omega), List.getElem?_append_right (by omega), htl, Nat.sub_self]
            rfl
          · rw [if_neg (by simp; omega), List.getElem?_append_right (by omega), htl, List.getElem?_eq_none (by simp [cellsOf]; omega)]
  · have hr := run_append_grow (P := Tryd.prog) w 37 ty 5 i (.int .u8 0) Tryd.underlying37 hi hz ⟨g, 0, none⟩ xs.length cap (cellsOf xs) (by rw [hs, hlc, Nat.mul_one]) h.cells a 1 c (cellsOf [d]) (by rw [hs]; rfl) hnews (by omega) (by omega) (growslice_fits (by omega) (by rw [hb]; omega))
    have hge := grownCap_ge w (xs.length + 1) cap 5
    refine ⟨_, _, _, hr, ⟨hbase, by simpa using hge, grownCap_le_maxLen w _ _ 5 (by unfold maxLen; omega), _, (0, 0), heap_alloc_new w.drew _, Or.inl rfl, ?_, ?_⟩, ⟨rfl, rfl, rfl, by simp, fun k hk _ => Below.heap_alloc w.drew _ k hk⟩⟩
    · have : (Value.int IntKind.u8 0).cells.size = 1 := rfl
      simp only [Array.size_append, List.size_toArray, size_zeroCells, this, hlc, Nat.mul_one]
      show xs.length + 1 + _ = _
      omega
    · rw [cellsOf_append]
      simp only [Array.toList_append, List.append_assoc]
      rw [← List.append_assoc, show (xs ++ [d]).length = (cellsOf xs ++ cellsOf [d]).length by simp [cellsOf]]
      exact List.take_left
theorem wpList_append_Z {ops : Array Oper} {rest : List Oper} {o : Oper} {a : Act} {w : World} {Q : Exit → Act → World → Prop} (hgd : o.guard = none) (s x : Operand)
    (ho : o.op = .call { callee := .builtin .append, args := #[s, x], argTypes := #[37, 37] })
    (i : TypeInfo) (hi : Tryd.prog.info? 5 = some i) (hz : i.zero = some (.int .u8 0)) (hsz : i.size = 1) (hb : i.bytes = 1) {base g cap : Nat} {xs : List UInt8} (h : OwnZ w base g cap xs)
    (hs : a.eval s = .slice (some ⟨g, 0, none⟩) xs.length cap) (ad : Addr) (d : UInt8) (c : Nat) (hx : a.eval x = .slice (some ad) 1 c)
    (hnews : ∀ j u, (cellsOf [d])[j]? = some u → w.cell? (ad.add j) = some u) (hl : xs.length + 1 ≤ 140737488355328) (hbase : base ≤ w.heap.size)
    (hK : ∀ g' cap' w', OwnZ w' base g' cap' (xs ++ [d]) → w.grownBy w' (some g) → wpList Tryd.prog ops Q rest (a.put o.dst (.slice (some ⟨g', 0, none⟩) (xs.length + 1) cap')) w') : wpList Tryd.prog ops Q (o :: rest) a w :=
  wpList_plain hgd fun K hK' => by
    obtain ⟨g', cap', w', hr, h2, h3⟩ := run_append_Z w o.type i hi hz hsz hb h ad d c hnews hl hbase
    unfold Oper.wp execOp
    simp only [ho, resolve, invoke, builtin, Sem.run_bind, Sem.run_pure, Result.andThen_ok, List.map_toArray, List.map_cons, List.map_nil, hs, hx, hr]
    exact hK' _ _ (hK g' cap' w' h2 h3)
end Go.Proofs.YtedibkcempcpnaaDoor
