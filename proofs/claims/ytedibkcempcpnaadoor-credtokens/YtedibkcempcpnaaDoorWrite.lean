/-
  The contract of Hasher.Write.
-/
import Derived.Test.YtedibkcempcpnaaDoorHash
import Derived.Deep.RegionHeld3
import Derived.Deep.MidRow
namespace Go.Proofs.YtedibkcempcpnaaDoor
open Go.RowKit
theorem GK.kept {w w' : World} {S : Nat → Prop} (h : GK w) (k : Keeps S w w') (hS : ¬ S 0) : GK w' :=
  ⟨Nat.lt_of_lt_of_le h.1 k.size, fun i hi => by
    have := h.2 i hi
    rw [World.cell?_of_block (w := w) (a := ⟨0, i, none⟩) (k.block 0 h.1 hS)]
    exact this⟩
theorem run_slice49 (w : World) (b off k : Nat) (hk : k < 64) : Sem.run Tryd.prog (Instr.sliceAt 83 (.pointer (some ⟨b, off, none⟩)) (some (.int .i64 (k : Int))) none none) w = .ok (.slice (some ⟨b, off + k, none⟩) (64 - k) (64 - k)) w := by
  simp [Instr.sliceAt, Instr.sureAddr, run_underlying Tryd.underlying83, Instr.sliceBounds, go_sem]
  rw [if_pos (by omega), if_neg (by omega)]
theorem bys_lt (s : ByteArray) : ∀ b ∈ bys s, b < 256 := by
  intro b hb
  simp only [bys, List.mem_map] at hb
  obtain ⟨c, _, rfl⟩ := hb
  exact c.toNat_lt
theorem put_bytes {f : Nat → Nat} (hf : ∀ i, f i < 256) : ∀ (l : List Nat) (off : Nat), (∀ b ∈ l, b < 256) → ∀ i, put f off l i < 256 := by
  intro l off hl i
  rw [put_get]
  split
  · rename_i hh
    rw [List.getD_eq_getElem?_getD, List.getElem?_eq_getElem (by omega)]
    exact hl _ (List.getElem_mem _)
  · exact hf i
theorem setRow_drew_heap (w : World) (g : Nat) (c : Array Value) : (w.drew.setRow g c).heap = (w.setRow g c).heap := rfl
theorem wrote_block {w w4 : World} {b o n : Nat} {x : HS} {l : ByteArray} (hx : HIs w b x) (ho : x.z % 64 = o) (hn1 : n ≤ 64 - o) (hn2 : n ≤ l.size)
    (hw : w4 = w.drew.setRow b ((hcells x).take (8 + o) ++ ((bys l).take n).map bval ++ (hcells x).drop (8 + o + n)).toArray) : HIs w4 b ⟨x.st, put x.bl (x.z % 64) ((bys l).take n), x.z⟩ := by
  have hlen : ((bys l).take n).length = n := by rw [List.length_take, bys_length]; omega
  refine ⟨?_, hx.small, put_bytes hx.bytes _ _ (fun c hc => bys_lt l c (List.mem_of_mem_take hc))⟩
  rw [hw, ← put_cells x ((bys l).take n) (by rw [hlen]; omega), hlen, ho]
  exact setRow_heap w.drew b _ _ 85 (0, 0) hx.block
theorem wrote_keeps {w w4 : World} {b : Nat} {c : Array Value} (hw : w4 = w.drew.setRow b c) : Keeps (fun k => k = b) w w4 := by
  subst hw
  exact ⟨rfl, rfl, rfl, by simp, fun k _ hk => setRow_other w.drew b k c hk⟩
theorem HIs.size {w : World} {b : Nat} {h : HS} (q : HIs w b h) (z2 : Nat) : HIs (w.setCell ⟨b, 72, none⟩ (.int .i64 (z2 : Int))) b ⟨h.st, h.bl, z2⟩ := by
  refine ⟨?_, q.small, q.bytes⟩
  rw [block_setCell q.block, List.setIfInBounds_toArray]
  have e : (hcells h).set 72 (.int .i64 (z2 : Int)) = hcells ⟨h.st, h.bl, z2⟩ := by
    apply List.ext_getElem?
    intro k
    rw [List.getElem?_set, hcells_get, hcells_get, hcells_length]
    by_cases hk : 72 = k
    · subst hk; simp
    · rw [if_neg hk]
      by_cases h1 : k < 8
      · rw [if_pos h1, if_pos h1]
      · rw [if_neg h1, if_neg h1]
        by_cases h2 : k < 72
        · rw [if_pos h2, if_pos h2]
        · rw [if_neg h2, if_neg h2, if_neg (by omega), if_neg (by omega)]
  rw [e]
theorem HIs.word {w : World} {b : Nat} {h : HS} (q : HIs w b h) {i : Nat} (hi : i < 8) : w.cell? ⟨b, i, none⟩ = some (.int .u32 (h.st i : Int)) :=
  cell_of_block q.block (by rw [List.getElem?_toArray, hcells_get, if_pos hi])
theorem below_his {w w' : World} {b : Nat} {h : HS} (q : HIs w b h) (B : Below w.drew.heap.size w.drew w') (hlt : b < w.heap.size) : HIs w' b h := ⟨(B.block b hlt).trans q.block, q.small, q.bytes⟩
theorem below_gk {w w' : World} (q : GK w) (B : Below w.drew.heap.size w.drew w') : GK w' :=
  ⟨Nat.lt_of_lt_of_le q.1 B.size, fun i hi => (B.cell (p := ⟨0, i, none⟩) q.1).trans (q.2 i hi)⟩
theorem below_his' {w w' : World} {b : Nat} {h : HS} (q : HIs w b h) (B : Below w.heap.size w w') (hlt : b < w.heap.size) : HIs w' b h := ⟨(B.block b hlt).trans q.block, q.small, q.bytes⟩
theorem bys_drop (l : ByteArray) (n : Nat) : bys (l.extract n l.size) = (bys l).drop n := by
  simp only [bys, ByteArray.data_extract, Array.toList_extract]
  rw [show List.extract l.data.toList n l.size = (l.data.toList.drop n).take (l.size - n) from rfl, List.take_of_length_le (by simp), List.map_drop]
theorem absorb_round {x h : HS} {l s : ByteArray} {o n z2 : Nat} (HA : absorbAll x (bys l) = absorbAll h (bys s)) (ho : x.z % 64 = o) (hn1 : n ≤ 64 - o) (hn2 : n ≤ l.size) (hn3 : 1 ≤ n) (hz : x.z + n = z2) :
    absorbAll ⟨if z2 % 64 = 0 then comp x.st (put x.bl (x.z % 64) ((bys l).take n)) else x.st, put x.bl (x.z % 64) ((bys l).take n), z2⟩ (bys (l.extract n l.size)) = absorbAll h (bys s) := by
  have hlen : ((bys l).take n).length = n := by rw [List.length_take, bys_length]; omega
  have := absorb_fill ((bys l).take n) x (by rw [hlen]; omega) (by intro e; rw [e] at hlen; simp at hlen; omega)
  rw [hlen, hz] at this
  rw [← this, bys_drop, ← absorbAll_append, List.take_append_drop]
  exact HA
theorem keeps_below {S : Nat → Prop} {a w w' : World} (k : Keeps S a w) (B : Below w.heap.size w w') : Keeps S a w' :=
  k.trans ⟨B.os, B.tape, B.output, B.size, fun i hi _ => B.block i hi⟩
theorem range_block {w : World} {b : Nat} {h : HS} (q : HIs w b h) : w.rangeAt b 8 (bcells h.bl 64) := fun j v hv => by
  rw [cell_of_row w b _ _ 85 (0, 0) q.block, List.getElem?_toArray, hcells_get]
  have hj : j < 64 := by have := (List.getElem?_eq_some_iff.1 hv).1; rwa [bcells_length] at this
  rw [bcells_get hj] at hv
  rw [if_neg (by omega), if_pos (by omega), show 8 + j - 8 = j by omega]
  exact hv
theorem y49 {ops : Array Oper} {b : Nat} {BL : Nat → Nat} {after : Array Edge} {ty : TypeId} {pos : String} (a : Act) (hx : a.eval (Operand.tmp 45) = .pointer (some ⟨b, 8, none⟩))
    (hi : (Tryd.prog.info? 83).map (·.size) = some (bcells BL 64).length) : YieldsIf Tryd.prog ops (fun W => W.rangeAt b 8 (bcells BL 64)) { dst := some 46, op := Op.load 83 (Operand.tmp 45), type := ty, pos := pos, after := after, guard := none } (.agg (bcells BL 64).toArray) a :=
  yieldsIf_load_mid rfl 83 (.tmp 45) rfl b 8 hx (bcells BL 64) _ (fun _ h => h) Tryd.underlying83 rfl hi
section
variable {ops : Array Oper} {o : Oper} {a : Act} {w : World} {K : Act → World → Prop} {Q : Exit → Act → World → Prop} {E : Prop} {b : Nat} {h : HS} {ty : TypeId} {pos : String} {after : Array Edge}
theorem st_load48 (hg : w.heap[b]? = some (.cells (hcells h).toArray 85 (0, 0))) (hx : a.eval (Operand.tmp 41) = .pointer (some ⟨b, 0, none⟩)) (hk : K (a.put (some 42) (.agg (wcells h.st 8).toArray)) w) :
    if Region.wanted { dst := some 42, op := Op.load 82 (Operand.tmp 41), type := ty, pos := pos, after := after, guard := none } (yielded ops a.tmps) = true then Oper.wp Tryd.prog { dst := some 42, op := Op.load 82 (Operand.tmp 41), type := ty, pos := pos, after := after, guard := none } a w K Q else E := by
  rw [if_pos (by simp [Region.wanted])]
  exact wp_load_mid 82 (.tmp 41) rfl b 0 hx 85 [] (wcells h.st 8) (bcells h.bl 64 ++ [Value.int .i64 (h.z : Int)]) (0, 0) _ (by rw [hg, hcells, List.append_assoc]; rfl) rfl Tryd.underlying82 rfl (by rw [wcells_length]; exact size48) hk
theorem st_store48 {st : Nat → Nat} (hg : w.heap[b]? = some (.cells (hcells h).toArray 85 (0, 0))) (hx : a.eval (Operand.tmp 50) = .pointer (some ⟨b, 0, none⟩)) (hy : a.eval (Operand.tmp 48) = .agg (wcells st 8).toArray)
    (hk : K (a.put none undef) (w.setRow b (hcells ⟨st, h.bl, h.z⟩).toArray)) :
    if Region.wanted { dst := none, op := Op.store 82 (Operand.tmp 50) (Operand.tmp 48), type := ty, pos := pos, after := after, guard := none } (yielded ops a.tmps) = true then Oper.wp Tryd.prog { dst := none, op := Op.store 82 (Operand.tmp 50) (Operand.tmp 48), type := ty, pos := pos, after := after, guard := none } a w K Q else E := by
  rw [if_pos (by simp [Region.wanted])]
  refine wp_store_mid 82 (.tmp 50) (.tmp 48) rfl b 0 (wcells st 8) hx hy 85 [] (wcells h.st 8) (bcells h.bl 64 ++ [Value.int .i64 (h.z : Int)]) (by rw [hg, hcells, List.append_assoc]; rfl) rfl (by rw [wcells_length]; exact size48) (by rw [wcells_length, wcells_length]) (wcells_one _ _) ?_
  rw [List.nil_append, ← List.append_assoc]
  exact hk
end
theorem HIs.restate {w : World} {b : Nat} {h : HS} (q : HIs w b h) {st : Nat → Nat} (hs : Small st) : HIs (w.setRow b (hcells ⟨st, h.bl, h.z⟩).toArray) b ⟨st, h.bl, h.z⟩ :=
  ⟨setRow_heap w b _ _ 85 (0, 0) q.block, hs, q.bytes⟩
theorem noPanic_normal {Q : Exit → Act → World → Prop} {a : Act} {w : World} (h : Q .normal a w) : NoPanic Q .normal a w := h
theorem keeps_row {a w : World} {b : Nat} (k : Keeps (fun j => j = b) a w) (c : Array Value) : Keeps (fun j => j = b) a (w.setRow b c) :=
  k.trans ⟨rfl, rfl, rfl, by simp, fun i _ hi => setRow_other w b i c hi⟩
theorem size5 : (Tryd.prog.info? 5).map (·.size) = some 1 := by kernel_rfl
set_option maxRecDepth 20000 in
set_option maxHeartbeats 8000000 in
theorem write_any (s : ByteArray) (h : HS) (b : Nat) (w : World) (hb : HIs w b h) (hb0 : b ≠ 0) (hK : GK w) (hz : h.z + s.size ≤ 9223372036854775807) :
    Calls Tryd.prog 48 #[.pointer (some ⟨b, 0, none⟩), .string s] w fun e w' => e = .returned (.tuple #[]) ∧ HIs w' b (absorbAll h (bys s)) ∧ Keeps (fun k => k = b) w w' := by
  have HK : Hid _ := hK
  clear hK
  have HZ : Hid _ := hz
  clear hz
  go_enter Tryd.func48, Tryd.ntmps48
  go_wp2_with fail
  go_loopw [1] (fun v wr => ∃ (l : ByteArray) (x : HS), v = .string l ∧ HIs wr b x ∧ Hid (absorbAll x (bys l) = absorbAll h (bys s)) ∧ Hid (x.z + l.size ≤ 9223372036854775807) ∧ Keeps (fun k => k = b) w wr) (fun v _ => match v with | .string l => l.size | _ => 0)
  case atStart => exact ⟨s, h, rfl, hb, rfl, HZ, Keeps.refl _ _⟩
  case round =>
    clear hb
    obtain ⟨l, x, rfl, hx, HA, HZ', hk⟩ := hrel
    by_cases hlt : 0 < l.size
    · have c := hx.c
      have f := hx.f
      have hg := hx.block
      obtain ⟨o, ho⟩ : ∃ o, x.z % 64 = o := ⟨_, rfl⟩
      have hrem : (x.z : Int).tmod 64 = (o : Int) := by rw [Int.tmod_eq_emod_of_nonneg (by omega)]; omega
      have hol : o < 64 := by omega
      have hsl := run_slice49 wr.drew b 8 o hol
      have HO : Hid _ := ho
      clear ho
      go_wp2_with fail
      obtain ⟨n, hn⟩ : ∃ n, n = Nat.min l.size (64 - o) := ⟨_, rfl⟩
      have hn1 : n ≤ 64 - o := by rw [hn]; exact Nat.min_le_right _ _
      have hn2 : n ≤ l.size := by rw [hn]; exact Nat.min_le_left _ _
      have hn3 : 1 ≤ n := by rw [hn]; exact Nat.le_min.2 ⟨hlt, by omega⟩
      have HN : Hid _ := hn
      clear hn
      go_region_law (refine step_copy_str rfl (.tmp 18) (.tmp 19) 37 9 rfl 5 Tryd.underlying37 size5 b (8 + o) (64 - o) (64 - o) l rfl rfl (hcells x) 85 (by exact hg) n HN.out (by rw [hcells_length]; omega) ?_; intro w4 hw4; have h4 : HIs w4 b ⟨x.st, put x.bl (x.z % 64) ((bys l).take n), x.z⟩ := wrote_block hx HO.out hn1 hn2 hw4; have k4 : Keeps (fun k => k = b) wr w4 := wrote_keeps hw4; clear hw4)
      have c4 := h4.c
      have f4 := h4.f
      clear hsl hg c f
      obtain ⟨z2, hz2⟩ : ∃ z2, x.z + n = z2 := ⟨_, rfl⟩
      have hadd : wrap64 ((x.z : Int) + (n : Int)) = (z2 : Int) := by have := HZ'.out; unfold wrap64; omega
      obtain ⟨o2, ho2⟩ : ∃ o2, z2 % 64 = o2 := ⟨_, rfl⟩
      have hrem2 : (z2 : Int).tmod 64 = (o2 : Int) := by rw [Int.tmod_eq_emod_of_nonneg (by omega)]; omega
      have HZ2 : Hid _ := hz2
      have HO2 : Hid _ := ho2
      clear hz2 ho2
      have h5 := h4.size z2
      have k5 := (hk.trans k4).trans ((Keeps.refl (fun k => k = b) w4).setCell (p := ⟨b, 72, none⟩) (Or.inl rfl) (.int .i64 (z2 : Int)))
      by_cases hfull : o2 = 0
      · subst hfull
        go_wp2_with fail
        clear c4 f4 h4 k4
        generalize w4.setCell ⟨b, 72, none⟩ (.int .i64 (z2 : Int)) = w5 at *
        generalize hBL : put x.bl (x.z % 64) ((bys l).take n) = BL at *
        have HBL : Hid _ := hBL
        clear hBL
        have i49 : (Tryd.prog.info? 83).map (·.size) = some (bcells BL 64).length := by rw [bcells_length]; exact size49
        have HK5 : Hid (GK w5) := GK.kept HK.out k5 (fun e => hb0 e.symm)
        have hlt5 := h5.lt
        refine wp_region_noPanic ?_
        refine wp_region_held_drew (S := fun W => W.rangeAt b 8 (bcells BL 64)) (by kernel_rfl) (range_block h5) (fun hHeld => ?_)
        refine wpAnyH_take (i := 0) (oi := { dst := some 38, op := Op.move (Operand.tmp 0), type := 67, pos := "sum.go:54", after := #[], guard := none }) (v := .pointer (some ⟨b, 0, none⟩)) rfl (by kernel_rfl) (by kernel_rfl) (by kernel_rfl) (fun _ _ _ h => h) (Or.inl ⟨by rfl, fun w hSw => by go_simp⟩) hHeld ?_
        simp only [Act.put, List.setIfInBounds_toArray, List.set_cons_zero, List.set_cons_succ]
        refine wpAnyH_take (i := 1) (oi := { dst := some 39, op := Op.move (Operand.tmp 0), type := 67, pos := "sum.go:54", after := #[], guard := none }) (v := .pointer (some ⟨b, 0, none⟩)) rfl (by kernel_rfl) (by kernel_rfl) (by kernel_rfl) (fun _ _ _ h => h) (Or.inl ⟨by rfl, fun w hSw => by go_simp⟩) hHeld ?_
        simp only [Act.put, List.setIfInBounds_toArray, List.set_cons_zero, List.set_cons_succ]
        refine wpAnyH_take (i := 2) (oi := { dst := some 40, op := Op.nilCheck (Operand.tmp 39), type := 0, pos := "sum.go:54", after := #[{ on := 1, ground := Ground.data }], guard := none }) (v := .pointer (some ⟨b, 0, none⟩)) rfl (by kernel_rfl) (by kernel_rfl) (by kernel_rfl) (fun _ _ _ h => h) (Or.inl ⟨by rfl, fun w hSw => by go_simp⟩) hHeld ?_
        simp only [Act.put, List.setIfInBounds_toArray, List.set_cons_zero, List.set_cons_succ]
        refine wpAnyH_take (i := 3) (oi := { dst := some 41, op := Op.fieldAddr 85 (Operand.tmp 40) 0, type := 0, pos := "sum.go:54", after := #[{ on := 2, ground := Ground.data }], guard := none }) (v := .pointer (some ⟨b, 0, none⟩)) rfl (by kernel_rfl) (by kernel_rfl) (by kernel_rfl) (fun _ _ _ h => h) (Or.inl ⟨by rfl, fun w hSw => by go_simp⟩) hHeld ?_
        simp only [Act.put, List.setIfInBounds_toArray, List.set_cons_zero, List.set_cons_succ]
        refine wpAnyH_take (i := 5) (oi := { dst := some 43, op := Op.move (Operand.tmp 0), type := 67, pos := "sum.go:54", after := #[], guard := none }) (v := .pointer (some ⟨b, 0, none⟩)) rfl (by kernel_rfl) (by kernel_rfl) (by kernel_rfl) (fun _ _ _ h => h) (Or.inl ⟨by rfl, fun w hSw => by go_simp⟩) hHeld ?_
        simp only [Act.put, List.setIfInBounds_toArray, List.set_cons_zero, List.set_cons_succ]
        refine wpAnyH_take (i := 6) (oi := { dst := some 44, op := Op.nilCheck (Operand.tmp 43), type := 0, pos := "sum.go:54", after := #[{ on := 5, ground := Ground.data }], guard := none }) (v := .pointer (some ⟨b, 0, none⟩)) rfl (by kernel_rfl) (by kernel_rfl) (by kernel_rfl) (fun _ _ _ h => h) (Or.inl ⟨by rfl, fun w hSw => by go_simp⟩) hHeld ?_
        simp only [Act.put, List.setIfInBounds_toArray, List.set_cons_zero, List.set_cons_succ]
        refine wpAnyH_take (i := 7) (oi := { dst := some 45, op := Op.fieldAddr 85 (Operand.tmp 44) 1, type := 0, pos := "sum.go:54", after := #[{ on := 6, ground := Ground.data }], guard := none }) (v := .pointer (some ⟨b, 8, none⟩)) rfl (by kernel_rfl) (by kernel_rfl) (by kernel_rfl) (fun _ _ _ h => h) (Or.inl ⟨by rfl, fun w hSw => by go_simp⟩) hHeld ?_
        simp only [Act.put, List.setIfInBounds_toArray, List.set_cons_zero, List.set_cons_succ]
        refine wpAnyH_take (i := 8) (oi := { dst := some 46, op := Op.load 83 (Operand.tmp 45), type := 83, pos := "sum.go:54", after := #[{ on := 7, ground := Ground.data }], guard := none }) (v := .agg (bcells BL 64).toArray) rfl (by kernel_rfl) (by kernel_rfl) (by kernel_rfl) (fun _ _ _ h => h) (y49 _ (by simp [Act.eval]) i49) hHeld ?_
        simp only [Act.put, List.setIfInBounds_toArray, List.set_cons_zero, List.set_cons_succ]
        refine wpAnyH_ready (rs := [4, 9]) (by kernel_rfl) (by simp) (AllReadyH.cons (o := { dst := some 42, op := Op.load 82 (Operand.tmp 41), type := 82, pos := "sum.go:54", after := #[{ on := 3, ground := Ground.data }], guard := none }) rfl (fun K hK => ?_) (AllReadyH.cons (o := { dst := some 47, op := Op.call { callee := Callee.value (Operand.func 60), args := #[Operand.tmp 46], argTypes := #[83] }, type := 87, pos := "sum.go:54", after := #[{ on := 8, ground := Ground.data }], guard := none }) rfl (fun K hK => ?_) AllReadyH.nil))
        · refine st_load48 h5.block (by simp [Act.eval]) (hK.out _ _ hHeld (fun hHeld => ?_))
          simp only [Act.put, List.setIfInBounds_toArray, List.set_cons_zero, List.set_cons_succ]
          refine wpAnyH_ready (rs := [9]) (by kernel_rfl) (by simp) (AllReadyH.cons (o := { dst := some 47, op := Op.call { callee := Callee.value (Operand.func 60), args := #[Operand.tmp 46], argTypes := #[83] }, type := 87, pos := "sum.go:54", after := #[{ on := 8, ground := Ground.data }], guard := none }) rfl (fun K hK => ?_) AllReadyH.nil)
          go_simp
          refine (spread_any BL h5.bytes _).mono ?_
          rintro e6 w6 ⟨rfl, B6⟩
          have h6 : HIs w6 b ⟨x.st, BL, z2⟩ := below_his h5 B6 hlt5
          refine hK.out _ _ (range_block h6) (fun hHeld => ?_)
          have HK6 : Hid (GK w6) := below_gk HK5.out B6
          refine wpAnyH_ready (rs := [10]) (by kernel_rfl) (by simp) (AllReadyH.cons (o := { dst := some 48, op := Op.call { callee := Callee.value (Operand.func 59), args := #[Operand.tmp 42, Operand.tmp 47], argTypes := #[82, 87] }, type := 82, pos := "sum.go:54", after := #[{ on := 4, ground := Ground.data }, { on := 9, ground := Ground.data }, { on := 9, ground := Ground.chain }], guard := none }) rfl (fun K hK => ?_) AllReadyH.nil)
          go_simp
          refine (behind_any x.st (wordsOf BL) Kc h5.small _ HK6.out.1 HK6.out.2).mono ?_
          rintro e7 w7 ⟨rfl, B7⟩
          have h7 : HIs w7 b ⟨x.st, BL, z2⟩ := below_his' h6 B7 h6.lt
          refine hK.out _ _ (range_block h7) (fun hHeld => ?_)
          refine wpAnyH_take (i := 11) (oi := { dst := some 49, op := Op.nilCheck (Operand.tmp 38), type := 0, pos := "sum.go:54", after := #[{ on := 0, ground := Ground.data }, { on := 0, ground := Ground.phase }, { on := 1, ground := Ground.phase }, { on := 2, ground := Ground.phase }, { on := 3, ground := Ground.phase }, { on := 4, ground := Ground.phase }, { on := 5, ground := Ground.phase }, { on := 6, ground := Ground.phase }, { on := 7, ground := Ground.phase }, { on := 8, ground := Ground.phase }, { on := 9, ground := Ground.phase }, { on := 10, ground := Ground.phase }], guard := none }) (v := .pointer (some ⟨b, 0, none⟩)) rfl (by kernel_rfl) (by kernel_rfl) (by kernel_rfl) (fun _ _ _ h => h) (Or.inl ⟨by rfl, fun w hSw => by go_simp⟩) hHeld ?_
          simp only [Act.put, List.setIfInBounds_toArray, List.set_cons_zero, List.set_cons_succ]
          refine wpAnyH_take (i := 12) (oi := { dst := some 50, op := Op.fieldAddr 85 (Operand.tmp 49) 0, type := 0, pos := "sum.go:54", after := #[{ on := 11, ground := Ground.data }, { on := 0, ground := Ground.phase }, { on := 1, ground := Ground.phase }, { on := 2, ground := Ground.phase }, { on := 3, ground := Ground.phase }, { on := 4, ground := Ground.phase }, { on := 5, ground := Ground.phase }, { on := 6, ground := Ground.phase }, { on := 7, ground := Ground.phase }, { on := 8, ground := Ground.phase }, { on := 9, ground := Ground.phase }, { on := 10, ground := Ground.phase }], guard := none }) (v := .pointer (some ⟨b, 0, none⟩)) rfl (by kernel_rfl) (by kernel_rfl) (by kernel_rfl) (fun _ _ _ h => h) (Or.inl ⟨by rfl, fun w hSw => by go_simp⟩) hHeld ?_
          simp only [Act.put, List.setIfInBounds_toArray, List.set_cons_zero, List.set_cons_succ]
          refine wpAnyH_ready (rs := [13]) (by kernel_rfl) (by simp) (AllReadyH.cons (o := { dst := none, op := Op.store 82 (Operand.tmp 50) (Operand.tmp 48), type := 0, pos := "sum.go:54", after := #[{ on := 12, ground := Ground.data }, { on := 10, ground := Ground.data }, { on := 10, ground := Ground.chain }, { on := 0, ground := Ground.phase }, { on := 1, ground := Ground.phase }, { on := 2, ground := Ground.phase }, { on := 3, ground := Ground.phase }, { on := 4, ground := Ground.phase }, { on := 5, ground := Ground.phase }, { on := 6, ground := Ground.phase }, { on := 7, ground := Ground.phase }, { on := 8, ground := Ground.phase }, { on := 9, ground := Ground.phase }, { on := 10, ground := Ground.phase }], guard := none }) rfl (fun K hK => ?_) AllReadyH.nil)
          have h8 := h7.restate (addTo_small (x := rds Kc (wordsOf BL) x.st 64) h5.small 8)
          refine st_store48 h7.block (by simp [Act.eval]) (by simp [Act.eval]) (hK.out _ _ (range_block h8) (fun hHeld => ?_))
          refine wpAnyH_done (by kernel_rfl) ?_ _
          have k7 : Hid (Keeps (fun k => k = b) w w7) := keeps_below (keeps_below k5 ⟨B6.os, B6.tape, B6.output, B6.size, B6.block⟩) B7
          have e8 := absorb_round HA.out HO.out hn1 hn2 hn3 HZ2.out
          rw [if_pos HO2.out, HBL.out] at e8
          have HE8 : Hid _ := e8
          clear e8
          refine noPanic_normal ?_
          go_wp2_with fail
          exact ⟨⟨_, h8, HE8.out, by have := HZ'.out; have := HZ2.out; show z2 + (l.size - n) ≤ _; omega, keeps_row k7.out _⟩, by omega⟩
        · go_simp
          refine (spread_any BL h5.bytes _).mono ?_
          rintro e6 w6 ⟨rfl, B6⟩
          have h6 : HIs w6 b ⟨x.st, BL, z2⟩ := below_his h5 B6 hlt5
          refine hK.out _ _ (range_block h6) (fun hHeld => ?_)
          have HK6 : Hid (GK w6) := below_gk HK5.out B6
          refine wpAnyH_ready (rs := [4]) (by kernel_rfl) (by simp) (AllReadyH.cons (o := { dst := some 42, op := Op.load 82 (Operand.tmp 41), type := 82, pos := "sum.go:54", after := #[{ on := 3, ground := Ground.data }], guard := none }) rfl (fun K hK => ?_) AllReadyH.nil)
          refine st_load48 h6.block (by simp [Act.eval]) (hK.out _ _ hHeld (fun hHeld => ?_))
          simp only [Act.put, List.setIfInBounds_toArray, List.set_cons_zero, List.set_cons_succ]
          refine wpAnyH_ready (rs := [10]) (by kernel_rfl) (by simp) (AllReadyH.cons (o := { dst := some 48, op := Op.call { callee := Callee.value (Operand.func 59), args := #[Operand.tmp 42, Operand.tmp 47], argTypes := #[82, 87] }, type := 82, pos := "sum.go:54", after := #[{ on := 4, ground := Ground.data }, { on := 9, ground := Ground.data }, { on := 9, ground := Ground.chain }], guard := none }) rfl (fun K hK => ?_) AllReadyH.nil)
          go_simp
          refine (behind_any x.st (wordsOf BL) Kc h5.small _ HK6.out.1 HK6.out.2).mono ?_
          rintro e7 w7 ⟨rfl, B7⟩
          have h7 : HIs w7 b ⟨x.st, BL, z2⟩ := below_his' h6 B7 h6.lt
          refine hK.out _ _ (range_block h7) (fun hHeld => ?_)
          refine wpAnyH_take (i := 11) (oi := { dst := some 49, op := Op.nilCheck (Operand.tmp 38), type := 0, pos := "sum.go:54", after := #[{ on := 0, ground := Ground.data }, { on := 0, ground := Ground.phase }, { on := 1, ground := Ground.phase }, { on := 2, ground := Ground.phase }, { on := 3, ground := Ground.phase }, { on := 4, ground := Ground.phase }, { on := 5, ground := Ground.phase }, { on := 6, ground := Ground.phase }, { on := 7, ground := Ground.phase }, { on := 8, ground := Ground.phase }, { on := 9, ground := Ground.phase }, { on := 10, ground := Ground.phase }], guard := none }) (v := .pointer (some ⟨b, 0, none⟩)) rfl (by kernel_rfl) (by kernel_rfl) (by kernel_rfl) (fun _ _ _ h => h) (Or.inl ⟨by rfl, fun w hSw => by go_simp⟩) hHeld ?_
          simp only [Act.put, List.setIfInBounds_toArray, List.set_cons_zero, List.set_cons_succ]
          refine wpAnyH_take (i := 12) (oi := { dst := some 50, op := Op.fieldAddr 85 (Operand.tmp 49) 0, type := 0, pos := "sum.go:54", after := #[{ on := 11, ground := Ground.data }, { on := 0, ground := Ground.phase }, { on := 1, ground := Ground.phase }, { on := 2, ground := Ground.phase }, { on := 3, ground := Ground.phase }, { on := 4, ground := Ground.phase }, { on := 5, ground := Ground.phase }, { on := 6, ground := Ground.phase }, { on := 7, ground := Ground.phase }, { on := 8, ground := Ground.phase }, { on := 9, ground := Ground.phase }, { on := 10, ground := Ground.phase }], guard := none }) (v := .pointer (some ⟨b, 0, none⟩)) rfl (by kernel_rfl) (by kernel_rfl) (by kernel_rfl) (fun _ _ _ h => h) (Or.inl ⟨by rfl, fun w hSw => by go_simp⟩) hHeld ?_
          simp only [Act.put, List.setIfInBounds_toArray, List.set_cons_zero, List.set_cons_succ]
          refine wpAnyH_ready (rs := [13]) (by kernel_rfl) (by simp) (AllReadyH.cons (o := { dst := none, op := Op.store 82 (Operand.tmp 50) (Operand.tmp 48), type := 0, pos := "sum.go:54", after := #[{ on := 12, ground := Ground.data }, { on := 10, ground := Ground.data }, { on := 10, ground := Ground.chain }, { on := 0, ground := Ground.phase }, { on := 1, ground := Ground.phase }, { on := 2, ground := Ground.phase }, { on := 3, ground := Ground.phase }, { on := 4, ground := Ground.phase }, { on := 5, ground := Ground.phase }, { on := 6, ground := Ground.phase }, { on := 7, ground := Ground.phase }, { on := 8, ground := Ground.phase }, { on := 9, ground := Ground.phase }, { on := 10, ground := Ground.phase }], guard := none }) rfl (fun K hK => ?_) AllReadyH.nil)
          have h8 := h7.restate (addTo_small (x := rds Kc (wordsOf BL) x.st 64) h5.small 8)
          refine st_store48 h7.block (by simp [Act.eval]) (by simp [Act.eval]) (hK.out _ _ (range_block h8) (fun hHeld => ?_))
          refine wpAnyH_done (by kernel_rfl) ?_ _
          have k7 : Hid (Keeps (fun k => k = b) w w7) := keeps_below (keeps_below k5 ⟨B6.os, B6.tape, B6.output, B6.size, B6.block⟩) B7
          have e8 := absorb_round HA.out HO.out hn1 hn2 hn3 HZ2.out
          rw [if_pos HO2.out, HBL.out] at e8
          have HE8 : Hid _ := e8
          clear e8
          refine noPanic_normal ?_
          go_wp2_with fail
          exact ⟨⟨_, h8, HE8.out, by have := HZ'.out; have := HZ2.out; show z2 + (l.size - n) ≤ _; omega, keeps_row k7.out _⟩, by omega⟩
      · have e8 := absorb_round HA.out HO.out hn1 hn2 hn3 HZ2.out
        rw [if_neg (by rw [HO2.out]; exact hfull)] at e8
        have HE8 : Hid _ := e8
        clear e8
        go_wp2_with fail
        exact ⟨⟨_, _, rfl, h5, HE8.out, by have := HZ'.out; have := HZ2.out; show _ + (l.extract n l.size).size ≤ _; rw [ByteArray.size_extract]; show z2 + _ ≤ _; omega, k5⟩, by show (l.extract n l.size).size < l.size; rw [ByteArray.size_extract]; omega⟩
    · have hl0 : l.size = 0 := by omega
      have e0 : bys l = [] := List.eq_nil_of_length_eq_zero (by rw [bys_length]; exact hl0)
      have hA := HA.out
      rw [e0] at hA
      have hx' : Hid (HIs wr b (absorbAll h (bys s))) := by rw [← hA]; exact hx
      clear hA e0
      go_wp2_with fail
      go_end0
      exact ⟨rfl, hx'.out, hk⟩
end Go.Proofs.YtedibkcempcpnaaDoor
