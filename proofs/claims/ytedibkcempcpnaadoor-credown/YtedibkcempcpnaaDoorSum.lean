/-
  The contracts of New, Fork, Len and of both Sums.
-/
import Derived.Test.YtedibkcempcpnaaDoorPad
import Derived.OwnWalk
import Derived.Laws.AppendOwn
namespace Go.Proofs.YtedibkcempcpnaaDoor
open Go.RowKit
/-- Bytes as cells. -/
def cellsOf (l : List UInt8) : List Value := l.map fun c => Value.int .u8 c.toNat
theorem cellsOf_length (l : List UInt8) : (cellsOf l).length = l.length := by simp [cellsOf]
theorem cellsOf_append (a b : List UInt8) : cellsOf (a ++ b) = cellsOf a ++ cellsOf b := by simp [cellsOf]
theorem cellsOf_one (l : List UInt8) : ∀ u ∈ cellsOf l, u.oneCell' = true := by
  intro u hu
  simp only [cellsOf, List.mem_map] at hu
  obtain ⟨c, _, rfl⟩ := hu
  rfl
theorem form_of_row {w : World} {base : Nat} {v : Value} {n : Nat} {xs : List Value} (h : w.ownsRow base 5 1 v n xs) : ∃ a cap, v = .slice a n cap := by
  rcases h.2 with ⟨rfl, hn⟩ | ⟨g, cap, cur, rfl, _⟩
  · exact ⟨none, 0, by rw [hn]⟩
  · exact ⟨_, _, rfl⟩
theorem conv_row {W : World} {base : Nat} {bs : List UInt8} {a : Option Addr} {cap : Nat} (h : W.ownsRow base 5 1 (.slice a bs.length cap) bs.length (cellsOf bs)) :
    (convert 37 9 (.slice a bs.length cap)).run Tryd.prog W = .ok (.string ⟨bs.toArray⟩) W := by
  rcases h.2 with ⟨hv, hn⟩ | ⟨g, cap', cur, hv, _⟩
  · have hb : bs = [] := List.eq_nil_of_length_eq_zero hn
    subst hb
    simp only [Value.slice.injEq] at hv
    obtain ⟨rfl, _, rfl⟩ := hv
    exact run_convert_bytes_nil W 37 5 Tryd.underlying37 Tryd.underlying5 0 0 9 Tryd.underlying9
  · simp only [Value.slice.injEq] at hv
    obtain ⟨rfl, _, rfl⟩ := hv
    refine run_convert_bytes_back W 37 9 5 _ _ bs Tryd.underlying37 Tryd.underlying5 Tryd.underlying9 (fun j hj => ?_)
    exact h.cells rfl j _ (by simp [cellsOf, hj])
theorem new_cells (W : World) (l : List Value) (t : TypeId) : ∀ j x, l[j]? = some x → (W.alloc (.cells l.toArray t)).cell? ((⟨W.heap.size, 0, none⟩ : Addr).add j) = some x := by
  intro j x hj
  rw [add_off, Nat.zero_add]
  exact cell_of_block (block_alloc_at W _) (by rw [List.getElem?_toArray]; exact hj)
/-- A number's lowest byte. -/
def bt (x : Nat) : UInt8 := UInt8.ofNat x
theorem bt_mod (x : Nat) : (x : Int) % 256 = ((bt x).toNat : Int) := by simp [bt]
theorem bt_div (x d : Nat) : (x : Int) / (d : Int) % 256 = ((bt (x / d)).toNat : Int) := by
  rw [← bt_mod]; simp
/-- A word's bytes. -/
def wordBytes (x : Nat) : List UInt8 := [bt (x / 16777216), bt (x / 65536), bt (x / 256), bt x]
def outOf (st : Nat → Nat) : Nat → List UInt8
  | 0 => []
  | k + 1 => outOf st k ++ wordBytes (st k)
theorem outOf_len (st : Nat → Nat) : ∀ k, (outOf st k).length = 4 * k
  | 0 => rfl
  | k + 1 => by rw [outOf, List.length_append, outOf_len st k]; simp [wordBytes]; omega
/-- The first state. -/
def h0List : List Nat := [1779033703, 3144134277, 1013904242, 2773480762, 1359893119, 2600822924, 528734635, 1541459225]
def h0 : Nat → Nat := fun i => h0List.getD i 0
theorem h0_small : Small h0 := by
  intro i
  unfold h0
  by_cases hi : i < 8
  · have : i = 0 ∨ i = 1 ∨ i = 2 ∨ i = 3 ∨ i = 4 ∨ i = 5 ∨ i = 6 ∨ i = 7 := by omega
    rcases this with rfl | rfl | rfl | rfl | rfl | rfl | rfl | rfl <;> decide
  · rw [List.getD_eq_getElem?_getD, List.getElem?_eq_none (by simp [h0List]; omega)]
    decide
def fresh : HS := ⟨h0, fun _ => 0, 0⟩
theorem fresh_cells : hcells fresh = wcells h0 8 ++ bcells (fun _ => 0) 64 ++ [Value.int .i64 0] := rfl
theorem hcells_one (h : HS) : ∀ v ∈ hcells h, v.oneCell' = true := by
  intro v hv
  rcases List.mem_append.1 hv with hv | hv
  · rcases List.mem_append.1 hv with hv | hv
    · exact wcells_one _ _ v hv
    · exact bcells_one _ _ v hv
  · simp at hv
    subst hv
    rfl
theorem wpList_build_eq {P : Program} {w : World} {ops : Array Oper} {rest : List Oper} {o : Oper} {a : Act} {Q : Exit → Act → World → Prop} (hg : o.guard = none) (t : TypeId) (parts : Array (Nat × Operand)) (ho : o.op = .build t parts) (cs : Array Value)
    (hf : P.built t (parts.map fun (i, x) => (i, a.eval x)).toList = some cs) (h : wpList P ops Q rest (a.put o.dst (.agg cs)) w) : wpList P ops Q (o :: rest) a w :=
  wpList_build hg t parts ho (by rw [hf]; rfl) (by rw [hf]; exact h)
theorem new_any (w : World) : Calls Tryd.prog 47 #[] w fun e w' => e = .returned (.pointer (some ⟨w.heap.size, 0, none⟩)) ∧ HIs w' w.heap.size fresh ∧ Keeps (fun _ => False) w w' := by
  go_enter Tryd.func47, Tryd.ntmps47
  go_wp2_with (refine wpList_build_eq rfl 85 _ rfl (hcells fresh).toArray (by kernel_rfl) ?_)
  go_ret
  exact ⟨rfl, ⟨block_alloc_at _ _, h0_small, fun _ => (by decide : 0 < 256)⟩, (Keeps.refl _ _).alloc _⟩
set_option maxRecDepth 20000 in
theorem fork_any (b : Nat) (h : HS) (w : World) (q : HIs w b h) : Calls Tryd.prog 61 #[.pointer (some ⟨b, 0, none⟩)] w fun e w' => e = .returned (.pointer (some ⟨w.heap.size, 0, none⟩)) ∧ HIs w' w.heap.size h ∧ Keeps (fun _ => False) w w' := by
  have hg := q.block
  have hl := hcells_length h
  go_enter Tryd.func61, Tryd.ntmps61
  go_wp2_with (first
    | refine wpList_load_mid rfl 85 (.tmp 7) rfl b 0 rfl 85 [] (hcells h) [] _ _ (by rw [List.nil_append, List.append_nil]; exact hg) rfl Tryd.underlying85 rfl (by rw [hl]; exact size51) ?_
    | refine wpList_alloc_row rfl 85 rfl _ _ zero51 ?_
    | refine wpList_store_mid rfl 85 (.tmp 3) (.tmp 8) rfl w.heap.size 0 (hcells h) rfl rfl 85 [] (wcells (fun _ => 0) 8 ++ bcells (fun _ => 0) 64 ++ [Value.int .i64 0]) [] (by rw [List.nil_append, List.append_nil]; exact block_alloc_at _ _) rfl (by rw [hl]; exact size51) (by simp [hl, wcells_length, bcells_length]) (hcells_one h) ?_)
  go_ret
  exact ⟨rfl, ⟨setRow_heap _ _ _ _ 85 (0, 0) (block_alloc_at _ _), q.small, q.bytes⟩, ⟨rfl, rfl, rfl, by simp, fun k hk _ => by rw [setRow_other _ _ _ _ (by omega)]; exact Below.heap_alloc _ _ _ hk⟩⟩
/-- What stands behind n bytes. -/
def padBytes (n : Nat) : List UInt8 := 128 :: (List.replicate ((119 - n % 64) % 64) 0 ++ be8 (8 * n % 18446744073709551616))
/-- The sum of what was written. -/
def sumOf (h : HS) : List UInt8 := outOf (absorbAll h (bys ⟨(padBytes h.z).toArray⟩)).st 8
theorem GK.alloc' {w w' : World} {S : Nat → Prop} (h : GK w) (k : Keeps S w w') (hS : ∀ i, S i → w.heap.size ≤ i) : GK w' := h.kept (S := fun i => w.heap.size ≤ i) (k.mono (fun i _ hi => hS i hi)) (by have := h.1; omega)
theorem GK.below {w w' : World} (q : GK w) (B : Below w.heap.size w w') : GK w' :=
  ⟨Nat.lt_of_lt_of_le q.1 B.size, fun i hi => (B.cell (p := ⟨0, i, none⟩) q.1).trans (q.2 i hi)⟩
set_option maxRecDepth 20000 in
set_option maxHeartbeats 2000000 in
theorem hsum_any (b : Nat) (h : HS) (w : World) (q : HIs w b h) (hK : GK w) (hz : h.z + 200 ≤ 9223372036854775807) :
    Calls Tryd.prog 50 #[.pointer (some ⟨b, 0, none⟩)] w fun e w' => e = .returned (.string ⟨(sumOf h).toArray⟩) ∧ Below w.heap.size w w' := by
  obtain ⟨i0, hi, hz0, hz1, hz2⟩ := info_parts info5
  have HK : Hid (GK w) := hK
  clear hK
  have HZ : Hid _ := hz
  clear hz
  have hlt := q.lt
  go_enter Tryd.func50, Tryd.ntmps50
  go_wp2_with fail
  refine (fork_any b h w q).mono ?_
  rintro e1 w1 ⟨rfl, q1, k1⟩
  have qb : HIs w1 b h := q.kept k1 (fun f => f)
  have cz := qb.c
  have HK1 : Hid (GK w1) := HK.out.kept k1 (fun f => f)
  have z1 := q1.lt
  go_wp2_with fail
  refine (padding_any h.z w1 (by have := HZ.out; omega)).mono ?_
  rintro e2 w2 ⟨rfl, B2⟩
  have q2 : HIs w2 w.heap.size h := below_his' q1 B2 z1
  have HK2 : Hid (GK w2) := HK1.out.below B2
  have z2 := B2.size
  have hpos := HK.out.1
  have hps : (⟨(padBytes h.z).toArray⟩ : ByteArray).size ≤ 200 := by simp [padBytes, be8, ByteArray.size]; omega
  have HPS : Hid _ := hps
  clear hps
  go_wp2_with fail
  refine (write_any ⟨(padBytes h.z).toArray⟩ h w.heap.size w2 q2 (by omega) HK2.out (by have := HZ.out; have := HPS.out; omega)).mono ?_
  rintro e3 w3 ⟨rfl, q3, k3⟩
  have B3 : Below w.heap.size w w3 := ((k1.below (Nat.le_refl _) (fun _ f => f.elim)).trans (B2.mono (by omega))).trans (k3.below (by omega) (fun i hi => by rw [hi]; exact Nat.le_refl _))
  have z3 := k3.size
  have hb3 := q3.block
  obtain ⟨H3, hH3⟩ : ∃ H3, absorbAll h (bys ⟨(padBytes h.z).toArray⟩) = H3 := ⟨_, rfl⟩
  have HS3 : Hid (sumOf h = outOf H3.st 8) := by show _ = _; rw [sumOf, hH3]
  rw [hH3] at q3 hb3
  clear hH3 k3 k1 B2 q1 q2 cz
  go_wp2_with (refine wpList_load_mid rfl 82 (.tmp 20) rfl w.heap.size 0 rfl 85 [] (wcells H3.st 8) (bcells H3.bl 64 ++ [Value.int .i64 (H3.z : Int)]) (0, 0) _ (by rw [List.nil_append, ← List.append_assoc]; exact hb3) rfl Tryd.underlying82 rfl (by rw [wcells_length]; exact size48) ?_)
  go_loopw [4, 22] (fun v i wr => ∃ k : Nat, ∃ cur : List UInt8, k ≤ 8 ∧ i = .int .i64 k ∧ Hid (cur = outOf H3.st k) ∧ wr.ownsRow w.heap.size 5 1 v cur.length (cellsOf cur) ∧ Below w.heap.size w wr) (fun _ i _ => 8 - (intOf i).toNat)
  case atStart => exact ⟨0, [], by omega, rfl, rfl, World.ownsRow_nil _ _ _ _, B3⟩
  case round =>
    obtain ⟨k, cur, hk, rfl, HC, hown, hb⟩ := hrel
    have hsz := hb.size
    obtain ⟨a, cap, rfl⟩ := form_of_row hown
    by_cases hlt8 : k < 8
    · have hv := run_index48 wr (wcells H3.st 8).toArray k (.int .u32 (H3.st k : Int)) hlt8 (by rw [List.getElem?_toArray]; exact wcells_get hlt8)
      have HL' : Hid (cur.length = 4 * k) := by show _ = _; rw [HC.out, outOf_len]
      obtain ⟨x, hx⟩ : ∃ x, H3.st k = x := ⟨_, rfl⟩
      have HX : Hid (cur ++ wordBytes x = outOf H3.st (k + 1)) := by show _ = _; rw [outOf, HC.out, hx]
      rw [hx] at hv
      clear hx
      have j1 : (x : Int) / 16777216 % 256 = ((bt (x / 16777216)).toNat : Int) := bt_div x 16777216
      have j2 : (x : Int) / 65536 % 256 = ((bt (x / 65536)).toNat : Int) := bt_div x 65536
      have j3 : (x : Int) / 256 % 256 = ((bt (x / 256)).toNat : Int) := bt_div x 256
      have j4 : (x : Int) % 256 = ((bt x).toNat : Int) := bt_mod x
      go_wp2_with (at_builtin; refine wpList_append_own _ rfl (.tmp 25) (.tmp 37) 37 rfl w.heap.size 5 i0 (.int .u8 0) 1 1 Tryd.underlying37 hi hz0 hz1 hz2 rfl (by decide) _ _ _ rfl (hown.alloc _) ⟨wr.heap.size, 0, none⟩ 4 4 (cellsOf (wordBytes x)) rfl rfl (new_cells _ (cellsOf (wordBytes x)) _) (cellsOf_one _) (by have := HL'.out; unfold maxLen; omega) (by have := HL'.out; omega) (by simp; omega) ?_)
      intro v1 w5 hown1 hgrow _
      obtain ⟨a1, cap1, rfl⟩ := form_of_row hown1
      have HR : Hid (w5.ownsRow w.heap.size 5 1 (.slice a1 (cur.length + 4) cap1) (cur ++ wordBytes x).length (cellsOf (cur ++ wordBytes x))) := by
        rw [Hid, cellsOf_append, List.length_append]; exact hown1
      have HB : Hid (Below w.heap.size w w5) := (hb.alloc hsz _).grown hgrow (by simp; omega) (fun i hi => (hown.lt i hi).1)
      clear hown1 hgrow hown
      go_wp2_with fail
      go_roundw
      case rel => exact ⟨k + 1, cur ++ wordBytes x, by omega, by go_num, HX.out, HR.out, HB.out⟩
      case measure => simp [intOf]; omega
    · obtain rfl : k = 8 := by omega
      have hc := conv_row hown
      have HC' : Hid (cur = sumOf h) := by show _ = _; rw [HC.out, HS3.out]
      go_wp2_with fail
      go_ret
      exact ⟨by rw [← HC'.out]; rfl, hb⟩
theorem absorbAll_z (l : List Nat) : ∀ h : HS, (absorbAll h l).z = h.z + l.length := by
  induction l with
  | nil => intro h; rfl
  | cons b l ih => intro h; show (absorbAll (absorb h b) l).z = _; rw [ih]; show h.z + 1 + l.length = _; simp; omega
/-- A text's SHA-256. -/
def sha (s : ByteArray) : List UInt8 := sumOf (absorbAll fresh (bys s))
set_option maxRecDepth 20000 in
set_option maxHeartbeats 1000000 in
theorem sum_any (s : ByteArray) (w : World) (hK : GK w) (hs : s.size ≤ 140737488355328) :
    Calls Tryd.prog 46 #[.string s] w fun e w' => e = .returned (.string ⟨(sha s).toArray⟩) ∧ Below w.heap.size w w' := by
  have HK : Hid (GK w) := hK
  clear hK
  have hpos := HK.out.1
  go_enter Tryd.func46, Tryd.ntmps46
  go_wp2_with fail
  refine (new_any w).mono ?_
  rintro e1 w1 ⟨rfl, q1, k1⟩
  have HK1 : Hid (GK w1) := HK.out.kept k1 (fun f => f)
  have z1 := k1.size
  go_wp2_with fail
  refine (write_any s fresh w.heap.size w1 q1 (by omega) HK1.out (by show 0 + s.size ≤ _; omega)).mono ?_
  rintro e2 w2 ⟨rfl, q2, k2⟩
  have HK2 : Hid (GK w2) := HK1.out.kept k2 (by omega)
  have z2 := k2.size
  go_wp2_with fail
  refine (hsum_any w.heap.size _ w2 q2 HK2.out (by rw [absorbAll_z, bys_length]; show 0 + s.size + 200 ≤ _; omega)).mono ?_
  rintro e3 w3 ⟨rfl, B3⟩
  have HB : Hid (Below w.heap.size w w3) := ((k1.below (Nat.le_refl _) (fun _ f => f.elim)).trans (k2.below (by omega) (fun i hi => by rw [hi]; exact Nat.le_refl _))).trans (B3.mono (by omega))
  go_wp2_with fail
  go_ret
  exact ⟨rfl, HB.out⟩
end Go.Proofs.YtedibkcempcpnaaDoor
