/-
  A Hasher: what it has written, byte by byte; a text that is copied into its block.
-/
import Derived.Test.YtedibkcempcpnaaDoorBehind
import Derived.Laws.CopyRow
import Derived.Deep.RegionLaw
namespace Go.Proofs.YtedibkcempcpnaaDoor
open Go.RowKit
/-- The constants. -/
def kList : List Nat := [1116352408, 1899447441, 3049323471, 3921009573, 961987163, 1508970993, 2453635748, 2870763221, 3624381080, 310598401, 607225278, 1426881987, 1925078388, 2162078206, 2614888103, 3248222580, 3835390401, 4022224774, 264347078, 604807628, 770255983, 1249150122, 1555081692, 1996064986, 2554220882, 2821834349, 2952996808, 3210313671, 3336571891, 3584528711, 113926993, 338241895, 666307205, 773529912, 1294757372, 1396182291, 1695183700, 1986661051, 2177026350, 2456956037, 2730485921, 2820302411, 3259730800, 3345764771, 3516065817, 3600352804, 4094571909, 275423344, 430227734, 506948616, 659060556, 883997877, 958139571, 1322822218, 1537002063, 1747873779, 1955562222, 2024104815, 2227730452, 2361852424, 2428436474, 2756734187, 3204031479, 3329325298]
def Kc : Nat → Nat := fun i => kList.getD i 0
/-- The constants lie in their variable. -/
def GK (w : World) : Prop := 0 < w.heap.size ∧ ∀ i, i < 64 → w.cell? ⟨0, i, none⟩ = some (.int .u32 (Kc i : Int))
/-- What a Hasher is. -/
structure HS where
  st : Nat → Nat
  bl : Nat → Nat
  z : Nat
/-- The state behind a block. -/
def comp (st bl : Nat → Nat) : Nat → Nat := addTo st (rds Kc (wordsOf bl) st 64) 8
theorem addTo_small {s x : Nat → Nat} (h : Small s) : ∀ k, Small (addTo s x k)
  | 0 => h
  | k + 1 => (addTo_small h k).upd (Nat.mod_lt _ (by decide))
/-- One byte more. -/
def absorb (h : HS) (b : Nat) : HS := ⟨if (h.z + 1) % 64 = 0 then comp h.st (upd h.bl (h.z % 64) b) else h.st, upd h.bl (h.z % 64) b, h.z + 1⟩
def absorbAll (h : HS) (l : List Nat) : HS := l.foldl absorb h
/-- Bytes laid from a place on. -/
def put (f : Nat → Nat) (off : Nat) : List Nat → Nat → Nat
  | [] => f
  | b :: l => put (upd f off b) (off + 1) l
theorem put_get (l : List Nat) : ∀ (f : Nat → Nat) (off j : Nat), put f off l j = if off ≤ j ∧ j < off + l.length then l.getD (j - off) 0 else f j := by
  induction l with
  | nil => intro f off j; rw [put, if_neg (by intro hh; have := hh.2; simp at this; omega)]
  | cons b l ih =>
    intro f off j
    rw [put, ih]
    by_cases h1 : j = off
    · subst h1
      rw [if_neg (by omega), if_pos (by simp), upd_same, Nat.sub_self]
      rfl
    · rw [upd_other h1]
      by_cases h2 : off + 1 ≤ j ∧ j < off + 1 + l.length
      · rw [if_pos h2, if_pos (by simp; omega), show j - off = (j - (off + 1)) + 1 by omega]
        rfl
      · rw [if_neg h2, if_neg (by simp; omega)]
theorem absorb_fill (l : List Nat) : ∀ (h : HS), h.z % 64 + l.length ≤ 64 → l ≠ [] →
    absorbAll h l = ⟨if (h.z + l.length) % 64 = 0 then comp h.st (put h.bl (h.z % 64) l) else h.st, put h.bl (h.z % 64) l, h.z + l.length⟩ := by
  induction l with
  | nil => intro h _ hn; exact absurd rfl hn
  | cons b l ih =>
    intro h hl _
    simp only [List.length_cons] at hl
    by_cases hn : l = []
    · subst hn
      rfl
    · have hpos : 0 < l.length := List.length_pos_iff.2 hn
      have hz : (h.z + 1) % 64 = h.z % 64 + 1 := by omega
      have e : absorb h b = ⟨h.st, upd h.bl (h.z % 64) b, h.z + 1⟩ := by unfold absorb; rw [if_neg (by omega)]
      show absorbAll (absorb h b) l = _
      rw [e, ih ⟨h.st, upd h.bl (h.z % 64) b, h.z + 1⟩ (by show (h.z + 1) % 64 + _ ≤ _; omega) hn]
      show HS.mk (if (h.z + 1 + l.length) % 64 = 0 then comp h.st (put (upd h.bl (h.z % 64) b) ((h.z + 1) % 64) l) else h.st) (put (upd h.bl (h.z % 64) b) ((h.z + 1) % 64) l) (h.z + 1 + l.length) = _
      rw [hz, show h.z + 1 + l.length = h.z + (b :: l).length by simp; omega]
      rfl
theorem absorbAll_append (h : HS) (a b : List Nat) : absorbAll h (a ++ b) = absorbAll (absorbAll h a) b := List.foldl_append
/-- A Hasher's cells. -/
def hcells (h : HS) : List Value := wcells h.st 8 ++ bcells h.bl 64 ++ [Value.int .i64 (h.z : Int)]
structure HIs (w : World) (b : Nat) (h : HS) : Prop where
  block : w.heap[b]? = some (.cells (hcells h).toArray 85 (0, 0))
  small : Small h.st
  bytes : ∀ i, h.bl i < 256
theorem hcells_length (h : HS) : (hcells h).length = 73 := by simp [hcells, wcells_length, bcells_length]
theorem hcells_last (h : HS) : (hcells h).toArray[72]? = some (.int .i64 (h.z : Int)) := by
  rw [List.getElem?_toArray, hcells, List.getElem?_append_right (by simp [wcells_length, bcells_length])]
  simp [wcells_length, bcells_length]
theorem HIs.lt {w : World} {b : Nat} {h : HS} (q : HIs w b h) : b < w.heap.size := lt_of_block q.block
theorem HIs.c {w : World} {b : Nat} {h : HS} (q : HIs w b h) : w.cell? ⟨b, 72, none⟩ = some (.int .i64 (h.z : Int)) := cell_of_block q.block (hcells_last h)
theorem HIs.f {w : World} {b : Nat} {h : HS} (q : HIs w b h) : w.frozen? ⟨b, 72, none⟩ = false := free_of_block q.block 72
theorem HIs.kept {w w' : World} {b : Nat} {h : HS} {S : Nat → Prop} (q : HIs w b h) (k : Keeps S w w') (hS : ¬ S b) : HIs w' b h := ⟨(k.block b q.lt hS).trans q.block, q.small, q.bytes⟩
theorem HIs.drewN {w : World} {b : Nat} {h : HS} (q : HIs w b h) (n : Nat) : HIs (w.drewN n) b h := ⟨q.block, q.small, q.bytes⟩
def bval (b : Nat) : Value := .int .u8 (b : Int)
/-- A text's bytes. -/
def bys (s : ByteArray) : List Nat := s.data.toList.map UInt8.toNat
theorem bys_length (s : ByteArray) : (bys s).length = s.size := by simp [bys]
section
variable {P : Program}
theorem run_copy_str (w : World) (dT sT ty elem : TypeId) (g o dLen dCap : Nat) (s : ByteArray) (cur : List Value) (t : TypeId) (n : Nat)
    (hu : P.underlying dT = some (.slice elem)) (hs : (P.info? elem).map (·.size) = some 1)
    (hg : w.heap[g]? = some (.cells cur.toArray t (0, 0))) (hn : n = Nat.min s.size dLen) (hfit : o + n ≤ cur.length) :
    (Builtin.copy_ #[dT, sT] ty #[.slice (some ⟨g, o, none⟩) dLen dCap, .string s]).run P w =
      .ok (goInt n) (w.setRow g (cur.take o ++ ((bys s).take n).map bval ++ cur.drop (o + n)).toArray) := by
  have hle : n ≤ s.size := by rw [hn]; exact Nat.min_le_left _ _
  have hL : List.take n (List.map (fun b : UInt8 => Value.int .u8 (b.toNat : Int)) s.data.toList) = ((bys s).take n).map bval := by
    simp [bys, bval, List.map_take, Function.comp_def]
  have hlen : (List.take n (List.map (fun b : UInt8 => Value.int .u8 (b.toNat : Int)) s.data.toList)).length = n := by
    have : s.data.toList.length = s.size := by simp
    rw [List.length_take, List.length_map, this]; omega
  have hst := run_storeCells_at P g o t (List.take n (List.map (fun b : UInt8 => Value.int .u8 (b.toNat : Int)) s.data.toList)) 0 cur.toArray w hg (by rw [hlen]; simpa using hfit) (by
    intro v hv
    have hv := List.mem_of_mem_take hv
    simp only [List.mem_map] at hv
    obtain ⟨_, _, rfl⟩ := hv
    rfl)
  rw [hlen] at hst
  rw [← hL]
  simp only [Nat.add_zero] at hst
  cases hq : P.info? elem with
  | none => simp [hq] at hs
  | some i =>
    have hi : i.size = 1 := by simpa [hq] using hs
    simp [Builtin.copy_, run_underlying hu, Builtin.lenOf, Builtin.firstCells, sizeOf, typeInfo, hq, ← hn, hst]
theorem step_copy_str {ops : Array Oper} {o : Oper} {a : Act} {w : World} {K : Act → World → Prop} {Q : Exit → Act → World → Prop} {E : Prop} (hgd : o.guard = none) (d x : Operand) (dT sT : TypeId)
    (ho : o.op = .call { callee := .builtin .copy, args := #[d, x], argTypes := #[dT, sT] }) (elem : TypeId) (hu : P.underlying dT = some (.slice elem)) (hsz : (P.info? elem).map (·.size) = some 1)
    (g off dLen dCap : Nat) (s : ByteArray) (hd : a.eval d = .slice (some ⟨g, off, none⟩) dLen dCap) (hx : a.eval x = .string s)
    (cur : List Value) (t : TypeId) (hg : w.heap[g]? = some (.cells cur.toArray t (0, 0))) (n : Nat) (hn : n = Nat.min s.size dLen) (hfit : off + n ≤ cur.length)
    (h : ∀ w', w' = w.setRow g (cur.take off ++ ((bys s).take n).map bval ++ cur.drop (off + n)).toArray → K (a.put o.dst (goInt n)) w') :
    if Region.wanted o (yielded ops a.tmps) = true then Oper.wp P o a w K Q else E := by
  have hw : Region.wanted o (yielded ops a.tmps) = true := by simp [Region.wanted, hgd]
  rw [if_pos hw]
  have hrun := run_copy_str (P := P) w dT sT o.type elem g off dLen dCap s cur t n hu hsz hg hn hfit
  unfold Oper.wp
  simp only [execOp, ho, resolve, invoke, builtin]
  simp [hd, hx, hrun, Result.andThen]
  exact h _ (by simp)
end
theorem hcells_get (h : HS) (k : Nat) : (hcells h)[k]? = if k < 8 then some (.int .u32 (h.st k : Int)) else if k < 72 then some (bval (h.bl (k - 8))) else if k = 72 then some (.int .i64 (h.z : Int)) else none := by
  unfold hcells
  by_cases h1 : k < 8
  · rw [if_pos h1, List.append_assoc, List.getElem?_append_left (by rw [wcells_length]; exact h1), wcells_get h1]
  rw [if_neg h1, List.append_assoc, List.getElem?_append_right (by rw [wcells_length]; omega), wcells_length]
  by_cases h2 : k < 72
  · rw [if_pos h2, List.getElem?_append_left (by rw [bcells_length]; omega), bcells_get (by omega)]
    rfl
  rw [if_neg h2, List.getElem?_append_right (by rw [bcells_length]; omega), bcells_length]
  by_cases h3 : k = 72
  · subst h3; rfl
  · rw [if_neg h3]
    simp
    omega
theorem put_cells (h : HS) (l : List Nat) (hl : h.z % 64 + l.length ≤ 64) :
    (hcells h).take (8 + h.z % 64) ++ l.map bval ++ (hcells h).drop (8 + h.z % 64 + l.length) = hcells ⟨h.st, put h.bl (h.z % 64) l, h.z⟩ := by
  apply List.ext_getElem?
  intro k
  have hlen := hcells_length h
  rw [hcells_get]
  show _ = if k < 8 then some (Value.int .u32 (h.st k : Int)) else if k < 72 then some (bval (put h.bl (h.z % 64) l (k - 8))) else if k = 72 then some (.int .i64 (h.z : Int)) else none
  by_cases h1 : k < 8 + h.z % 64
  · rw [List.append_assoc, List.getElem?_append_left (by rw [List.length_take]; omega), List.getElem?_take_of_lt h1, hcells_get]
    by_cases hk : k < 8
    · rw [if_pos hk, if_pos hk]
    · rw [if_neg hk, if_neg hk, if_pos (by omega), if_pos (by omega), put_get, if_neg (by omega)]
  · by_cases h2 : k < 8 + h.z % 64 + l.length
    · rw [List.append_assoc, List.getElem?_append_right (by rw [List.length_take]; omega), List.length_take, hlen, show min (8 + h.z % 64) 73 = 8 + h.z % 64 by omega, List.getElem?_append_left (by rw [List.length_map]; omega)]
      rw [if_neg (by omega), if_pos (by omega), put_get, if_pos (by omega)]
      simp [show k - 8 - h.z % 64 = k - (8 + h.z % 64) by omega, show k - (8 + h.z % 64) < l.length by omega]
    · rw [List.getElem?_append_right (by rw [List.length_append, List.length_take, List.length_map]; omega)]
      simp only [List.length_append, List.length_take, List.length_map, hlen, List.getElem?_drop]
      rw [show 8 + h.z % 64 + l.length + (k - (min (8 + h.z % 64) 73 + l.length)) = k by omega, hcells_get]
      by_cases h3 : k < 72
      · rw [if_neg (by omega : ¬ k < 8), if_pos h3, if_neg (by omega : ¬ k < 8), if_pos h3, put_get, if_neg (by omega)]
      · rw [if_neg (by omega : ¬ k < 8), if_neg h3, if_neg (by omega : ¬ k < 8), if_neg h3]
end Go.Proofs.YtedibkcempcpnaaDoor
