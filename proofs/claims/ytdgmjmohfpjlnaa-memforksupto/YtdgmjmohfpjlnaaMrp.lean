/-
  A table in memory; the contracts of closed, Check, is, before.
-/
import Derived.Test.YtdgmjmohfpjlnaaSkp
import Derived.LoopTactic
import Derived.RegionTactic
import Derived.BigQuiet
import Derived.BigRegion
import Derived.Deep.QuietTactic
import Derived.Deep.RegionWith
import Derived.Deep.RegionHeld
import Derived.Deep.CutRange
import Derived.WalkKit
import Derived.Laws.MakeOwn
import Derived.Laws.AppendOwn
import Derived.Laws.AppendOwnNone
import Derived.LoopN
import Derived.Lib.Builder
namespace Go.Proofs.Ytdgmjmohfpjlnaa
open Go.RowKit
def clL (c : Cl) : List Value := [.string c.key, .int .u64 (c.seq : Nat), .string c.val, .bool c.gone]
def clV (c : Cl) : Value := .agg #[.string c.key, .int .u64 (c.seq : Nat), .string c.val, .bool c.gone]
def lkL (f : Nat → Nat) : List Value := [.int .i64 (f 0 : Nat), .int .i64 (f 1 : Nat), .int .i64 (f 2 : Nat), .int .i64 (f 3 : Nat), .int .i64 (f 4 : Nat), .int .i64 (f 5 : Nat), .int .i64 (f 6 : Nat), .int .i64 (f 7 : Nat), .int .i64 (f 8 : Nat), .int .i64 (f 9 : Nat), .int .i64 (f 10 : Nat), .int .i64 (f 11 : Nat)]
def ndL (c : Cl) (f : Nat → Nat) : List Value := clL c ++ lkL f
def rowL (n : Nat) (cell : Nat → Cl) (nx : Nat → Nat → Nat) : List Value := (List.range n).flatMap fun p => ndL (cell p) (nx p)
theorem ndL_len (c : Cl) (f : Nat → Nat) : (ndL c f).length = 16 := rfl
theorem lkL_get (f : Nat → Nat) {k : Nat} (h : k < 12) : (lkL f)[k]? = some (.int .i64 (f k : Nat)) := by
  rcases (by omega : k = 0 ∨ k = 1 ∨ k = 2 ∨ k = 3 ∨ k = 4 ∨ k = 5 ∨ k = 6 ∨ k = 7 ∨ k = 8 ∨ k = 9 ∨ k = 10 ∨ k = 11) with rfl | rfl | rfl | rfl | rfl | rfl | rfl | rfl | rfl | rfl | rfl | rfl <;> rfl
theorem lkL_set (f : Nat → Nat) {k : Nat} (h : k < 12) (v : Nat) : (lkL f).set k (.int .i64 (v : Nat)) = lkL (fun j => if j = k then v else f j) := by
  rcases (by omega : k = 0 ∨ k = 1 ∨ k = 2 ∨ k = 3 ∨ k = 4 ∨ k = 5 ∨ k = 6 ∨ k = 7 ∨ k = 8 ∨ k = 9 ∨ k = 10 ∨ k = 11) with rfl | rfl | rfl | rfl | rfl | rfl | rfl | rfl | rfl | rfl | rfl | rfl <;> rfl
theorem rowL_succ (n : Nat) (cell : Nat → Cl) (nx : Nat → Nat → Nat) : rowL (n + 1) cell nx = rowL n cell nx ++ ndL (cell n) (nx n) := by
  unfold rowL
  rw [List.range_succ, List.flatMap_append]
  simp
theorem rowL_len (n : Nat) (cell : Nat → Cl) (nx : Nat → Nat → Nat) : (rowL n cell nx).length = n * 16 := by
  induction n with
  | zero => rfl
  | succ n ih => rw [rowL_succ, List.length_append, ih, ndL_len]; omega
theorem rowL_get (cell : Nat → Cl) (nx : Nat → Nat → Nat) : ∀ {n p i : Nat}, p < n → i < 16 → (rowL n cell nx)[p * 16 + i]? = (ndL (cell p) (nx p))[i]?
  | 0, p, i, h, _ => by omega
  | n + 1, p, i, h, hi => by
    rw [rowL_succ]
    by_cases hp : p < n
    · rw [List.getElem?_append_left (by rw [rowL_len]; omega), rowL_get cell nx hp hi]
    · obtain rfl : p = n := by omega
      rw [List.getElem?_append_right (by rw [rowL_len]; omega), rowL_len, Nat.add_sub_cancel_left]
theorem rowL_congr {cell cell' : Nat → Cl} {nx nx' : Nat → Nat → Nat} : ∀ {n : Nat}, (∀ p, p < n → cell p = cell' p ∧ ∀ k, k < 12 → nx p k = nx' p k) → rowL n cell nx = rowL n cell' nx'
  | 0, _ => rfl
  | n + 1, h => by
    rw [rowL_succ, rowL_succ, rowL_congr (fun p hp => h p (by omega))]
    obtain ⟨h1, h2⟩ := h n (by omega)
    unfold ndL
    rw [h1]
    congr 2
    unfold lkL
    rw [h2 0 (by decide), h2 1 (by decide), h2 2 (by decide), h2 3 (by decide), h2 4 (by decide), h2 5 (by decide), h2 6 (by decide), h2 7 (by decide), h2 8 (by decide), h2 9 (by decide), h2 10 (by decide), h2 11 (by decide)]
/-- A link is set. -/
theorem rowL_set {cell : Nat → Cl} {nx : Nat → Nat → Nat} {p k : Nat} (hk : k < 12) (v : Nat) : ∀ {n : Nat}, p < n → (rowL n cell nx).set (p * 16 + (4 + k)) (.int .i64 (v : Nat)) = rowL n cell (fun q j => if q = p ∧ j = k then v else nx q j)
  | 0, h => by omega
  | n + 1, h => by
    rw [rowL_succ, rowL_succ]
    by_cases hp : p < n
    · rw [List.set_append_left _ _ (by rw [rowL_len]; omega), rowL_set hk v hp]
      congr 2
      funext j
      rw [if_neg (by omega)]
    · obtain rfl : p = n := by omega
      rw [List.set_append_right _ _ (by rw [rowL_len]; omega), rowL_len, Nat.add_sub_cancel_left]
      have e1 : rowL p cell nx = rowL p cell (fun q j => if q = p ∧ j = k then v else nx q j) := rowL_congr (fun q hq => ⟨rfl, fun j _ => by rw [if_neg (by omega)]⟩)
      rw [← e1]
      congr 1
      unfold ndL
      rw [List.set_append_right _ _ (by show 4 ≤ 4 + k; omega), show 4 + k - (clL (cell p)).length = k by show 4 + k - 4 = k; omega, lkL_set _ hk]
      congr 2
      funext j
      simp
theorem cell_of_block {w : World} {b o : Nat} {c : Array Value} {t : TypeId} {f : Nat × Nat} {v : Value} (h : w.heap[b]? = some (.cells c t f)) (hv : c[o]? = some v) : w.cell? ⟨b, o, none⟩ = some v := by simp [World.cell?, h, hv]
theorem block_alloc_at (w : World) (o : Obj) : (w.alloc o).heap[w.heap.size]? = some o := by
  show (w.heap.push o)[w.heap.size]? = _
  simp
theorem below_new (W : World) (o : Obj) : Below W.heap.size W (W.alloc o) := (Below.refl _ _).alloc (Nat.le_refl _) _
theorem below_on {a b c : World} (h1 : Below a.heap.size a b) (h2 : Below b.heap.size b c) : Below a.heap.size a c := h1.trans (h2.mono h1.size)
/-- What a table is. -/
structure St where
  n : Nat
  cell : Nat → Cl
  nx : Nat → Nat → Nat
  size : Nat
  E : List En
/-- A table in memory: its block, and where its nodes lie. -/
structure MA (B : Nat) (W : World) (g b cap : Nat) (s : St) : Prop where
  blk : W.heap[g]? = some (.cells #[.pointer (some ⟨g, 0, none⟩), .slice (some ⟨b, 0, none⟩) s.n cap, .int .i64 (s.size : Nat)] 59 (0, 0))
  row : W.ownsRow B 68 16 (.slice (some ⟨b, 0, none⟩) s.n cap) s.n (rowL s.n s.cell s.nx)
  rep : Rep s.n s.cell s.nx s.E
  apart : g ≠ b
  gB : B ≤ g
  small : s.n ≤ 1000000000
theorem MA.lt {B : Nat} {W : World} {g b cap : Nat} {s : St} (h : MA B W g b cap s) : g < W.heap.size ∧ b < W.heap.size := ⟨(Array.getElem?_eq_some_iff.1 h.blk).1, (World.ownsRow.lt h.row b rfl).2⟩
theorem owns_on {w w' : World} {B e z n : Nat} {v : Value} {xs : List Value} (h : w.ownsRow B e z v n xs) (b : Below w.heap.size w w') : w'.ownsRow B e z v n xs := by
  refine ⟨h.1, ?_⟩
  rcases h.2 with q | ⟨g, cp, cur, hv, hg, hh, rr⟩
  · exact Or.inl q
  · exact Or.inr ⟨g, cp, cur, hv, hg, (b.block g (Array.getElem?_eq_some_iff.1 hh).1).trans hh, rr⟩
theorem MA.below {B : Nat} {W W' : World} {g b cap : Nat} {s : St} (h : MA B W g b cap s) (k : Below W.heap.size W W') : MA B W' g b cap s :=
  ⟨(k.block g h.lt.1).trans h.blk, owns_on h.row k, h.rep, h.apart, h.gB, h.small⟩
theorem MA.hd {B : Nat} {W : World} {g b cap : Nat} {s : St} (h : MA B W g b cap s) : W.cell? ⟨g, 0, none⟩ = some (.pointer (some ⟨g, 0, none⟩)) ∧ W.cell? ⟨g, 1, none⟩ = some (.slice (some ⟨b, 0, none⟩) s.n cap) ∧ W.cell? ⟨g, 2, none⟩ = some (.int .i64 (s.size : Nat)) := ⟨cell_of_block h.blk rfl, cell_of_block h.blk rfl, cell_of_block h.blk rfl⟩
theorem MA.at {B : Nat} {W : World} {g b cap : Nat} {s : St} (h : MA B W g b cap s) {p i : Nat} {v : Value} (hp : p < s.n) (hi : i < 16) (hv : (ndL (s.cell p) (s.nx p))[i]? = some v) : W.cell? ⟨b, p * 16 + i, none⟩ = some v := by
  rw [World.ownsRow.cellAt h.row _ (by omega), rowL_get _ _ hp hi, hv]
theorem MA.node {B : Nat} {W : World} {g b cap : Nat} {s : St} (h : MA B W g b cap s) {p : Nat} (hp : p < s.n) : W.cell? ⟨b, p * 16, none⟩ = some (.string (s.cell p).key) ∧ W.cell? ⟨b, p * 16 + 1, none⟩ = some (.int .u64 ((s.cell p).seq : Nat)) ∧ W.cell? ⟨b, p * 16 + 2, none⟩ = some (.string (s.cell p).val) ∧ W.cell? ⟨b, p * 16 + 3, none⟩ = some (.bool (s.cell p).gone) :=
  ⟨h.at (i := 0) hp (by decide) rfl, h.at (i := 1) hp (by decide) rfl, h.at (i := 2) hp (by decide) rfl, h.at (i := 3) hp (by decide) rfl⟩
theorem MA.link {B : Nat} {W : World} {g b cap : Nat} {s : St} (h : MA B W g b cap s) {p k : Nat} (hp : p < s.n) (hk : k < 12) : W.cell? ⟨b, p * 16 + 4 + k, none⟩ = some (.int .i64 (s.nx p k : Nat)) := by
  rw [Nat.add_assoc]
  refine h.at hp (by omega) ?_
  unfold ndL
  rw [List.getElem?_append_right (by show 4 ≤ 4 + k; omega), show 4 + k - (clL (s.cell p)).length = k by show 4 + k - 4 = k; omega]
  exact lkL_get _ hk
set_option maxRecDepth 20000 in
set_option maxHeartbeats 2000000 in
theorem closed_no (g : Nat) (w : World) (h : w.cell? ⟨g, 0, none⟩ = some (.pointer (some ⟨g, 0, none⟩))) : Calls Try.prog 26 #[.pointer (some ⟨g, 0, none⟩)] w fun e w' => e = .returned (.bool false) ∧ w' = w := by
  obtain ⟨i59, hi59⟩ : ∃ i, Try.prog.info? 59 = some i := ⟨_, rfl⟩
  have hnp : ∀ W : World, (binOp BinOp.neq 23 (.pointer (some ⟨g, 0, none⟩)) (.pointer (some ⟨g, 0, none⟩))).run Try.prog W = .ok (.bool false) W := fun W => Lib.run_neq_ptr_same W ⟨g, 0, none⟩ Try.underlying23 hi59
  clear hi59
  go_enter Try.func26, Try.ntmps26
  go_wp2_with fail
  go_ret
  exact ⟨rfl, rfl⟩
set_option maxRecDepth 20000 in
set_option maxHeartbeats 2000000 in
theorem before_any (b p : Nat) (c : Cl) (key : ByteArray) (seq : Nat) (w : World) (h0 : w.cell? ⟨b, p, none⟩ = some (.string c.key)) (h1 : w.cell? ⟨b, p + 1, none⟩ = some (.int .u64 (c.seq : Nat))) : Calls Try.prog 41 #[.pointer (some ⟨b, p, none⟩), .string key, .int .u64 (seq : Nat)] w fun e w' => e = .returned (.bool (ahK c key seq)) ∧ w' = w := by
  by_cases h : c.key.toList = key.toList
  · rw [ahK_same h]
    have hne : (c.key.toList == key.toList) = true := by simp [h]
    clear h
    by_cases hs : seq < c.seq
    · have hz : (seq : Int) < (c.seq : Int) := by omega
      rw [decide_eq_true hs]
      clear hs
      go_enter Try.func41, Try.ntmps41
      go_wp2_with fail
      go_ret
      exact ⟨rfl, rfl⟩
    · have hz : ¬ (seq : Int) < (c.seq : Int) := by omega
      rw [decide_eq_false hs]
      clear hs
      go_enter Try.func41, Try.ntmps41
      go_wp2_with fail
      go_ret
      exact ⟨rfl, rfl⟩
  · rw [ahK_other h]
    have hne : (c.key.toList == key.toList) = false := by simp [h]
    clear h
    go_enter Try.func41, Try.ntmps41
    go_wp2_with fail
    go_ret
    exact ⟨rfl, rfl⟩
set_option maxRecDepth 20000 in
set_option maxHeartbeats 2000000 in
theorem is_any (b p : Nat) (c : Cl) (key : ByteArray) (seq : Nat) (w : World) (h0 : w.cell? ⟨b, p, none⟩ = some (.string c.key)) (h1 : w.cell? ⟨b, p + 1, none⟩ = some (.int .u64 (c.seq : Nat))) : Calls Try.prog 30 #[.pointer (some ⟨b, p, none⟩), .string key, .int .u64 (seq : Nat)] w fun e w' => e = .returned (.bool ((c.key.toList == key.toList) && decide (c.seq = seq))) ∧ w' = w := by
  by_cases h : c.key.toList = key.toList
  · have hne : (c.key.toList == key.toList) = true := by simp [h]
    rw [hne]
    clear h
    by_cases hs : c.seq = seq
    · have hz : ((c.seq : Int) == (seq : Int)) = true := by simp [hs]
      rw [decide_eq_true hs]
      clear hs
      go_enter Try.func30, Try.ntmps30
      go_wp2_with fail
      go_ret
      exact ⟨rfl, rfl⟩
    · have hz : ((c.seq : Int) == (seq : Int)) = false := by rw [beq_eq_false_iff_ne]; omega
      rw [decide_eq_false hs]
      clear hs
      go_enter Try.func30, Try.ntmps30
      go_wp2_with fail
      go_ret
      exact ⟨rfl, rfl⟩
  · have hne : (c.key.toList == key.toList) = false := by simp [h]
    rw [hne]
    clear h
    go_enter Try.func30, Try.ntmps30
    go_wp2_with fail
    go_ret
    exact ⟨rfl, rfl⟩
/-- What Check tells. -/
def chkR (c : Cl) : Nat := if c.key.size < 1 ∨ 128 < c.key.size ∨ 1024 < c.val.size ∨ (c.gone = true ∧ c.val.toList ≠ []) ∨ 72057594037927935 < c.seq then 60 else 0
theorem chk_bad {c : Cl} (h : c.key.size < 1 ∨ 128 < c.key.size ∨ 1024 < c.val.size ∨ (c.gone = true ∧ c.val.toList ≠ []) ∨ 72057594037927935 < c.seq) : chkR c = 60 := by unfold chkR; rw [if_pos h]
theorem chk_ok {c : Cl} (h : ¬ (c.key.size < 1 ∨ 128 < c.key.size ∨ 1024 < c.val.size ∨ (c.gone = true ∧ c.val.toList ≠ []) ∨ 72057594037927935 < c.seq)) : chkR c = 0 := by unfold chkR; rw [if_neg h]
set_option maxRecDepth 20000 in
set_option maxHeartbeats 4000000 in
theorem check_any (c : Cl) (w : World) : Calls Try.prog 28 #[clV c] w fun e w' => e = .returned (.int .i64 (chkR c : Nat)) ∧ Below w.heap.size w w' := by
  have hB : ∀ h : c.key.size < 1 ∨ 128 < c.key.size ∨ 1024 < c.val.size ∨ (c.gone = true ∧ c.val.toList ≠ []) ∨ 72057594037927935 < c.seq, chkR c = 60 := fun h => chk_bad h
  have hO : ∀ h : ¬ (c.key.size < 1 ∨ 128 < c.key.size ∨ 1024 < c.val.size ∨ (c.gone = true ∧ c.val.toList ≠ []) ∨ 72057594037927935 < c.seq), chkR c = 0 := fun h => chk_ok h
  obtain ⟨R, hR⟩ : ∃ R, chkR c = R := ⟨_, rfl⟩
  rw [hR] at hB hO ⊢
  obtain ⟨k, q, v, gn⟩ := c
  simp only at hB hO
  clear hR
  simp only [clV]
  by_cases h1 : k.size < 1
  · obtain rfl := hB (Or.inl h1)
    have z1 : (k.size : Int) < 1 := by omega
    clear hB hO h1
    go_enter Try.func28, Try.ntmps28
    go_wp2_with fail
    go_ret
    exact ⟨rfl, below_new _ _⟩
  have z1 : ¬ (k.size : Int) < 1 := by omega
  by_cases h2 : 128 < k.size
  · obtain rfl := hB (Or.inr (Or.inl h2))
    have z2 : (128 : Int) < (k.size : Int) := by omega
    clear hB hO h1 h2
    go_enter Try.func28, Try.ntmps28
    go_wp2_with fail
    go_ret
    exact ⟨rfl, below_new _ _⟩
  have z2 : ¬ (128 : Int) < (k.size : Int) := by omega
  by_cases h3 : 1024 < v.size
  · obtain rfl := hB (Or.inr (Or.inr (Or.inl h3)))
    have z3 : (1024 : Int) < (v.size : Int) := by omega
    clear hB hO h1 h2 h3
    go_enter Try.func28, Try.ntmps28
    go_wp2_with fail
    go_ret
    exact ⟨rfl, below_new _ _⟩
  have z3 : ¬ (1024 : Int) < (v.size : Int) := by omega
  by_cases h5 : 72057594037927935 < q
  · obtain rfl := hB (Or.inr (Or.inr (Or.inr (Or.inr h5))))
    have z5 : (72057594037927935 : Int) < (q : Int) := by omega
    clear hB hO h1 h2 h3 h5
    cases gn with
    | false =>
      go_enter Try.func28, Try.ntmps28
      go_wp2_with fail
      go_ret
      exact ⟨rfl, below_new _ _⟩
    | true =>
      cases hv : v.toList.isEmpty with
      | true =>
        go_enter Try.func28, Try.ntmps28
        go_wp2_with fail
        go_ret
        exact ⟨rfl, below_new _ _⟩
      | false =>
        go_enter Try.func28, Try.ntmps28
        go_wp2_with fail
        go_ret
        exact ⟨rfl, below_new _ _⟩
  have z5 : ¬ (72057594037927935 : Int) < (q : Int) := by omega
  cases gn with
  | false =>
    obtain rfl := hO (fun h => by rcases h with h | h | h | h | h; omega; omega; omega; exact absurd h.1 (by decide); omega)
    clear hB hO h1 h2 h3 h5
    go_enter Try.func28, Try.ntmps28
    go_wp2_with fail
    go_ret
    exact ⟨rfl, below_new _ _⟩
  | true =>
    cases hv : v.toList.isEmpty with
    | true =>
      obtain rfl := hO (fun h => by rcases h with h | h | h | h | h; omega; omega; omega; exact h.2 (List.isEmpty_iff.1 hv); omega)
      clear hB hO h1 h2 h3 h5
      go_enter Try.func28, Try.ntmps28
      go_wp2_with fail
      go_ret
      exact ⟨rfl, below_new _ _⟩
    | false =>
      obtain rfl := hB (Or.inr (Or.inr (Or.inr (Or.inl ⟨rfl, fun e => by rw [e] at hv; cases hv⟩))))
      clear hB hO h1 h2 h3 h5
      go_enter Try.func28, Try.ntmps28
      go_wp2_with fail
      go_ret
      exact ⟨rfl, below_new _ _⟩
end Go.Proofs.Ytdgmjmohfpjlnaa
