/-
  What the walk of Set wants of memory.
-/
import Derived.Test.YtimabpfahhbadaaDoorPtt
import Derived.Laws.OwnMore
namespace Go.Proofs.YtimabpfahhbadaaDoor
open Go.RowKit
theorem keep_typed {w w' : World} {B e n g : Nat} {v : Value} {xs : List Value} {c : Array Value} {t : TypeId} (h : w.ownsRow B e 1 v n xs) (hg : w.grownBy w' v.ownBlock) (hb : w.heap[g]? = some (.cells c t (0, 0))) (ht : t ≠ e) : w'.heap[g]? = some (.cells c t (0, 0)) := by
  have hgl : g < w.heap.size := (Array.getElem?_eq_some_iff.1 hb).1
  rw [hg.block g hgl, hb]
  intro hq
  rcases h.2 with ⟨rfl, _⟩ | ⟨g2, cap, cur, rfl, _, hh, _⟩
  · cases hq
  · cases hq
    rw [hb] at hh
    cases hh
    exact ht rfl
theorem alloc_old {w : World} {g : Nat} {x o : Obj} (h : w.heap[g]? = some x) : (w.alloc o).heap[g]? = some x := by
  have hgl : g < w.heap.size := (Array.getElem?_eq_some_iff.1 h).1
  exact (((Below.refl w.heap.size w).alloc (Nat.le_refl _) o).block g hgl).trans h
theorem below_old {w w' : World} {g : Nat} {x : Obj} (h : w.heap[g]? = some x) (b : Below w.heap.size w w') : w'.heap[g]? = some x := (b.block g (Array.getElem?_eq_some_iff.1 h).1).trans h
def ckA (c : Ck) : Array Value := #[.string c.name, .string c.value, .string c.path, .int .i64 c.age, .bool c.has, .bool c.http, .bool c.sec, .string c.same]
theorem ck_cells {W : World} {g : Nat} {c : Ck} (h : W.heap[g]? = some (.cells (ckA c) 37 (0, 0))) : W.cell? ⟨g, 0, none⟩ = some (.string c.name) ∧ W.cell? ⟨g, 1, none⟩ = some (.string c.value) ∧ W.cell? ⟨g, 2, none⟩ = some (.string c.path) ∧ W.cell? ⟨g, 3, none⟩ = some (.int .i64 c.age) ∧ W.cell? ⟨g, 4, none⟩ = some (.bool c.has) ∧ W.cell? ⟨g, 5, none⟩ = some (.bool c.http) ∧ W.cell? ⟨g, 6, none⟩ = some (.bool c.sec) ∧ W.cell? ⟨g, 7, none⟩ = some (.string c.same) :=
  ⟨cell_of_block h rfl, cell_of_block h rfl, cell_of_block h rfl, cell_of_block h rfl, cell_of_block h rfl, cell_of_block h rfl, cell_of_block h rfl, cell_of_block h rfl⟩
theorem txK_len (c : Ck) (k : Nat) (hk : k ≤ 5) : 1 ≤ (txK c k).length ∧ (txK c k).length ≤ k + 1 := by
  have hx : ∀ j, (txs c j).length ≤ 1 := fun j => by
    cases h : hasK c j with
    | true => rw [txs_has h]; exact Nat.le_refl _
    | false => rw [txs_not h]; exact Nat.zero_le _
  induction k with
  | zero => exact ⟨Nat.le_refl _, Nat.le_refl _⟩
  | succ k ih =>
    have := ih (by omega)
    have := hx k
    rw [txK, List.length_append]
    omega
theorem jn_le : ∀ (t : ByteArray) (ts : List ByteArray) (N : Nat), (∀ x ∈ t :: ts, x.size ≤ N) → (jn (t :: ts)).size ≤ (ts.length + 1) * (N + 2)
  | t, [], N, h => by
    have := h t (List.mem_cons_self ..)
    rw [jn_size1]
    simp
    omega
  | t, u :: ts, N, h => by
    have := h t (List.mem_cons_self ..)
    have ih := jn_le u ts N (fun x hx => h x (List.mem_cons_of_mem _ hx))
    rw [jn_size2, List.length_cons, Nat.succ_mul]
    omega
theorem nDig_le : ∀ (k u : Nat), u < 10 ^ (k + 1) → Lib.nDigits u ≤ k + 1
  | 0, u, h => by rw [Lib.nDigits_small (by simpa using h)]; exact Nat.le_refl _
  | k + 1, u, h => by
    by_cases h0 : u < 10
    · rw [Lib.nDigits_small h0]; omega
    · have := nDig_le k (u / 10) (by rw [Nat.pow_succ] at h; omega)
      rw [Lib.nDigits_big h0]
      omega
theorem itB_list {n : Int} (h0 : 0 ≤ n) : (itB n).data.toList = Lib.decDigits n.toNat := by
  unfold itB Lib.itoa
  rw [if_neg (by omega)]
theorem itB_ten {n : Int} (h0 : 0 ≤ n) (h1 : n ≤ 2147483647) : (itB n).size ≤ 10 := by
  have e : (itB n).size = (itB n).data.toList.length := by simp
  rw [e, itB_list h0, Lib.decDigits_length]
  exact nDig_le 9 _ (by omega)
theorem txs_small {c : Ck} (hz : ckZ 1000000000 c) (ha : 0 ≤ c.age ∧ c.age ≤ 2147483647) (j : Nat) : ∀ x ∈ txs c j, x.size ≤ 2000000009 := by
  intro x hx
  obtain ⟨z0, z1, z2, z3⟩ := hz
  have hi := itB_ten ha.1 ha.2
  cases h : hasK c j with
  | false => rw [txs_not h] at hx; cases hx
  | true =>
    rw [txs_has h, List.mem_singleton] at hx
    subst hx
    rw [ByteArray.size_append]
    match j with
    | 0 => show 5 + c.path.size ≤ _; omega
    | 1 => show 8 + (itB c.age).size ≤ _; omega
    | 2 => show 8 + 0 ≤ _; omega
    | 3 => show 6 + 0 ≤ _; omega
    | n + 4 => show 9 + c.same.size ≤ _; omega
theorem txK_small {c : Ck} (hz : ckZ 1000000000 c) (ha : 0 ≤ c.age ∧ c.age ≤ 2147483647) : ∀ k, ∀ x ∈ txK c k, x.size ≤ 2000000009
  | 0 => fun x hx => by
    rw [txK, List.mem_singleton] at hx
    subst hx
    have := hz.1
    have := hz.2.1
    rw [prt_size]
    show c.name.size + c.value.size + 1 ≤ _
    omega
  | k + 1 => fun x hx => by
    rw [txK, List.mem_append] at hx
    rcases hx with hx | hx
    · exact txK_small hz ha k x hx
    · exact txs_small hz ha k x hx
theorem txK_size {c : Ck} (hz : ckZ 1000000000 c) (ha : 0 ≤ c.age ∧ c.age ≤ 2147483647) : (jn (txK c 5)).size ≤ 140737488355328 := by
  have hs := txK_small hz ha 5
  have hl := (txK_len c 5 (by omega)).2
  cases hq : txK c 5 with
  | nil => simp [jn, Lib.join_nil, ByteArray.size]
  | cons t ts =>
    rw [hq] at hs hl
    have h1 := jn_le t ts _ hs
    rw [List.length_cons] at hl
    have h2 : (ts.length + 1) * (2000000009 + 2) ≤ 6 * (2000000009 + 2) := Nat.mul_le_mul_right _ (by omega)
    omega
theorem itB_size {n : Int} (h0 : 0 ≤ n) (h1 : n ≤ 2147483647) : (itB n).size ≤ 1000000000 := Nat.le_trans (itB_ten h0 h1) (by decide)
end Go.Proofs.YtimabpfahhbadaaDoor
