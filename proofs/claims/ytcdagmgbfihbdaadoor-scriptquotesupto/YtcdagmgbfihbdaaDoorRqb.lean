/-
  Rows of texts; what a request's bytes are.
-/
import Derived.Test.YtcdagmgbfihbdaaDoorGre
import Derived.Deep.RegionHeld
namespace Go.Proofs.YtcdagmgbfihbdaaDoor
open Go.RowKit
theorem info9 : (Tryd.prog.info? 9).map (fun i => (i.zero, i.size, i.bytes)) = some (some (.string ⟨#[]⟩), 1, 16) := by kernel_rfl
def strV (l : List ByteArray) : List Value := l.map Value.string
theorem strV_one (l : List ByteArray) : ∀ u ∈ strV l, u.oneCell' = true := by
  intro u hu
  simp only [strV, List.mem_map] at hu
  obtain ⟨c, _, rfl⟩ := hu
  rfl
theorem strV_snoc (l : List ByteArray) (x : ByteArray) : strV (l ++ [x]) = strV l ++ strV [x] := by simp [strV]
theorem owns_on2 {w w' : World} {B e z n : Nat} {v : Value} {xs : List Value} (h : w.ownsRow B e z v n xs) (b : Below w.heap.size w w') : w'.ownsRow B e z v n xs := by
  refine ⟨h.1, ?_⟩
  rcases h.2 with q | ⟨g, cp, cur, hv, hg, hh, rr⟩
  · exact Or.inl q
  · exact Or.inr ⟨g, cp, cur, hv, hg, (b.block g (Array.getElem?_eq_some_iff.1 hh).1).trans hh, rr⟩
theorem owns_str {w : World} {B n c : Nat} {a : Option Addr} {l : List ByteArray} (h : w.ownsRow B 9 1 (.slice a n c) n (strV l)) {j : Nat} {x : ByteArray} (hj : l[j]? = some x) : ∃ g, a = some ⟨g, 0, none⟩ ∧ B ≤ g ∧ g < w.heap.size ∧ n ≤ c ∧ w.cell? ⟨g, j, none⟩ = some (.string x) := by
  have hl := h.1
  have hjl : j < l.length := (List.getElem?_eq_some_iff.1 hj).1
  simp only [strV, List.length_map] at hl
  rcases h.2 with ⟨_, h0⟩ | ⟨g, cap, cur, e, hB, hh, hn, hc, _, ht⟩
  · omega
  · rw [Value.slice.injEq] at e
    refine ⟨g, e.1, hB, (Array.getElem?_eq_some_iff.1 hh).1, ?_, ?_⟩
    · have := e.2.2; subst this; omega
    refine cell_of_block hh ?_
    have h1 : (strV l)[j]? = some (.string x) := by simp [strV, hj]
    rw [← ht, List.getElem?_take] at h1
    split at h1
    · simpa using h1
    · cases h1
theorem add_off (b o j : Nat) : (⟨b, o, none⟩ : Addr).add j = ⟨b, o + j, none⟩ := by unfold Addr.add; split <;> simp_all
theorem new_cells (W : World) (l : List Value) (t : TypeId) : ∀ j x, l[j]? = some x → (W.alloc (.cells l.toArray t)).cell? ((⟨W.heap.size, 0, none⟩ : Addr).add j) = some x := by
  intro j x hj
  rw [add_off, Nat.zero_add]
  exact cell_of_block (block_alloc_at W _) (by rw [List.getElem?_toArray]; exact hj)
theorem ext_list {a b : ByteArray} (h : a.data.toList = b.data.toList) : a = b := by
  obtain ⟨⟨x⟩⟩ := a; obtain ⟨⟨y⟩⟩ := b
  simp only at h
  rw [h]
theorem app_list (a b : ByteArray) : (a ++ b).data.toList = a.data.toList ++ b.data.toList := by
  rw [ByteArray.data_append, Array.toList_append]
theorem size_nil {s : ByteArray} (h : s.size = 0) : s = ⟨#[]⟩ := by
  obtain ⟨x⟩ := s
  have : x = #[] := Array.size_eq_zero_iff.1 h
  rw [this]
theorem not_nil {s : ByteArray} (h : s ≠ ⟨#[]⟩) : s.toList.isEmpty = false := by
  rw [ByteArray.toList_eq, List.isEmpty_eq_false_iff]
  intro e
  exact h (ext_list e)
def lineA (m t : ByteArray) : ByteArray := ((m ++ ⟨#[32]⟩) ++ t) ++ ⟨#[32, 72, 84, 84, 80, 47, 49, 46, 49]⟩
def hostB : ByteArray := ⟨#[72, 111, 115, 116, 58, 32, 97, 116, 114, 105, 117, 109]⟩
def lineC (c : ByteArray) : ByteArray := ⟨#[65, 117, 116, 104, 111, 114, 105, 122, 97, 116, 105, 111, 110, 58, 32, 66, 101, 97, 114, 101, 114, 32]⟩ ++ c
def lineN (b : ByteArray) : ByteArray := ⟨#[67, 111, 110, 116, 101, 110, 116, 45, 76, 101, 110, 103, 116, 104, 58, 32]⟩ ++ bOf (Lib.decDigits b.size)
def crlf : ByteArray := ⟨#[13, 10]⟩
/-- What a request's bytes are. -/
def reqB (m t c b : ByteArray) : ByteArray :=
  let s1 := ((m ++ ⟨#[32]⟩) ++ t) ++ ⟨#[32, 72, 84, 84, 80, 47, 49, 46, 49, 13, 10, 72, 111, 115, 116, 58, 32, 97, 116, 114, 105, 117, 109, 13, 10]⟩
  let s2 := if c = ⟨#[]⟩ then s1 else s1 ++ (lineC c ++ crlf)
  let s3 := if b = ⟨#[]⟩ then s2 else s2 ++ (lineN b ++ crlf)
  (s3 ++ crlf) ++ b
def reqLs (m t c b : ByteArray) : List ByteArray := [lineA m t, hostB] ++ (if c = ⟨#[]⟩ then [] else [lineC c]) ++ (if b = ⟨#[]⟩ then [] else [lineN b])
theorem req_join (m t c b : ByteArray) : ((⟨(Lib.join ((reqLs m t c b).map (·.data.toList)) [13, 10]).toArray⟩ : ByteArray) ++ ⟨#[13, 10, 13, 10]⟩) ++ b = reqB m t c b := by
  apply ext_list
  unfold reqLs reqB
  by_cases hc : c = ⟨#[]⟩ <;> by_cases hb : b = ⟨#[]⟩ <;> simp only [hc, hb, if_true, if_false, app_list, lineA, crlf, hostB, Lib.join] <;> simp [List.intercalate, List.intersperse, List.append_assoc]
theorem digs_len {b : ByteArray} (h : b.size ≤ 1048576) : (bOf (Lib.decDigits b.size)).size ≤ 20 := by
  rw [bOf_size]
  exact dig_len (by omega)
theorem join_size (m t c b : ByteArray) (h : m.size + t.size + c.size + b.size ≤ 1048576) : (Lib.join ((reqLs m t c b).map (·.data.toList)) [13, 10]).length ≤ 2000000 := by
  have h1 := congrArg ByteArray.size (req_join m t c b)
  have hd := digs_len (b := b) (by omega)
  have e1 : ∀ l : List UInt8, (⟨l.toArray⟩ : ByteArray).size = l.length := fun l => by simp [ByteArray.size]
  rw [ByteArray.size_append, ByteArray.size_append, e1] at h1
  have h2 : (reqB m t c b).size ≤ 1500000 := by
    unfold reqB lineC lineN crlf
    have e0 : (⟨#[]⟩ : ByteArray).size = 0 := rfl
    have e2 : (⟨#[13, 10]⟩ : ByteArray).size = 2 := rfl
    have e3 : (⟨#[32]⟩ : ByteArray).size = 1 := rfl
    have e4 : (⟨#[32, 72, 84, 84, 80, 47, 49, 46, 49, 13, 10, 72, 111, 115, 116, 58, 32, 97, 116, 114, 105, 117, 109, 13, 10]⟩ : ByteArray).size = 25 := rfl
    have e5 : (⟨#[65, 117, 116, 104, 111, 114, 105, 122, 97, 116, 105, 111, 110, 58, 32, 66, 101, 97, 114, 101, 114, 32]⟩ : ByteArray).size = 22 := rfl
    have e6 : (⟨#[67, 111, 110, 116, 101, 110, 116, 45, 76, 101, 110, 103, 116, 104, 58, 32]⟩ : ByteArray).size = 16 := rfl
    split <;> split <;> simp only [ByteArray.size_append, e2, e3, e4, e5, e6] <;> omega
  omega
end Go.Proofs.YtcdagmgbfihbdaaDoor
