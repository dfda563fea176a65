/-
  The runes of a text, and the contract of Runes.
-/
import Derived.Test.YtbhlpiilklgnkaaDoorSmall
import Derived.Lib.OthersKept
import Derived.WalkSmall
namespace Go.Proofs.YtbhlpiilklgnkaaDoor
open Go.RowKit
theorem width_pos (s : ByteArray) (pos : Nat) (h : pos < s.size) : 1 ≤ (Utf8.decode s pos).2 := by
  by_cases ha : (s[pos]'h).toNat < 128
  · rw [decode_ascii s pos h ha]
    exact Nat.le_refl _
  · exact (decode_high s pos h (by omega)).2
/-- The runes from a place on. -/
def runesF (s : ByteArray) : Nat → Nat → List Nat
  | 0, _ => []
  | fuel + 1, pos => if pos < s.size then (Utf8.decode s pos).1 :: runesF s fuel (pos + (Utf8.decode s pos).2) else []
def runesOf (s : ByteArray) : List Nat := runesF s s.size 0
theorem runesF_end {s : ByteArray} {pos : Nat} (fuel : Nat) (h : ¬ pos < s.size) : runesF s fuel pos = [] := by
  cases fuel with
  | zero => rfl
  | succ f => rw [runesF, if_neg h]
theorem runesF_next {s : ByteArray} {pos : Nat} (fuel : Nat) (h : pos < s.size) : runesF s (fuel + 1) pos = (Utf8.decode s pos).1 :: runesF s fuel (pos + (Utf8.decode s pos).2) := by rw [runesF, if_pos h]
theorem runesF_le (s : ByteArray) : ∀ fuel pos, (runesF s fuel pos).length ≤ fuel
  | 0, _ => by simp [runesF]
  | f + 1, pos => by
    rw [runesF]
    split
    · have := runesF_le s f (pos + (Utf8.decode s pos).2)
      simp only [List.length_cons]
      omega
    · simp
theorem runesF_small (s : ByteArray) : ∀ fuel pos, ∀ r ∈ runesF s fuel pos, r ≤ 2147483647
  | 0, _ => by simp [runesF]
  | f + 1, pos => by
    rw [runesF]
    split
    · intro r hr
      rcases List.mem_cons.1 hr with rfl | hr
      · exact decode_le s pos
      · exact runesF_small s f _ r hr
    · simp
/-- Runes as cells. -/
def rcells (l : List Nat) : List Value := l.map fun n => Value.int .i32 (n : Nat)
theorem rcells_append (a b : List Nat) : rcells (a ++ b) = rcells a ++ rcells b := by simp [rcells]
theorem rcells_length (l : List Nat) : (rcells l).length = l.length := by simp [rcells]
theorem rcells_one (l : List Nat) : ∀ u ∈ rcells l, u.oneCell' = true := by
  intro u hu
  simp only [rcells, List.mem_map] at hu
  obtain ⟨c, _, rfl⟩ := hu
  rfl
set_option maxRecDepth 20000 in
set_option maxHeartbeats 2000000 in
theorem runes_any (s : ByteArray) (w : World) (hs : s.size ≤ 35184372088831) : Calls Tryd.prog 13 #[.string s] w fun e w' => ∃ a cap, e = .returned (.slice a (runesOf s).length cap) ∧ w'.ownsRow w.heap.size 21 1 (.slice a (runesOf s).length cap) (runesOf s).length (rcells (runesOf s)) ∧ Below w.heap.size w w' := by
  obtain ⟨i0, hi, hz0, hz1, hz2⟩ := info_parts info21
  obtain ⟨R, hR⟩ : ∃ R, runesOf s = R := ⟨_, rfl⟩
  have HR : Hid _ := hR
  rw [hR]
  clear hR
  go_enter Tryd.func13, Tryd.ntmps13
  go_wp2
  go_loopw [3] (fun v wr => ∃ (pos fuel : Nat) (acc : List Nat), wr.heap[w.heap.size]? = some (.stringIter s pos) ∧ wr.ownsRow (w.heap.size + 1) 21 1 v acc.length (rcells acc) ∧ Below w.heap.size w wr ∧ Hid (acc ++ runesF s fuel pos = runesOf s) ∧ Hid (s.size ≤ pos + fuel) ∧ Hid (acc.length ≤ pos)) (fun _ wr => s.size - wr.iterPos w.heap.size)
  case atStart => exact ⟨0, s.size, [], World.iter_heap w s 0, World.ownsRow_nil _ _ _ _, (Below.refl _ w).alloc (Nat.le_refl _) _, rfl, by rw [Hid]; omega, Nat.le_refl _⟩
  case round =>
    obtain ⟨pos, fuel, acc, hit, hown, hb, HA, HF, HL⟩ := hrel
    have hsz : w.heap.size < wr.heap.size := (Array.getElem?_eq_some_iff.1 hit).1
    obtain ⟨a, cap, rfl⟩ := form_of_row hown
    by_cases hp : pos < s.size
    · have hnx : ∀ ty, (Instr.next (.pointer (some ⟨w.heap.size, 0, none⟩)) true ty).run Tryd.prog wr = _ := fun ty => Lib.run_next_any_at wr w.heap.size s pos ty hit hp
      have hwd := width_pos s pos hp
      have hit2 := Lib.iterAt_heap wr w.heap.size s pos (pos + (Utf8.decode s pos).2) hit
      have hown2 := ownsRow_iterAt hown (Nat.lt_succ_self _) s (pos + (Utf8.decode s pos).2)
      have hb2 := Lib.below_iterAt hb (Nat.le_refl _) s (pos + (Utf8.decode s pos).2)
      have hsz2 : w.heap.size < (wr.iterAt w.heap.size s (pos + (Utf8.decode s pos).2)).heap.size := by rw [Lib.iterAt_size]; exact hsz
      obtain ⟨f, rfl⟩ : ∃ f, fuel = f + 1 := ⟨fuel - 1, by have := HF.out; omega⟩
      have HA2 : Hid ((acc ++ [(Utf8.decode s pos).1]) ++ runesF s f (pos + (Utf8.decode s pos).2) = runesOf s) := by
        rw [Hid, ← HA.out, runesF_next f hp]; simp
      have hpi : s.size - (pos + (Utf8.decode s pos).2) < s.size - wr.iterPos w.heap.size := by rw [iterPos_of hit]; omega
      have HM : Hid _ := hpi
      have HF2 : Hid (s.size ≤ pos + (Utf8.decode s pos).2 + f) := by have := HF.out; rw [Hid]; omega
      have HL2 : Hid ((acc ++ [(Utf8.decode s pos).1]).length ≤ pos + (Utf8.decode s pos).2) := by have := HL.out; rw [Hid]; simp; omega
      have HL3 : Hid (acc.length < s.size) := by have := HL.out; rw [Hid]; omega
      obtain ⟨W2, hW2⟩ : ∃ W2, wr.iterAt w.heap.size s (pos + (Utf8.decode s pos).2) = W2 := ⟨_, rfl⟩
      obtain ⟨p2, hp2⟩ : ∃ p2, pos + (Utf8.decode s pos).2 = p2 := ⟨_, rfl⟩
      obtain ⟨r, hr⟩ : ∃ r, (Utf8.decode s pos).1 = r := ⟨_, rfl⟩
      rw [hW2] at hnx hit2 hown2 hb2 hsz2
      rw [hp2] at hit2 HA2 HF2 HL2 HM
      rw [hr] at hnx HA2 HL2
      clear hpi HA HF HL hit hown hb hwd hW2 hp2 hr
      go_wp2_with (at_builtin; refine wpList_append_own _ rfl (.tmp 11) (.tmp 13) 25 rfl (w.heap.size + 1) 21 i0 (.int .i32 0) 1 4 Tryd.underlying25 hi hz0 hz1 hz2 rfl (by decide) _ _ _ rfl (hown2.alloc _) ⟨_, 0, none⟩ 1 1 (rcells [r]) rfl rfl (new_cells _ (rcells [r]) _) (rcells_one _) (by have := HL3.out; unfold maxLen; omega) (by have := HL3.out; omega) (by simp; omega) ?_)
      intro v1 w5 hown1 hgrow _
      obtain ⟨a1, cap1, rfl⟩ := form_of_row hown1
      have HR5 : Hid (w5.ownsRow (w.heap.size + 1) 21 1 (.slice a1 (acc.length + 1) cap1) (acc ++ [r]).length (rcells (acc ++ [r]))) := by
        rw [Hid, rcells_append, List.length_append]; exact hown1
      have HB : Hid (Below w.heap.size w w5) := (hb2.alloc (by omega) _).grown hgrow (by simp; omega) (fun i hi => by have := (hown2.lt i hi).1; omega)
      have HI : Hid (w5.heap[w.heap.size]? = some (.stringIter s p2)) := by
        rw [Hid, hgrow.block w.heap.size (by simp; omega) (fun e => by have := (hown2.lt _ e.symm).1; omega), Below.heap_alloc _ _ _ hsz2]
        exact hit2
      clear hown1 hgrow hown2
      go_wp2_with fail
      go_roundw
      case rel => exact ⟨p2, f, acc ++ [r], HI.out, HR5.out, HB.out, HA2.out, HF2.out, HL2.out⟩
      case measure => rw [iterPos_of HI.out]; exact HM.out
    · have hnx : ∀ ty, (Instr.next (.pointer (some ⟨w.heap.size, 0, none⟩)) true ty).run Tryd.prog wr = _ := fun ty => Lib.run_next_end_at wr w.heap.size s pos ty hit hp
      have HE : Hid (acc = R) := by
        have := HA.out
        rw [runesF_end fuel hp, List.append_nil, HR.out] at this
        exact this
      have HO : Hid (wr.ownsRow w.heap.size 21 1 (.slice a acc.length cap) acc.length (rcells acc)) := by
        obtain ⟨q1, q2⟩ := hown
        refine ⟨q1, ?_⟩
        rcases q2 with q2 | ⟨g, cp, cur, e1, e2, e3⟩
        · exact Or.inl q2
        · exact Or.inr ⟨g, cp, cur, e1, by omega, e3⟩
      clear hown HA HL HF hit
      go_wp2_with fail
      go_ret
      rw [← HE.out]
      exact ⟨a, cap, rfl, HO.out, hb⟩
end Go.Proofs.YtbhlpiilklgnkaaDoor
