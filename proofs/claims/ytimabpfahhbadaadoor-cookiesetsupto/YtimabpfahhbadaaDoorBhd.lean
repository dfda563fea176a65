/-
  The contract of the twin's behind.
-/
import Derived.Test.YtimabpfahhbadaaDoorRst
namespace Go.Proofs.YtimabpfahhbadaaDoor
open Go.RowKit
theorem preW_iff {t d : ByteArray} : preW t d = true ↔ t.extract 0 d.size = d := by
  have hl : d.data.toList.length = d.size := by simp
  unfold preW Lib.hasPrefix
  rw [List.isPrefixOf_iff_prefix, List.prefix_iff_eq_take, hl]
  constructor
  · intro e
    apply ext_list
    rw [sub_list, Nat.sub_zero, List.drop_zero]
    exact e.symm
  · intro e
    have := congrArg (fun x => x.data.toList) e
    simp only [sub_list, Nat.sub_zero, List.drop_zero] at this
    exact this.symm
theorem preW_short {t d : ByteArray} (h : t.size < d.size) : preW t d = false := by
  cases hq : preW t d with
  | false => rfl
  | true =>
    unfold preW Lib.hasPrefix at hq
    have := (List.isPrefixOf_iff_prefix.1 hq).length_le
    simp at this
    omega
theorem cutW_sub (t d : ByteArray) : cutW t d = t.extract d.size t.size := by
  apply ext_list
  rw [sub_to]
  have hl : d.data.toList.length = d.size := by simp
  unfold cutW
  rw [hl]
def behR (t d : ByteArray) : ByteArray := if preW t d = true then cutW t d else ⟨#[]⟩
set_option maxRecDepth 20000 in
set_option maxHeartbeats 4000000 in
theorem behind_any (t d : ByteArray) (hd : d.size ≤ 140737488355328) (w : World) : Calls Tryd.prog 38 #[.string t, .string d] w fun e w' => e = .returned (.tuple #[.string (behR t d), .bool (preW t d)]) ∧ w' = w := by
  unfold behR
  by_cases h : t.size < d.size
  · rw [preW_short h, if_neg (by decide)]
    have q0 : (t.size : Int) < (d.size : Int) := by omega
    go_enter Tryd.func38, Tryd.ntmps38
    go_wp2_with fail
    go_ret2
    exact ⟨rfl, rfl⟩
  · have q0 : ¬ (t.size : Int) < (d.size : Int) := by omega
    have q1 : (d.size : Int) ≤ (t.size : Int) := by omega
    have q2 : (0 : Int) ≤ (d.size : Int) := by omega
    have hi := preW_iff (t := t) (d := d)
    have hx := cutW_sub t d
    by_cases hq : t.extract 0 d.size = d
    · rw [hi.2 hq, if_pos rfl, hx]
      have hne := toList_eq' hq
      obtain ⟨y, hy⟩ : ∃ y, t.extract 0 d.size = y := ⟨_, rfl⟩
      rw [hy] at hne
      have HY : Hid _ := hy
      clear hq hi hx
      go_enter Tryd.func38, Tryd.ntmps38
      go_wp2_with fail
      go_ret2
      exact ⟨rfl, rfl⟩
    · have hf : preW t d = false := by
        cases hp : preW t d with
        | false => rfl
        | true => exact absurd (hi.1 hp) hq
      rw [hf, if_neg (by decide)]
      have hne := toList_ne hq
      obtain ⟨y, hy⟩ : ∃ y, t.extract 0 d.size = y := ⟨_, rfl⟩
      rw [hy] at hne
      clear hq hi hx hf
      go_enter Tryd.func38, Tryd.ntmps38
      go_wp2_with fail
      go_ret2
      exact ⟨rfl, rfl⟩
end Go.Proofs.YtimabpfahhbadaaDoor
