/-
  The contracts of Bearer and of the twin's.
-/
import Derived.Test.YtedibkcempcpnaaDoorTCwn
namespace Go.Proofs.YtedibkcempcpnaaDoor.T
open Go.RowKit
def lowB (s : ByteArray) : ByteArray := ⟨(s.data.toList.map lowC).toArray⟩
def bearT : ByteArray := ⟨#[98, 101, 97, 114, 101, 114, 32]⟩
def bearR (v : ByteArray) : ByteArray × Int := if 8 ≤ v.size ∧ lowB (v.extract 0 7) = bearT then (v.extract 7 v.size, 0) else (⟨#[]⟩, 210)
theorem toList_lit {s : ByteArray} {l : List UInt8} (h : s = ⟨l.toArray⟩) : (s.toList == l) = true := by
  subst h
  rw [ByteArray.toList_eq]
  simp
theorem toList_not {s : ByteArray} {l : List UInt8} (h : s ≠ ⟨l.toArray⟩) : (s.toList == l) = false := by
  rw [beq_eq_false_iff_ne, ByteArray.toList_eq]
  intro e
  exact h (ext_list (by rw [e]))
set_option maxRecDepth 20000 in
set_option maxHeartbeats 2000000 in
theorem bearer_any (v : ByteArray) (hs : v.size ≤ 140737488355328) (w : World) : Calls Tryd.prog 15 #[.string v] w fun e w' => e = .returned (.tuple #[.string (bearR v).1, .int .i64 (bearR v).2]) ∧ Below w.heap.size w w' := by
  by_cases h8 : 8 ≤ v.size
  · have q0 : ¬ (v.size : Int) ≤ 7 := by omega
    have q1 : (7 : Int) ≤ (v.size : Int) := by omega
    have H1 : Hid (∀ W : World, _) := fun W => lower_any (v.extract 0 7) (by rw [ByteArray.size_extract]; omega) W
    rw [show (⟨((v.extract 0 7).data.toList.map lowC).toArray⟩ : ByteArray) = lowB (v.extract 0 7) from rfl] at H1
    by_cases hb : lowB (v.extract 0 7) = bearT
    · have HR : Hid (bearR v = (v.extract 7 v.size, 0)) := by rw [Hid, bearR, if_pos ⟨h8, hb⟩]
      have hq : ((lowB (v.extract 0 7)).toList == [98, 101, 97, 114, 101, 114, 32]) = true := toList_lit hb
      obtain ⟨L, hL⟩ : ∃ L, lowB (v.extract 0 7) = L := ⟨_, rfl⟩
      obtain ⟨R, hR⟩ : ∃ R, bearR v = R := ⟨_, rfl⟩
      rw [hR] at HR ⊢
      rw [hL] at H1 hq
      clear hL hR hb h8
      go_enter Tryd.func15, Tryd.ntmps15
      go_wp2_with (go_at_call 32; refine (H1.out _).mono ?_; rintro e w1 ⟨rfl, b1⟩)
      go_ret2
      exact ⟨by rw [HR.out]; rfl, b1⟩
    · have HR : Hid (bearR v = (⟨#[]⟩, 210)) := by rw [Hid, bearR, if_neg (fun h => hb h.2)]
      have hq : ((lowB (v.extract 0 7)).toList == [98, 101, 97, 114, 101, 114, 32]) = false := toList_not hb
      obtain ⟨L, hL⟩ : ∃ L, lowB (v.extract 0 7) = L := ⟨_, rfl⟩
      obtain ⟨R, hR⟩ : ∃ R, bearR v = R := ⟨_, rfl⟩
      rw [hR] at HR ⊢
      rw [hL] at H1 hq
      clear hL hR hb h8
      go_enter Tryd.func15, Tryd.ntmps15
      go_wp2_with (go_at_call 32; refine (H1.out _).mono ?_; rintro e w1 ⟨rfl, b1⟩)
      go_ret2
      exact ⟨by rw [HR.out]; rfl, b1⟩
  · have q0 : (v.size : Int) ≤ 7 := by omega
    have HR : Hid (bearR v = (⟨#[]⟩, 210)) := by rw [Hid, bearR, if_neg (fun h => h8 h.1)]
    obtain ⟨R, hR⟩ : ∃ R, bearR v = R := ⟨_, rfl⟩
    rw [hR] at HR ⊢
    clear hR h8
    go_enter Tryd.func15, Tryd.ntmps15
    go_wp2_with fail
    go_ret2
    exact ⟨by rw [HR.out]; rfl, Below.refl _ _⟩
set_option maxRecDepth 20000 in
set_option maxHeartbeats 2000000 in
theorem qbearer_any (v : ByteArray) (hs : v.size ≤ 140737488355328) (w : World) : Calls Tryd.prog 16 #[.string v] w fun e w' => e = .returned (.tuple #[.string (bearR v).1, .int .i64 (bearR v).2]) ∧ Below w.heap.size w w' := by
  by_cases h8 : 8 ≤ v.size
  · have q0 : ¬ (v.size : Int) < 8 := by omega
    have q1 : (7 : Int) ≤ (v.size : Int) := by omega
    have H1 : Hid (∀ W : World, _) := fun W => rlower_any (v.extract 0 7) (by rw [ByteArray.size_extract]; omega) W
    rw [show (⟨((v.extract 0 7).data.toList.map lowC).toArray⟩ : ByteArray) = lowB (v.extract 0 7) from rfl] at H1
    by_cases hb : lowB (v.extract 0 7) = bearT
    · have HR : Hid (bearR v = (v.extract 7 v.size, 0)) := by rw [Hid, bearR, if_pos ⟨h8, hb⟩]
      have hq : ((lowB (v.extract 0 7)).toList == [98, 101, 97, 114, 101, 114, 32]) = true := toList_lit hb
      obtain ⟨L, hL⟩ : ∃ L, lowB (v.extract 0 7) = L := ⟨_, rfl⟩
      obtain ⟨R, hR⟩ : ∃ R, bearR v = R := ⟨_, rfl⟩
      rw [hR] at HR ⊢
      rw [hL] at H1 hq
      clear hL hR hb h8
      go_enter Tryd.func16, Tryd.ntmps16
      go_wp2_with (go_at_call 33; refine (H1.out _).mono ?_; rintro e w1 ⟨rfl, b1⟩)
      go_ret2
      exact ⟨by rw [HR.out]; rfl, b1⟩
    · have HR : Hid (bearR v = (⟨#[]⟩, 210)) := by rw [Hid, bearR, if_neg (fun h => hb h.2)]
      have hq : ((lowB (v.extract 0 7)).toList == [98, 101, 97, 114, 101, 114, 32]) = false := toList_not hb
      obtain ⟨L, hL⟩ : ∃ L, lowB (v.extract 0 7) = L := ⟨_, rfl⟩
      obtain ⟨R, hR⟩ : ∃ R, bearR v = R := ⟨_, rfl⟩
      rw [hR] at HR ⊢
      rw [hL] at H1 hq
      clear hL hR hb h8
      go_enter Tryd.func16, Tryd.ntmps16
      go_wp2_with (go_at_call 33; refine (H1.out _).mono ?_; rintro e w1 ⟨rfl, b1⟩)
      go_ret2
      exact ⟨by rw [HR.out]; rfl, b1⟩
  · have q0 : (v.size : Int) < 8 := by omega
    have HR : Hid (bearR v = (⟨#[]⟩, 210)) := by rw [Hid, bearR, if_neg (fun h => h8 h.1)]
    obtain ⟨R, hR⟩ : ∃ R, bearR v = R := ⟨_, rfl⟩
    rw [hR] at HR ⊢
    clear hR h8
    go_enter Tryd.func16, Tryd.ntmps16
    go_wp2_with fail
    go_ret2
    exact ⟨by rw [HR.out]; rfl, Below.refl _ _⟩
end Go.Proofs.YtedibkcempcpnaaDoor.T
