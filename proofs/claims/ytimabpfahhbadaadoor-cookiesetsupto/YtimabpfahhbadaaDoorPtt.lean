/-
  The table of parts, and the contracts of the functions that it holds.
-/
import Derived.Test.YtimabpfahhbadaaDoorStc
import Derived.Lib.AppendIntMem
namespace Go.Proofs.YtimabpfahhbadaaDoor
open Go.RowKit
def tabA : Array Value := #[.string ⟨#[80, 97, 116, 104, 61]⟩, .func (.func 56) #[] #[], .func (.func 57) #[] #[], .func (.func 58) #[] #[], .string ⟨#[77, 97, 120, 45, 65, 103, 101, 61]⟩, .func (.func 59) #[] #[], .func (.func 60) #[] #[], .func (.func 62) #[] #[], .string ⟨#[72, 116, 116, 112, 79, 110, 108, 121]⟩, .func (.func 64) #[] #[], .func (.func 55) #[] #[], .func (.func 65) #[] #[], .string ⟨#[83, 101, 99, 117, 114, 101]⟩, .func (.func 66) #[] #[], .func (.func 55) #[] #[], .func (.func 67) #[] #[], .string ⟨#[83, 97, 109, 101, 83, 105, 116, 101, 61]⟩, .func (.func 68) #[] #[], .func (.func 69) #[] #[], .func (.func 70) #[] #[]]
set_option maxRecDepth 20000 in
set_option maxHeartbeats 2000000 in
theorem parts_tab (w : World) : Calls Tryd.prog 33 #[] w fun e w' => e = .returned (.slice (some ⟨w.heap.size, 0, none⟩) 5 5) ∧ w' = w.alloc (.cells tabA 57) := by
  go_enter Tryd.func33, Tryd.ntmps33
  go_wp2_with fail
  go_ret
  exact ⟨rfl, rfl⟩
def hasK (c : Ck) : Nat → Bool
  | 0 => !decide (c.path.size = 0)
  | 1 => c.has
  | 2 => c.http
  | 3 => c.sec
  | _ => !decide (c.same.size = 0)
def sayK (c : Ck) : Nat → ByteArray
  | 0 => c.path
  | 1 => itB c.age
  | 2 => ⟨#[]⟩
  | 3 => ⟨#[]⟩
  | _ => c.same
def wordK : Nat → ByteArray
  | 0 => wPath
  | 1 => wAge
  | 2 => wHttp
  | 3 => wSec
  | _ => wSame
theorem app_nil (a : ByteArray) : a ++ ⟨#[]⟩ = a := ext_list (by rw [app_list]; exact List.append_nil _)
theorem txs_has {c : Ck} {k : Nat} (h : hasK c k = true) : txs c k = [wordK k ++ sayK c k] := by
  match k with
  | 0 => show tx0 c = _; rw [tx0, if_neg (by simpa [hasK] using h)]; rfl
  | 1 => show tx1 c = _; rw [tx1, if_pos (show c.has = true from h)]; rfl
  | 2 => show tx2 c = _; rw [tx2, if_pos (show c.http = true from h)]; exact congrArg (fun x => [x]) (app_nil wHttp).symm
  | 3 => show tx3 c = _; rw [tx3, if_pos (show c.sec = true from h)]; exact congrArg (fun x => [x]) (app_nil wSec).symm
  | n + 4 => show tx4 c = _; rw [tx4, if_neg (by simpa [hasK] using h)]; rfl
theorem txs_not {c : Ck} {k : Nat} (h : hasK c k = false) : txs c k = [] := by
  match k with
  | 0 => show tx0 c = _; rw [tx0, if_pos (by simpa [hasK] using h)]
  | 1 => show tx1 c = _; rw [tx1, if_neg (by rw [show c.has = false from h]; decide)]
  | 2 => show tx2 c = _; rw [tx2, if_neg (by rw [show c.http = false from h]; decide)]
  | 3 => show tx3 c = _; rw [tx3, if_neg (by rw [show c.sec = false from h]; decide)]
  | n + 4 => show tx4 c = _; rw [tx4, if_pos (by simpa [hasK] using h)]
def TabP (w : World) : Prop := Lib.TabIs Tryd.prog w "internal/strconv.uint64pow10" .u64 Lib.pow10Tab
theorem tab_below {w w' : World} (h : TabP w) (hb : Below w.heap.size w w') : TabP w' := by
  unfold TabP Lib.TabIs World.var? at h ⊢
  cases hgn : Tryd.prog.globalNamed "internal/strconv.uint64pow10" with
  | none => rw [hgn] at h; cases h
  | some g =>
  rw [hgn] at h
  simp only [Option.bind_some] at h ⊢
  have hlt : g < w.heap.size := by
    rcases Nat.lt_or_ge g w.heap.size with h' | h'
    · exact h'
    · rw [Array.getElem?_eq_none h'] at h; cases h
  rw [hb.block g hlt]
  exact h
set_option maxRecDepth 20000 in
set_option maxHeartbeats 2000000 in
theorem has_0 (c : Ck) (w : World) : Calls Tryd.prog 56 #[ckV c] w fun e w' => e = .returned (.bool (hasK c 0)) ∧ Below w.heap.size w w' := by
  obtain ⟨nm, vl, pa, ag, hs, hh, sc, sm⟩ := c
  simp only [ckV]
  have e0 := isEmpty_size pa
  show Calls _ _ _ _ fun e w' => e = .returned (.bool (!decide (pa.size = 0))) ∧ _
  rw [← e0]
  clear e0
  go_enter Tryd.func56, Tryd.ntmps56
  go_wp2_with fail
  go_ret
  exact ⟨rfl, (Below.refl _ _).alloc (Nat.le_refl _) _⟩
set_option maxRecDepth 20000 in
set_option maxHeartbeats 2000000 in
theorem has_4 (c : Ck) (w : World) : Calls Tryd.prog 68 #[ckV c] w fun e w' => e = .returned (.bool (hasK c 4)) ∧ Below w.heap.size w w' := by
  obtain ⟨nm, vl, pa, ag, hs, hh, sc, sm⟩ := c
  simp only [ckV]
  have e0 := isEmpty_size sm
  show Calls _ _ _ _ fun e w' => e = .returned (.bool (!decide (sm.size = 0))) ∧ _
  rw [← e0]
  clear e0
  go_enter Tryd.func68, Tryd.ntmps68
  go_wp2_with fail
  go_ret
  exact ⟨rfl, (Below.refl _ _).alloc (Nat.le_refl _) _⟩
set_option maxRecDepth 20000 in
set_option maxHeartbeats 2000000 in
theorem has_1 (c : Ck) (w : World) : Calls Tryd.prog 59 #[ckV c] w fun e w' => e = .returned (.bool (hasK c 1)) ∧ Below w.heap.size w w' := by
  obtain ⟨nm, vl, pa, ag, hs, hh, sc, sm⟩ := c
  simp only [ckV]
  go_enter Tryd.func59, Tryd.ntmps59
  go_wp2_with fail
  go_ret
  exact ⟨rfl, (Below.refl _ _).alloc (Nat.le_refl _) _⟩
set_option maxRecDepth 20000 in
set_option maxHeartbeats 2000000 in
theorem has_2 (c : Ck) (w : World) : Calls Tryd.prog 64 #[ckV c] w fun e w' => e = .returned (.bool (hasK c 2)) ∧ Below w.heap.size w w' := by
  obtain ⟨nm, vl, pa, ag, hs, hh, sc, sm⟩ := c
  simp only [ckV]
  go_enter Tryd.func64, Tryd.ntmps64
  go_wp2_with fail
  go_ret
  exact ⟨rfl, (Below.refl _ _).alloc (Nat.le_refl _) _⟩
set_option maxRecDepth 20000 in
set_option maxHeartbeats 2000000 in
theorem has_3 (c : Ck) (w : World) : Calls Tryd.prog 66 #[ckV c] w fun e w' => e = .returned (.bool (hasK c 3)) ∧ Below w.heap.size w w' := by
  obtain ⟨nm, vl, pa, ag, hs, hh, sc, sm⟩ := c
  simp only [ckV]
  go_enter Tryd.func66, Tryd.ntmps66
  go_wp2_with fail
  go_ret
  exact ⟨rfl, (Below.refl _ _).alloc (Nat.le_refl _) _⟩
set_option maxRecDepth 20000 in
set_option maxHeartbeats 2000000 in
theorem says_0 (c : Ck) (w : World) : Calls Tryd.prog 57 #[ckV c] w fun e w' => e = .returned (.string (sayK c 0)) ∧ Below w.heap.size w w' := by
  obtain ⟨nm, vl, pa, ag, hs, hh, sc, sm⟩ := c
  simp only [ckV]
  go_enter Tryd.func57, Tryd.ntmps57
  go_wp2_with fail
  go_ret
  exact ⟨rfl, (Below.refl _ _).alloc (Nat.le_refl _) _⟩
set_option maxRecDepth 20000 in
set_option maxHeartbeats 2000000 in
theorem says_4 (c : Ck) (w : World) : Calls Tryd.prog 69 #[ckV c] w fun e w' => e = .returned (.string (sayK c 4)) ∧ Below w.heap.size w w' := by
  obtain ⟨nm, vl, pa, ag, hs, hh, sc, sm⟩ := c
  simp only [ckV]
  go_enter Tryd.func69, Tryd.ntmps69
  go_wp2_with fail
  go_ret
  exact ⟨rfl, (Below.refl _ _).alloc (Nat.le_refl _) _⟩
set_option maxRecDepth 20000 in
set_option maxHeartbeats 2000000 in
theorem says_2 (c : Ck) (w : World) : Calls Tryd.prog 55 #[ckV c] w fun e w' => e = .returned (.string ⟨#[]⟩) ∧ Below w.heap.size w w' := by
  obtain ⟨nm, vl, pa, ag, hs, hh, sc, sm⟩ := c
  simp only [ckV]
  go_enter Tryd.func55, Tryd.ntmps55
  go_wp2_with fail
  go_ret
  exact ⟨rfl, (Below.refl _ _).alloc (Nat.le_refl _) _⟩
set_option maxRecDepth 20000 in
set_option maxHeartbeats 2000000 in
theorem says_1 (c : Ck) (h0 : 0 ≤ c.age) (h1 : c.age ≤ 2147483647) (w : World) (ht : TabP w) : Calls Tryd.prog 60 #[ckV c] w fun e w' => e = .returned (.string (sayK c 1)) ∧ Below w.heap.size w w' := by
  obtain ⟨nm, vl, pa, ag, hs, hh, sc, sm⟩ := c
  simp only [ckV]
  simp only at h0 h1
  have H1 : Hid (∀ W, Below w.heap.size w W → _) := fun W b => Tryd.strconv_Itoa ag (by omega) (by omega) W (tab_below ht b)
  go_enter Tryd.func60, Tryd.ntmps60
  go_wp2_with fail
  refine (H1.out _ ((Below.refl _ _).alloc (Nat.le_refl _) _)).mono ?_
  rintro e w1 ⟨rfl, k, os, rfl⟩
  go_wp2_with fail
  go_ret
  exact ⟨rfl, ((Below.refl _ _).alloc (Nat.le_refl _) _).trans (Lib.below_grow _ _ (by simp) k os)⟩
end Go.Proofs.YtimabpfahhbadaaDoor
