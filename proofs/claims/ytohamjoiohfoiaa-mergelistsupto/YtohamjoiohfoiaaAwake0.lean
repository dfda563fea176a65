/-
  The cells with which awake asks, and what is told of them.
-/
import Derived.Test.YtohamjoiohfoiaaCut
namespace Go.Proofs.Ytohamjoiohfoiaa
open Go.RowKit
def cA (n : Nat) : Cl := ⟨⟨#[97]⟩, n, ByteArray.empty, false⟩
def cB (n : Nat) : Cl := ⟨⟨#[98]⟩, n, ByteArray.empty, false⟩
def awL : List Cl := [cA 3, cA 2, cA 1, cB 1]
/-- The heap's steps with fuel, which can be reckoned. -/
def upF : Nat → List Hd → Nat → List Hd
  | 0, hs, _ => hs
  | f + 1, hs, j => if j = 0 then hs else match hs[(j - 1) / 2]?, hs[j]? with
    | some x, some y => if lessD y x then upF f (swapL hs ((j - 1) / 2) j x y) ((j - 1) / 2) else hs
    | _, _ => hs
theorem upF_eq : ∀ (f : Nat) (hs : List Hd) (j : Nat), j < f → upL hs j = upF f hs j
  | 0, _, _, h => by omega
  | f + 1, hs, j, h => by
    rw [upL, upF]
    by_cases h0 : j = 0
    · rw [dif_pos h0, if_pos h0]
    · rw [dif_neg h0, if_neg h0]
      cases hs[(j - 1) / 2]? with
      | none => rfl
      | some x =>
        cases hs[j]? with
        | none => rfl
        | some y =>
          simp only
          rw [upF_eq f (swapL hs ((j - 1) / 2) j x y) ((j - 1) / 2) (by omega)]
def downF : Nat → List Hd → Nat → Nat → List Hd × Nat
  | 0, hs, i, _ => (hs, i)
  | f + 1, hs, i, n => if 2 * i + 1 < n then (if lessAt hs (kid hs i n) i then downF f (swapAt hs i (kid hs i n)) (kid hs i n) n else (hs, i)) else (hs, i)
theorem downF_eq : ∀ (f : Nat) (hs : List Hd) (i n : Nat), n - i < f → downL hs i n = downF f hs i n
  | 0, _, _, _, h => by omega
  | f + 1, hs, i, n, h => by
    rw [downL, downF]
    by_cases h0 : 2 * i + 1 < n
    · rw [dif_pos h0, if_pos h0]
      have := kid_gt hs i n
      split
      · exact downF_eq f _ _ _ (by omega)
      · rfl
    · rw [dif_neg h0, if_neg h0]
def takeF : List Hd → List Hd
  | [] => []
  | x :: t => if x.cs.length ≤ 1 then (downF (t.length + 2) (swapAt (stepH x :: t) 0 ((stepH x :: t).length - 1)) 0 ((stepH x :: t).length - 1)).1.dropLast else (downF (t.length + 2) (stepH x :: t) 0 (t.length + 1)).1
theorem takeF_eq (hs : List Hd) : takeL hs = takeF hs := by
  cases hs with
  | nil => rfl
  | cons x t =>
    rw [takeL, takeF, popL, downF_eq (t.length + 2) _ _ _ (by simp), downF_eq (t.length + 2) _ _ _ (by omega)]
def beginF (ls : List Sl) : Nat → List Hd
  | 0 => []
  | k + 1 => match ls[k]? with
    | some s => if s.cs.length = 0 then beginF ls k else upF ((beginF ls k).length + 1) (beginF ls k ++ [headOf s k]) (beginF ls k).length
    | none => beginF ls k
theorem beginF_eq (ls : List Sl) : ∀ k, beginK ls k = beginF ls k
  | 0 => rfl
  | k + 1 => by
    rw [beginK, beginF, beginF_eq ls k]
    cases ls[k]? with
    | none => rfl
    | some s =>
      simp only
      rw [pushL, upF_eq ((beginF ls k).length + 1) _ _ (by omega)]
def skipG : Nat → Cl → List Hd → List Hd
  | 0, _, hs => hs
  | f + 1, c, hs => match hs with
    | [] => []
    | x :: t => match x.cs with
      | [] => x :: t
      | d :: _ => if lessC c d = true then x :: t else skipG f c (takeF (x :: t))
theorem skipG_eq : ∀ (f : Nat) (c : Cl) (hs : List Hd), skipF f c hs = skipG f c hs
  | 0, _, _ => rfl
  | f + 1, c, hs => by
    cases hs with
    | nil => rfl
    | cons x t =>
      simp only [skipF, skipG]
      rw [takeF_eq, skipG_eq f c (takeF (x :: t))]
      cases x.cs <;> rfl
def outG : Nat → List Hd → List Cl
  | 0, _ => []
  | f + 1, hs => match hs with
    | [] => []
    | x :: t => match x.cs with
      | [] => []
      | c :: _ => c :: outG f (skipG (wt (takeF (x :: t))) c (takeF (x :: t)))
theorem outG_eq : ∀ (f : Nat) (hs : List Hd), outF f hs = outG f hs
  | 0, _ => rfl
  | f + 1, hs => by
    cases hs with
    | nil => rfl
    | cons x t =>
      simp only [outF, outG]
      rw [takeF_eq]
      cases x.cs with
      | nil => rfl
      | cons c r => simp only; rw [skipG_eq, outG_eq f]
theorem outM_eq (ls : List Sl) : outM ls = outG (wt (beginF ls ls.length)) (beginF ls ls.length) := by rw [outM, beginF_eq, outG_eq]
theorem aw_outM (a b : Nat) : outM [⟨some ⟨a, 0, none⟩, 2, [cA 3, cA 1]⟩, ⟨some ⟨b, 0, none⟩, 2, [cA 2, cB 1]⟩] = awL := by
  rw [outM_eq]
  kernel_rfl
theorem aw_allS (a b : Nat) : allS [⟨some ⟨a, 0, none⟩, 2, [cA 3, cA 1]⟩, ⟨some ⟨b, 0, none⟩, 2, [cA 2, cB 1]⟩] = true := by kernel_rfl
theorem aw_out (a b : Nat) : mergeP [⟨some ⟨a, 0, none⟩, 2, [cA 3, cA 1]⟩, ⟨some ⟨b, 0, none⟩, 2, [cA 2, cB 1]⟩] = awL := by rw [mergeP, aw_allS, if_pos rfl, aw_outM]
theorem aw_sorted : sortedC awL = true := by kernel_rfl
theorem aw_vis : (visP awL 2 (allG awL)).length = 2 := by kernel_rfl
theorem aw_drp : (drpP awL 2 false (allG awL)).length = 3 := by kernel_rfl
theorem aw_cut : (cutA awL 1).length = 2 := by kernel_rfl
theorem aw_nil (b : Bool) (c0 : Nat) (W : World) : (binOp .neq 37 (itV b c0) .nilFunc).run Try.prog W = .ok (.bool true) W := by cases b <;> rfl
end Go.Proofs.Ytohamjoiohfoiaa
