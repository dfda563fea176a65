/-
  The walk of RouteEscapes.
-/
import Derived.Test.YtbpfggpljfpfcaaDoorAwk
import Derived.Test.YtbpfggpljfpfcaaDoorREsc
import Derived.Test.YtbpfggpljfpfcaaDoorEsc
namespace Go.Proofs.YtbpfggpljfpfcaaDoor
open Go.RowKit
theorem unesc_app : ∀ (n : Nat) (a b u : List UInt8), a.length ≤ n → unesc a = some u → unesc (a ++ b) = (unesc b).map (u ++ ·)
  | n, [], b, u, _, h => by
    rw [unesc] at h
    cases h
    rw [List.nil_append]
    cases unesc b <;> rfl
  | 0, _ :: _, _, _, hn, _ => by simp at hn
  | n + 1, c :: l, b, u, hn, h => by
    have hn' : l.length ≤ n := by rw [List.length_cons] at hn; omega
    by_cases hc : c.toNat = 37
    · match l, hn', h with
      | [], _, h => rw [unesc_short hc (by simp)] at h; cases h
      | [x], _, h => rw [unesc_short hc (by simp)] at h; cases h
      | x :: y :: r, hn', h =>
        rw [unesc_two hc] at h
        rw [List.cons_append, List.cons_append, List.cons_append, unesc_two hc]
        by_cases hq : hexV x.toNat < 0 ∨ hexV y.toNat < 0
        · rw [if_pos hq] at h; cases h
        · rw [if_neg hq] at h ⊢
          cases hr : unesc r with
          | none => rw [hr] at h; cases h
          | some v =>
            rw [hr] at h
            cases h
            rw [unesc_app n r b v (by simp at hn'; omega) hr]
            cases unesc b <;> rfl
    · rw [unesc_plain hc] at h
      rw [List.cons_append, unesc_plain hc]
      cases hr : unesc l with
      | none => rw [hr] at h; cases h
      | some v =>
        rw [hr] at h
        cases h
        rw [unesc_app n l b v hn' hr]
        cases unesc b <;> rfl
theorem unesc_one {c : UInt8} (h : c.toNat ≠ 37) : unesc [c] = some [c] := by
  rw [unesc_plain h, unesc]
  rfl
theorem unesc_hex {x : Nat} (hx : x < 256) : unesc [37, hexU (x / 16), hexU (x % 16)] = some [UInt8.ofNat x] := by
  have h1 := hexV_hexU ⟨x / 16, by omega⟩
  have h2 := hexV_hexU ⟨x % 16, by omega⟩
  simp only at h1 h2
  rw [unesc_two (by decide), h1, h2, if_neg (by omega), unesc]
  show some [UInt8.ofNat (16 * ((x / 16 : Nat) : Int).toNat + ((x % 16 : Nat) : Int).toNat)] = _
  rw [Int.toNat_natCast, Int.toNat_natCast, show 16 * (x / 16) + x % 16 = x by omega]
theorem hexU_clean : ∀ q : Fin 16, hexU q.val ≠ 47 ∧ hexU q.val ≠ 63 := by decide +kernel
/-- Bytes that stand for u, with no slash and no question mark. -/
structure EscP (acc u : List UInt8) : Prop where
  un : unesc acc = some u
  no47 : (47 : UInt8) ∉ acc
  no63 : (63 : UInt8) ∉ acc
  len : acc.length ≤ 3 * u.length
theorem EscP.start : EscP [] [] := ⟨by rw [unesc], by simp, by simp, by simp⟩
theorem EscP.one {acc u : List UInt8} (h : EscP acc u) {x : Nat} (hx : (97 ≤ x ∧ x ≤ 122) ∨ (48 ≤ x ∧ x ≤ 57)) : EscP (acc ++ [UInt8.ofNat x]) (u ++ [UInt8.ofNat x]) := by
  have ht : (UInt8.ofNat x).toNat = x := ofNat_toNat (by omega)
  refine ⟨?_, ?_, ?_, ?_⟩
  · rw [unesc_app _ _ _ _ (Nat.le_refl _) h.un, unesc_one (by rw [ht]; omega)]
    rfl
  · rw [List.mem_append, List.mem_singleton]
    rintro (q | q)
    · exact h.no47 q
    · have := congrArg UInt8.toNat q; rw [ht] at this; have : (47 : UInt8).toNat = 47 := rfl; omega
  · rw [List.mem_append, List.mem_singleton]
    rintro (q | q)
    · exact h.no63 q
    · have := congrArg UInt8.toNat q; rw [ht] at this; have : (63 : UInt8).toNat = 63 := rfl; omega
  · have := h.len; simp; omega
theorem EscP.hex {acc u : List UInt8} (h : EscP acc u) {x : Nat} (hx : x < 256) : EscP (acc ++ [37, hexU (x / 16), hexU (x % 16)]) (u ++ [UInt8.ofNat x]) := by
  have h1 := hexU_clean ⟨x / 16, by omega⟩
  have h2 := hexU_clean ⟨x % 16, by omega⟩
  simp only at h1 h2
  refine ⟨?_, ?_, ?_, ?_⟩
  · rw [unesc_app _ _ _ _ (Nat.le_refl _) h.un, unesc_hex hx]
    rfl
  · simp only [List.mem_append, List.mem_cons, List.not_mem_nil, or_false]
    rintro (q | q | q | q)
    · exact h.no47 q
    · exact absurd q (by decide)
    · exact h1.1 q.symm
    · exact h2.1 q.symm
  · simp only [List.mem_append, List.mem_cons, List.not_mem_nil, or_false]
    rintro (q | q | q | q)
    · exact h.no63 q
    · exact absurd q (by decide)
    · exact h1.2 q.symm
    · exact h2.2 q.symm
  · have := h.len; simp; omega
def preS : List UInt8 := [47, 115, 101, 115, 115, 105, 111, 110, 115, 47]
def preU : List UInt8 := [47, 117, 115, 101, 114, 115, 47]
def sufS : List UInt8 := [47, 115, 101, 115, 115, 105, 111, 110, 115]
theorem ahd_app {c : UInt8} {a b : List UInt8} (h : c ∉ a) : ahd c (a ++ b) = a ++ ahd c b := by
  induction a with
  | nil => rfl
  | cons x a ih =>
    have h1 : x ≠ c := fun e => h (by rw [e]; exact List.mem_cons_self ..)
    rw [List.cons_append, ahd_step h1, ih (fun q => h (List.mem_cons_of_mem _ q))]
    rfl
theorem hsb_no {c : UInt8} {l : List UInt8} (h : c ∉ l) : hsb c l = false := (ahd_none h).2.2
theorem find_tok {acc u : List UInt8} (h : EscP acc u) (hu : u ≠ []) (hl : u.length ≤ 300) : findR mGet (preS ++ acc) = (⟨2, u, [], 0, false⟩, 200) := by
  have hacc : acc ≠ [] := fun e => hu (by have := h.un; rw [e, unesc] at this; exact (Option.some.inj this).symm)
  have hno : (63 : UInt8) ∉ (preS ++ acc).tail := by
    show (63 : UInt8) ∉ wSess ++ 47 :: acc
    rw [List.mem_append, List.mem_cons]
    rintro (q | q | q)
    · exact absurd q (by decide)
    · exact absurd q (by decide)
    · exact h.no63 q
  have hp : pathL (preS ++ acc) = wSess ++ 47 :: acc := (ahd_none hno).1
  have hr : rawL (preS ++ acc) = [wSess, acc] := by
    show cutL 47 (pathL (preS ++ acc)) = _
    rw [hp, cutL_hit (by decide), cutL_none h.no47]
  have hq : hasQ (preS ++ acc) = false := hsb_no hno
  have hs : splE (preS ++ acc) = 0 := by
    refine spl_ok (by have := h.len; simp [preS]; omega) rfl (fun p hp => ?_)
    rw [hr] at hp
    simp only [List.mem_cons, List.not_mem_nil, or_false] at hp
    rcases hp with rfl | rfl
    · decide +kernel
    · rw [h.un]; rfl
  unfold findR
  rw [if_pos hs, hr, hq]
  have hrow : rowsR [wSess, acc] = [(mDel, 4, false), (mGet, 2, false)] := by
    unfold rowsR
    dsimp only
    rw [if_pos ⟨rfl, hacc⟩]
  rw [hrow, if_neg (by simp)]
  have hf : [(mDel, (4 : Int), false), (mGet, 2, false)].find? (fun r => decide (r.1 = mGet)) = some (mGet, 2, false) := by decide +kernel
  rw [hf]
  show readR (fillR [wSess, acc] 2 false) _ false = _
  have hfl : fillR [wSess, acc] 2 false = ⟨2, u, [], 0, false⟩ := by
    unfold fillR
    dsimp only
    rw [if_neg (by decide), h.un]
    rfl
  rw [hfl]
  rfl
theorem find_usr {acc u : List UInt8} (h : EscP acc u) (hu : u ≠ []) (hl : u.length ≤ 300) : findR mGet (preU ++ acc ++ sufS) = (⟨7, [], u, 0, false⟩, 200) := by
  have hacc : acc ≠ [] := fun e => hu (by have := h.un; rw [e, unesc] at this; exact (Option.some.inj this).symm)
  have e0 : (preU ++ acc ++ sufS).tail = wUsers ++ 47 :: (acc ++ 47 :: wSess) := by
    rw [List.append_assoc]
    rfl
  have hno : (63 : UInt8) ∉ (preU ++ acc ++ sufS).tail := by
    rw [e0]
    simp only [List.mem_append, List.mem_cons]
    rintro (q | q | q | q | q)
    · exact absurd q (by decide)
    · exact absurd q (by decide)
    · exact h.no63 q
    · exact absurd q (by decide)
    · exact absurd q (by decide)
  have hp : pathL (preU ++ acc ++ sufS) = wUsers ++ 47 :: (acc ++ 47 :: wSess) := ((ahd_none hno).1).trans e0
  have hr : rawL (preU ++ acc ++ sufS) = [wUsers, acc, wSess] := by
    show cutL 47 (pathL (preU ++ acc ++ sufS)) = _
    rw [hp, cutL_hit (by decide), cutL_hit h.no47, cutL_none (by decide)]
  have hq : hasQ (preU ++ acc ++ sufS) = false := hsb_no hno
  have hs : splE (preU ++ acc ++ sufS) = 0 := by
    refine spl_ok (by have := h.len; simp [preU, sufS]; omega) rfl (fun p hp => ?_)
    rw [hr] at hp
    simp only [List.mem_cons, List.not_mem_nil, or_false] at hp
    rcases hp with rfl | rfl | rfl
    · decide +kernel
    · rw [h.un]; rfl
    · decide +kernel
  unfold findR
  rw [if_pos hs, hr, hq]
  have hrow : rowsR [wUsers, acc, wSess] = [(mDel, 5, false), (mGet, 7, false)] := by
    unfold rowsR
    dsimp only
    rw [if_neg (fun q => absurd q.1 (by decide)), if_pos ⟨rfl, hacc, rfl⟩]
  rw [hrow, if_neg (by simp)]
  have hf : [(mDel, (5 : Int), false), (mGet, 7, false)].find? (fun r => decide (r.1 = mGet)) = some (mGet, 7, false) := by decide +kernel
  rw [hf]
  show readR (fillR [wUsers, acc, wSess] 7 false) _ false = _
  have hfl : fillR [wUsers, acc, wSess] 7 false = ⟨7, [], u, 0, false⟩ := by
    unfold fillR
    dsimp only
    rw [if_pos rfl, h.un]
    rfl
  rw [hfl]
  rfl
theorem find_non : (findR mGet preS).2 = 404 ∧ (findR mGet (preU ++ sufS)).2 = 404 := by decide +kernel
end Go.Proofs.YtbpfggpljfpfcaaDoor
