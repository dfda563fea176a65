/-
  A route's target: the pure side.
-/
import Derived.Test.YtbpfggpljfpfcaaDoorEsW
import Derived.Lib.ItoaMem
namespace Go.Proofs.YtbpfggpljfpfcaaDoor
open Go.RowKit
theorem escB_clean : ∀ x : Fin 256, (47 : UInt8) ∉ escB x.val ∧ (63 : UInt8) ∉ escB x.val := by decide +kernel
theorem escOf_clean : ∀ l : List UInt8, (47 : UInt8) ∉ escOf l ∧ (63 : UInt8) ∉ escOf l
  | [] => by simp [escOf]
  | c :: l => by
    have h1 := escB_clean ⟨c.toNat, c.toNat_lt⟩
    have h2 := escOf_clean l
    simp only at h1
    rw [escOf, List.mem_append, List.mem_append]
    exact ⟨fun h => h.elim h1.1 h2.1, fun h => h.elim h1.2 h2.2⟩
theorem escP_esc (u : List UInt8) : EscP (escOf u) u := ⟨unesc_esc u, (escOf_clean u).1, (escOf_clean u).2, escOf_len u⟩
theorem find_long {m t : List UInt8} (h : 1024 < t.length) : findR m t = (rt0, 400) := by
  refine find_bad ?_
  unfold splE
  rw [if_pos h]
  decide
theorem find_on {m t : List UInt8} {L : List (List UInt8)} {rs : List Row} {k : Int} {me : Bool} {X : Rt} (hl : t.length ≤ 1024) (hh : t.head? = some 47) (hr : rawL t = L) (hu : ∀ p ∈ L, (unesc p).isSome = true) (hq : hasQ t = false) (hrow : rowsR L = rs) (hf : rs.find? (fun r => decide (r.1 = m)) = some (m, k, me)) (hk : k ≠ 8) (hfl : fillR L k me = X) (hX : X.kind = k) : findR m t = (X, 200) := by
  have hs : splE t = 0 := spl_ok (by omega) hh (fun p hp => hu p (by rw [hr] at hp; exact hp))
  have hne : rs ≠ [] := fun e => by rw [e] at hf; cases hf
  unfold findR
  rw [if_pos hs, hr, hq, hrow, if_neg hne, hf]
  show readR (fillR L k me) _ false = _
  rw [hfl]
  unfold readR
  rw [if_neg (by decide), if_neg (by rw [hX]; exact hk)]
theorem find_none {m t : List UInt8} {L : List (List UInt8)} (hl : t.length ≤ 1024) (hh : t.head? = some 47) (hr : rawL t = L) (hu : ∀ p ∈ L, (unesc p).isSome = true) (hrow : rowsR L = []) : findR m t = (rt0, 404) := by
  have hs : splE t = 0 := spl_ok (by omega) hh (fun p hp => hu p (by rw [hr] at hp; exact hp))
  unfold findR
  rw [if_pos hs, hr, if_pos hrow]
/-! ### Paths with one or two pieces behind a word -/
theorem path_two {w acc : List UInt8} (hw : (47 : UInt8) ∉ w) (hw2 : (63 : UInt8) ∉ w) (h1 : (47 : UInt8) ∉ acc) (h2 : (63 : UInt8) ∉ acc) : rawL (47 :: w ++ 47 :: acc) = [w, acc] ∧ hasQ (47 :: w ++ 47 :: acc) = false := by
  have hno : (63 : UInt8) ∉ (47 :: w ++ 47 :: acc).tail := by
    show (63 : UInt8) ∉ w ++ 47 :: acc
    rw [List.mem_append, List.mem_cons]
    rintro (q | q | q)
    · exact hw2 q
    · exact absurd q (by decide)
    · exact h2 q
  refine ⟨?_, hsb_no hno⟩
  have h63 : ahd 63 (w ++ 47 :: acc) = w ++ 47 :: acc := (ahd_none hno).1
  show cutL 47 (ahd 63 (w ++ 47 :: acc)) = _
  rw [h63]
  rw [cutL_hit hw, cutL_none h1]
theorem path_three {w acc z : List UInt8} (hw : (47 : UInt8) ∉ w) (hw2 : (63 : UInt8) ∉ w) (h1 : (47 : UInt8) ∉ acc) (h2 : (63 : UInt8) ∉ acc) (hz : (47 : UInt8) ∉ z) (hz2 : (63 : UInt8) ∉ z) : rawL (47 :: w ++ 47 :: (acc ++ 47 :: z)) = [w, acc, z] ∧ hasQ (47 :: w ++ 47 :: (acc ++ 47 :: z)) = false := by
  have hno : (63 : UInt8) ∉ (47 :: w ++ 47 :: (acc ++ 47 :: z)).tail := by
    show (63 : UInt8) ∉ w ++ 47 :: (acc ++ 47 :: z)
    simp only [List.mem_append, List.mem_cons]
    rintro (q | q | q | q | q)
    · exact hw2 q
    · exact absurd q (by decide)
    · exact h2 q
    · exact absurd q (by decide)
    · exact hz2 q
  refine ⟨?_, hsb_no hno⟩
  have h63 : ahd 63 (w ++ 47 :: (acc ++ 47 :: z)) = w ++ 47 :: (acc ++ 47 :: z) := (ahd_none hno).1
  show cutL 47 (ahd 63 (w ++ 47 :: (acc ++ 47 :: z))) = _
  rw [h63]
  rw [cutL_hit hw, cutL_hit h1, cutL_none hz]
theorem esc_ne {u : List UInt8} (h : u ≠ []) : escOf u ≠ [] := fun e => by
  have := unesc_esc u
  rw [e, unesc] at this
  exact h (Option.some.inj this).symm
def pS2 (u : List UInt8) : List UInt8 := 47 :: wSess ++ 47 :: escOf u
def pS3 (u : List UInt8) : List UInt8 := 47 :: wSess ++ 47 :: (escOf u ++ 47 :: wTouch)
def pU3 (u : List UInt8) : List UInt8 := 47 :: wUsers ++ 47 :: (escOf u ++ 47 :: wSess)
theorem un_some (u : List UInt8) : (unesc (escOf u)).isSome = true := by rw [unesc_esc]; rfl
theorem find_s2 {m u : List UInt8} {k : Int} (hf : ([(mDel, (4 : Int), false), (mGet, 2, false)] : List Row).find? (fun r => decide (r.1 = m)) = some (m, k, false)) (hk : k ≠ 8) : findR m (pS2 u) = if u ≠ [] ∧ (pS2 u).length ≤ 1024 then (⟨k, u, [], 0, false⟩, 200) else (rt0, if 1024 < (pS2 u).length then 400 else 404) := by
  by_cases hl : 1024 < (pS2 u).length
  · rw [find_long hl, if_neg (fun h => by omega), if_pos hl]
  obtain ⟨hr, hq⟩ := path_two (w := wSess) (acc := escOf u) (by decide) (by decide) (escOf_clean u).1 (escOf_clean u).2
  have hun : ∀ p ∈ [wSess, escOf u], (unesc p).isSome = true := fun p hp => by
    simp only [List.mem_cons, List.not_mem_nil, or_false] at hp
    rcases hp with rfl | rfl
    · decide +kernel
    · exact un_some u
  by_cases hu : u = []
  · rw [if_neg (fun h => h.1 hu), if_neg hl]
    refine find_none (by omega) rfl hr hun ?_
    unfold rowsR
    dsimp only
    rw [if_neg (fun q => q.2 (by rw [hu]; rfl))]
  · rw [if_pos ⟨hu, by omega⟩]
    refine find_on (by omega) rfl hr hun hq (rs := [(mDel, (4 : Int), false), (mGet, 2, false)]) ?_ hf hk ?_ rfl
    · unfold rowsR
      dsimp only
      rw [if_pos ⟨rfl, esc_ne hu⟩]
    · unfold fillR
      dsimp only
      rw [if_neg (by decide), unesc_esc]
      rfl
theorem find_s3 (u : List UInt8) : findR mPost (pS3 u) = if u ≠ [] ∧ (pS3 u).length ≤ 1024 then (⟨3, u, [], 0, false⟩, 200) else (rt0, if 1024 < (pS3 u).length then 400 else 404) := by
  by_cases hl : 1024 < (pS3 u).length
  · rw [find_long hl, if_neg (fun h => by omega), if_pos hl]
  obtain ⟨hr, hq⟩ := path_three (w := wSess) (acc := escOf u) (z := wTouch) (by decide) (by decide) (escOf_clean u).1 (escOf_clean u).2 (by decide) (by decide)
  have hun : ∀ p ∈ [wSess, escOf u, wTouch], (unesc p).isSome = true := fun p hp => by
    simp only [List.mem_cons, List.not_mem_nil, or_false] at hp
    rcases hp with rfl | rfl | rfl
    · decide +kernel
    · exact un_some u
    · decide +kernel
  by_cases hu : u = []
  · rw [if_neg (fun h => h.1 hu), if_neg hl]
    refine find_none (by omega) rfl hr hun ?_
    unfold rowsR
    dsimp only
    rw [if_neg (fun q => q.2.1 (by rw [hu]; rfl)), if_neg (fun q => absurd q.1 (by decide))]
  · rw [if_pos ⟨hu, by omega⟩]
    refine find_on (by omega) rfl hr hun hq (rs := [(mPost, (3 : Int), false)]) (k := 3) (me := false) ?_ (by decide +kernel) (by decide) ?_ rfl
    · unfold rowsR
      dsimp only
      rw [if_pos ⟨rfl, esc_ne hu, rfl⟩]
    · unfold fillR
      dsimp only
      rw [if_neg (by decide), unesc_esc]
      rfl
theorem find_u3 {m u : List UInt8} {k : Int} (hf : ([(mDel, (5 : Int), false), (mGet, 7, false)] : List Row).find? (fun r => decide (r.1 = m)) = some (m, k, false)) (hk : k ≠ 8) : findR m (pU3 u) = if u ≠ [] ∧ (pU3 u).length ≤ 1024 then (⟨k, [], u, 0, false⟩, 200) else (rt0, if 1024 < (pU3 u).length then 400 else 404) := by
  by_cases hl : 1024 < (pU3 u).length
  · rw [find_long hl, if_neg (fun h => by omega), if_pos hl]
  obtain ⟨hr, hq⟩ := path_three (w := wUsers) (acc := escOf u) (z := wSess) (by decide) (by decide) (escOf_clean u).1 (escOf_clean u).2 (by decide) (by decide)
  have hun : ∀ p ∈ [wUsers, escOf u, wSess], (unesc p).isSome = true := fun p hp => by
    simp only [List.mem_cons, List.not_mem_nil, or_false] at hp
    rcases hp with rfl | rfl | rfl
    · decide +kernel
    · exact un_some u
    · decide +kernel
  by_cases hu : u = []
  · rw [if_neg (fun h => h.1 hu), if_neg hl]
    refine find_none (by omega) rfl hr hun ?_
    unfold rowsR
    dsimp only
    rw [if_neg (fun q => absurd q.1 (by decide)), if_neg (fun q => q.2.1 (by rw [hu]; rfl))]
  · rw [if_pos ⟨hu, by omega⟩]
    refine find_on (by omega) rfl hr hun hq (rs := [(mDel, (5 : Int), false), (mGet, 7, false)]) ?_ hf hk ?_ rfl
    · unfold rowsR
      dsimp only
      rw [if_neg (fun q => absurd q.1 (by decide)), if_pos ⟨rfl, esc_ne hu, rfl⟩]
    · unfold fillR
      dsimp only
      rw [if_pos rfl, unesc_esc]
      rfl
/-! ### A number in a query -/
theorem dec_byte (u : Nat) : (UInt8.ofNat (48 + u % 10)).toNat = 48 + u % 10 := by
  rw [UInt8.toNat_ofNat_of_lt' (by show 48 + u % 10 < 256; omega)]
theorem digN_congr {s t : ByteArray} : ∀ k, (∀ j, j < k → byteAt s j = byteAt t j) → digN s k = digN t k
  | 0, _ => rfl
  | k + 1, h => by rw [digN, digN, digN_congr k (fun j hj => h j (by omega)), h k (by omega)]
theorem dec_dig : ∀ (n u : Nat), u ≤ n → digN (bOf (Lib.decDigits u)) (Lib.decDigits u).length = some u
  | n, u, hn => by
    by_cases h : u < 10
    · rw [Lib.decDigits_one h]
      have hb : byteAt (bOf [UInt8.ofNat (48 + u)]) 0 = 48 + u := by
        rw [bOf_byte]
        show (UInt8.ofNat (48 + u)).toNat = _
        rw [UInt8.toNat_ofNat_of_lt' (by show 48 + u < 256; omega)]
      show digN _ (0 + 1) = _
      rw [digN_step (n := 0) rfl, hb, if_pos (by simp [isDig]; omega)]
      simp
    · match n, hn with
      | 0, hn => omega
      | n + 1, hn =>
        have ih := dec_dig n (u / 10) (by omega)
        have e : Lib.decDigits u = Lib.decDigits (u / 10) ++ [UInt8.ofNat (48 + u % 10)] := by rw [Lib.decDigits, dif_neg h]
        rw [e, List.length_append, List.length_singleton]
        have hp : digN (bOf (Lib.decDigits (u / 10) ++ [UInt8.ofNat (48 + u % 10)])) (Lib.decDigits (u / 10)).length = some (u / 10) := by
          rw [← ih]
          refine digN_congr _ fun j hj => ?_
          rw [bOf_byte, bOf_byte, getD_left hj]
        have hb : byteAt (bOf (Lib.decDigits (u / 10) ++ [UInt8.ofNat (48 + u % 10)])) (Lib.decDigits (u / 10)).length = 48 + u % 10 := by
          rw [bOf_byte, getD_right (Nat.le_refl _), Nat.sub_self]
          exact dec_byte u
        rw [digN_step hp, hb, if_pos (by simp [isDig]; omega)]
        congr 1
        omega
theorem dec_first : ∀ (n u : Nat), u ≤ n → 1 ≤ u → ((Lib.decDigits u).getD 0 0).toNat ≠ 48
  | n, u, hn, h1 => by
    by_cases h : u < 10
    · rw [Lib.decDigits_one h]
      show (UInt8.ofNat (48 + u)).toNat ≠ 48
      rw [UInt8.toNat_ofNat_of_lt' (by show 48 + u < 256; omega)]
      omega
    · match n, hn with
      | 0, hn => omega
      | n + 1, hn =>
        have e : Lib.decDigits u = Lib.decDigits (u / 10) ++ [UInt8.ofNat (48 + u % 10)] := by rw [Lib.decDigits, dif_neg h]
        have hl : 0 < (Lib.decDigits (u / 10)).length := by rw [Lib.decDigits_length]; exact Lib.nDigits_pos _
        rw [e, getD_left hl]
        exact dec_first n (u / 10) (by omega) (by omega)
theorem nDig_le : ∀ (k u : Nat), u < 10 ^ (k + 1) → Lib.nDigits u ≤ k + 1
  | 0, u, h => by rw [Lib.nDigits_small (by simpa using h)]; exact Nat.le_refl _
  | k + 1, u, h => by
    by_cases h0 : u < 10
    · rw [Lib.nDigits_small h0]; omega
    · have := nDig_le k (u / 10) (by rw [Nat.pow_succ] at h; omega)
      rw [Lib.nDigits_big h0]
      omega
theorem dec_chars : ∀ (n u : Nat), u ≤ n → ∀ c ∈ Lib.decDigits u, 48 ≤ c.toNat ∧ c.toNat ≤ 57
  | n, u, hn => by
    by_cases h : u < 10
    · rw [Lib.decDigits_one h]
      intro c hc
      rw [List.mem_singleton] at hc
      subst hc
      rw [UInt8.toNat_ofNat_of_lt' (by show 48 + u < 256; omega)]
      omega
    · match n, hn with
      | 0, hn => omega
      | n + 1, hn =>
        have e : Lib.decDigits u = Lib.decDigits (u / 10) ++ [UInt8.ofNat (48 + u % 10)] := by rw [Lib.decDigits, dif_neg h]
        rw [e]
        intro c hc
        rw [List.mem_append, List.mem_singleton] at hc
        rcases hc with hc | rfl
        · exact dec_chars n (u / 10) (by omega) c hc
        · rw [dec_byte]
          omega
theorem itoa_chars (n : Int) : ∀ c ∈ Lib.itoa n, c.toNat = 45 ∨ (48 ≤ c.toNat ∧ c.toNat ≤ 57) := by
  intro c hc
  unfold Lib.itoa at hc
  by_cases h : n < 0
  · rw [if_pos h, List.mem_cons] at hc
    rcases hc with rfl | hc
    · exact Or.inl rfl
    · exact Or.inr (dec_chars _ _ (Nat.le_refl _) c hc)
  · rw [if_neg h] at hc
    exact Or.inr (dec_chars _ _ (Nat.le_refl _) c hc)
theorem itoa_len {n : Int} (h0 : -9223372036854775808 ≤ n) (h1 : n ≤ 9223372036854775807) : (Lib.itoa n).length ≤ 20 := by
  unfold Lib.itoa
  by_cases h : n < 0
  · rw [if_pos h, List.length_cons, Lib.decDigits_length]
    have := nDig_le 18 n.natAbs (by omega)
    omega
  · rw [if_neg h, Lib.decDigits_length]
    have := nDig_le 18 n.toNat (by omega)
    omega
theorem dig_itoa {n : Int} (h1 : n ≤ 9223372036854775807) : (digR (bOf (Lib.itoa n)) 999999999 = (n, 0) ∧ 0 ≤ n ∧ n ≤ 999999999) ∨ ((digR (bOf (Lib.itoa n)) 999999999).2 ≠ 0 ∧ ¬ (0 ≤ n ∧ n ≤ 999999999)) := by
  by_cases h : n < 0
  · refine Or.inr ⟨?_, by omega⟩
    have e : Lib.itoa n = 45 :: Lib.decDigits n.natAbs := by unfold Lib.itoa; rw [if_pos h]
    by_cases hb : digBad (bOf (Lib.itoa n)) = true
    · rw [digR_bad hb]; decide
    have hb' : digBad (bOf (Lib.itoa n)) = false := by simpa using hb
    rw [digR_good hb']
    have hz : digN (bOf (Lib.itoa n)) 1 = none := by
      show (if isDig (byteAt (bOf (Lib.itoa n)) 0) = true then _ else none) = none
      rw [bOf_byte, e]
      rfl
    have hl : 1 ≤ (bOf (Lib.itoa n)).size := by rw [bOf_size, e, List.length_cons]; omega
    rw [digN_none hz hl]
    decide
  · have e : Lib.itoa n = Lib.decDigits n.toNat := by unfold Lib.itoa; rw [if_neg h]
    have hd := dec_dig n.toNat n.toNat (Nat.le_refl _)
    have hz : (bOf (Lib.itoa n)).size = (Lib.decDigits n.toNat).length := by rw [bOf_size, e]
    have hp : 1 ≤ (bOf (Lib.itoa n)).size := by rw [hz, Lib.decDigits_length]; exact Lib.nDigits_pos _
    by_cases hb : digBad (bOf (Lib.itoa n)) = true
    · refine Or.inr ⟨by rw [digR_bad hb]; decide, fun hn => ?_⟩
      have hnd : Lib.nDigits n.toNat ≤ 9 := nDig_le 8 _ (by omega)
      simp only [digBad, decide_eq_true_eq] at hb
      rcases hb with q | q | ⟨q, q2⟩
      · omega
      · rw [hz, Lib.decDigits_length] at q; omega
      · have h1n : 1 ≤ n.toNat := by
          rcases Nat.eq_zero_or_pos n.toNat with z | z
          · exfalso
            rw [hz, Lib.decDigits_length, z, Lib.nDigits_small (by decide)] at q
            omega
          · exact z
        rw [bOf_byte, e] at q2
        exact dec_first _ _ (Nat.le_refl _) h1n q2
    · have hb' : digBad (bOf (Lib.itoa n)) = false := by simpa using hb
      rw [digR_good hb', hz, e, hd]
      simp only
      by_cases hm : (999999999 : Int) < ((n.toNat : Nat) : Int)
      · rw [if_pos hm]
        exact Or.inr ⟨by decide, by omega⟩
      · rw [if_neg hm]
        exact Or.inl ⟨by rw [Int.toNat_of_nonneg (by omega)], by omega, by omega⟩
def fromQ : List UInt8 := [63, 102, 114, 111, 109, 61]
def pA (n : Int) : List UInt8 := 47 :: wAudit ++ (fromQ ++ Lib.itoa n)
theorem unesc_plainL : ∀ l : List UInt8, (∀ c ∈ l, c.toNat ≠ 37) → unesc l = some l
  | [], _ => by rw [unesc]
  | c :: l, h => by
    rw [unesc_plain (h c (List.mem_cons_self ..)), unesc_plainL l (fun d hd => h d (List.mem_cons_of_mem _ hd))]
    rfl
theorem not_in {l : List UInt8} {c : UInt8} (h : ∀ d ∈ l, d.toNat = 45 ∨ (48 ≤ d.toNat ∧ d.toNat ≤ 57)) (hc : c.toNat ≠ 45 ∧ (c.toNat < 48 ∨ 57 < c.toNat)) : c ∉ l := fun hm => by have := h c hm; omega
theorem qry_from (n : Int) : qryR (wFrom ++ 61 :: Lib.itoa n) = some [(wFrom, Lib.itoa n)] := by
  have hc := itoa_chars n
  have h38 : (38 : UInt8) ∉ wFrom ++ 61 :: Lib.itoa n := by
    rw [List.mem_append, List.mem_cons]
    rintro (q | q | q)
    · exact absurd q (by decide)
    · exact absurd q (by decide)
    · exact not_in hc (by decide) q
  unfold qryR
  rw [if_neg (by simp [wFrom]), cutL_none h38]
  obtain ⟨e1, e2, e3⟩ := ahd_hit (c := 61) (a := wFrom) (t := Lib.itoa n) (by decide)
  have hp : pairL (wFrom ++ 61 :: Lib.itoa n) = some (wFrom, Lib.itoa n) := by
    unfold pairL
    rw [if_pos e3, e1, e2, unesc_plainL _ (by decide), unesc_plainL (Lib.itoa n) (fun c h => by have := hc c h; omega)]
  unfold pairsL
  rw [hp]
  rfl
theorem find_a {n : Int} (h0 : -9223372036854775808 ≤ n) (h1 : n ≤ 9223372036854775807) : findR mGet (pA n) = if 0 ≤ n ∧ n ≤ 999999999 then (⟨8, [], [], n, false⟩, 200) else (rt0, 400) := by
  obtain ⟨e1, e2, e3⟩ := ahd_hit (c := 63) (a := wAudit) (t := wFrom ++ 61 :: Lib.itoa n) (by decide)
  have et : (pA n).tail = wAudit ++ 63 :: (wFrom ++ 61 :: Lib.itoa n) := rfl
  have hr : rawL (pA n) = [wAudit] := by
    show cutL 47 (ahd 63 (pA n).tail) = _
    rw [et, e1]
    decide +kernel
  have hq : hasQ (pA n) = true := by
    show hsb 63 (pA n).tail = _
    rw [et, e3]
  have hy : qryL (pA n) = wFrom ++ 61 :: Lib.itoa n := by
    show bhd 63 (pA n).tail = _
    rw [et, e2]
  have hs : splE (pA n) = 0 := by
    refine spl_ok (by have := itoa_len h0 h1; simp [pA, wAudit, fromQ]; omega) rfl (fun p hp => ?_)
    rw [hr, List.mem_singleton] at hp
    subst hp
    decide +kernel
  unfold findR
  rw [if_pos hs, hr, hq, hy]
  have hrow : rowsR [wAudit] = [(mGet, 8, false)] := by decide +kernel
  rw [hrow, if_neg (by simp)]
  have hf : [(mGet, (8 : Int), false)].find? (fun r => decide (r.1 = mGet)) = some (mGet, 8, false) := by decide +kernel
  rw [hf]
  show readR (fillR [wAudit] 8 false) _ true = _
  unfold readR
  rw [if_pos rfl, if_pos (show (fillR [wAudit] 8 false).kind = 8 from rfl), qry_from]
  simp only
  rw [show (⟨(Lib.itoa n).toArray⟩ : ByteArray) = bOf (Lib.itoa n) from rfl]
  rcases dig_itoa h1 with ⟨hd, hh⟩ | ⟨hd, hh⟩
  · rw [hd, if_pos ⟨trivial, rfl⟩, if_pos hh]
    rfl
  · rw [if_neg (fun q => hd q.2), if_neg hh]
/-! ### Targets -/
def pieceR (r : Rule) (x : Rt) : List UInt8 := if r.part = 2 then x.user else x.token
def wordR (r : Rule) (x : Rt) (w : List UInt8) : List UInt8 := 47 :: (if w = [] then escOf (pieceR r x) else w)
def printR (r : Rule) (x : Rt) : List UInt8 := r.path.flatMap (wordR r x) ++ (if r.kind = 8 then fromQ ++ Lib.itoa x.frm else [])
def p1 : List UInt8 := 47 :: wSess
def pMe : List UInt8 := 47 :: wMe
def pSt : List UInt8 := 47 :: wStats
theorem print_0 (x : Rt) : printR (rul 0) x = p1 := rfl
theorem print_1 (x : Rt) : printR (rul 1) x = pS2 x.token := by show (47 :: wSess ++ (47 :: escOf x.token ++ [])) ++ [] = _; simp [pS2]
theorem print_2 (x : Rt) : printR (rul 2) x = pS3 x.token := by show (47 :: wSess ++ (47 :: escOf x.token ++ (47 :: wTouch ++ []))) ++ [] = _; simp [pS3]
theorem print_3 (x : Rt) : printR (rul 3) x = pS2 x.token := by show (47 :: wSess ++ (47 :: escOf x.token ++ [])) ++ [] = _; simp [pS2]
theorem print_4 (x : Rt) : printR (rul 4) x = pU3 x.user := by show (47 :: wUsers ++ (47 :: escOf x.user ++ (47 :: wSess ++ []))) ++ [] = _; simp [pU3]
theorem print_5 (x : Rt) : printR (rul 5) x = p1 := rfl
theorem print_6 (x : Rt) : printR (rul 6) x = pU3 x.user := by show (47 :: wUsers ++ (47 :: escOf x.user ++ (47 :: wSess ++ []))) ++ [] = _; simp [pU3]
theorem print_7 (x : Rt) : printR (rul 7) x = pA x.frm := by show (47 :: wAudit ++ []) ++ (fromQ ++ Lib.itoa x.frm) = _; simp [pA]
theorem print_8 (x : Rt) : printR (rul 8) x = pMe := rfl
theorem print_9 (x : Rt) : printR (rul 9) x = pSt := rfl
/-- What Target tells: a method and a target, or none. -/
def selR (b : Bool) (m t : List UInt8) : Option (List UInt8 × List UInt8) := if b = true ∧ t.length ≤ 1024 then some (m, t) else none
def bare (x : Rt) : Bool := x.token.isEmpty && x.user.isEmpty && decide (x.frm = 0)
def tokS (x : Rt) : Bool := !x.token.isEmpty && (x.user.isEmpty && (decide (x.frm = 0) && !x.me))
def usrS (x : Rt) : Bool := !x.user.isEmpty && (x.token.isEmpty && (decide (x.frm = 0) && !x.me))
def tgtR (x : Rt) : Option (List UInt8 × List UInt8) :=
  if x.kind = 1 then selR (bare x && !x.me) mPost p1
  else if x.kind = 2 then (if x.me = true then selR (bare x) mGet pMe else selR (tokS x) mGet (pS2 x.token))
  else if x.kind = 3 then selR (tokS x) mPost (pS3 x.token)
  else if x.kind = 4 then selR (tokS x) mDel (pS2 x.token)
  else if x.kind = 5 then selR (usrS x) mDel (pU3 x.user)
  else if x.kind = 6 then selR (bare x && !x.me) mDel p1
  else if x.kind = 7 then selR (usrS x) mGet (pU3 x.user)
  else if x.kind = 8 then selR (decide (0 ≤ x.frm ∧ x.frm ≤ 999999999) && (x.token.isEmpty && (x.user.isEmpty && !x.me))) mGet (pA x.frm)
  else if x.kind = 9 then selR (bare x && !x.me) mGet pSt
  else none
theorem find_p1 : findR mPost p1 = (⟨1, [], [], 0, false⟩, 200) := find_on (k := 1) (me := false) (L := [wSess]) (rs := [(mDel, 6, false), (mPost, 1, false)]) (by decide) rfl (by decide +kernel) (by decide +kernel) (by decide +kernel) (by decide +kernel) (by decide +kernel) (by decide) rfl rfl
theorem find_p6 : findR mDel p1 = (⟨6, [], [], 0, false⟩, 200) := find_on (k := 6) (me := false) (L := [wSess]) (rs := [(mDel, 6, false), (mPost, 1, false)]) (by decide) rfl (by decide +kernel) (by decide +kernel) (by decide +kernel) (by decide +kernel) (by decide +kernel) (by decide) rfl rfl
theorem find_pMe : findR mGet pMe = (⟨2, [], [], 0, true⟩, 200) := find_on (k := 2) (me := true) (L := [wMe]) (rs := [(mGet, 2, true)]) (by decide) rfl (by decide +kernel) (by decide +kernel) (by decide +kernel) (by decide +kernel) (by decide +kernel) (by decide) rfl rfl
theorem find_pSt : findR mGet pSt = (⟨9, [], [], 0, false⟩, 200) := find_on (k := 9) (me := false) (L := [wStats]) (rs := [(mGet, 9, false)]) (by decide) rfl (by decide +kernel) (by decide +kernel) (by decide +kernel) (by decide +kernel) (by decide +kernel) (by decide) rfl rfl
/-- A rule's condition on a route. -/
def hitB (i : Nat) (x : Rt) : Bool := match i with
  | 0 => bare x && !x.me
  | 1 => tokS x && decide ((pS2 x.token).length ≤ 1024)
  | 2 => tokS x && decide ((pS3 x.token).length ≤ 1024)
  | 3 => tokS x && decide ((pS2 x.token).length ≤ 1024)
  | 4 => usrS x && decide ((pU3 x.user).length ≤ 1024)
  | 5 => bare x && !x.me
  | 6 => usrS x && decide ((pU3 x.user).length ≤ 1024)
  | 7 => decide (0 ≤ x.frm ∧ x.frm ≤ 999999999) && (x.token.isEmpty && (x.user.isEmpty && !x.me))
  | 8 => bare x && x.me
  | _ => bare x && !x.me
theorem snd_no {x : Rt} {s : Int} (h : s ≠ 200) (y : Rt) : ¬ ((y, s) : Rt × Int) = (x, 200) := fun e => h (congrArg Prod.snd e)
theorem fixed_hit {x : Rt} {k : Int} {me : Bool} (hk : x.kind = k) : (((⟨k, [], [], 0, me⟩ : Rt), (200 : Int)) = (x, 200)) ↔ (bare x && (x.me == me)) = true := by
  obtain ⟨a, b, c, d, e⟩ := x
  simp only at hk
  subst hk
  simp only [bare, Prod.mk.injEq, Rt.mk.injEq, true_and, and_true, Bool.and_eq_true, List.isEmpty_iff, decide_eq_true_eq, beq_iff_eq]
  constructor
  · rintro ⟨h1, h2, h3, h4⟩; exact ⟨⟨⟨h1.symm, h2.symm⟩, h3.symm⟩, h4.symm⟩
  · rintro ⟨⟨⟨h1, h2⟩, h3⟩, h4⟩; exact ⟨h1.symm, h2.symm, h3.symm, h4.symm⟩
theorem tok_hit {x : Rt} {k : Int} {n : Nat} {s : Int} (hs : s ≠ 200) (hk : x.kind = k) : ((if x.token ≠ [] ∧ n ≤ 1024 then ((⟨k, x.token, [], 0, false⟩ : Rt), (200 : Int)) else (rt0, s)) = (x, 200)) ↔ (tokS x && decide (n ≤ 1024)) = true := by
  obtain ⟨a, b, c, d, e⟩ := x
  simp only at hk
  subst hk
  simp only [tokS]
  by_cases h : b ≠ [] ∧ n ≤ 1024
  · rw [if_pos h]
    obtain ⟨h1, h2⟩ := h
    cases c with
    | nil =>
      cases e with
      | true => simp
      | false =>
        have h3 : b.isEmpty = false := by cases b with
          | nil => exact absurd rfl h1
          | cons _ _ => rfl
        simp only [h3, h2, decide_true, List.isEmpty_nil, Bool.not_false, Bool.and_true, Bool.true_and, Prod.mk.injEq, Rt.mk.injEq, true_and, and_true, decide_eq_true_eq]
        exact ⟨fun e => e.symm, fun e => e.symm⟩
    | cons y c => simp
  · rw [if_neg h]
    constructor
    · exact fun q => absurd q (snd_no hs _)
    · intro q
      exfalso
      simp only [Bool.and_eq_true, Bool.not_eq_true', decide_eq_true_eq] at q
      exact h ⟨fun e => by rw [e] at q; simp at q, q.2⟩
theorem usr_hit {x : Rt} {k : Int} {n : Nat} {s : Int} (hs : s ≠ 200) (hk : x.kind = k) : ((if x.user ≠ [] ∧ n ≤ 1024 then ((⟨k, [], x.user, 0, false⟩ : Rt), (200 : Int)) else (rt0, s)) = (x, 200)) ↔ (usrS x && decide (n ≤ 1024)) = true := by
  obtain ⟨a, b, c, d, e⟩ := x
  simp only at hk
  subst hk
  simp only [usrS]
  by_cases h : c ≠ [] ∧ n ≤ 1024
  · rw [if_pos h]
    obtain ⟨h1, h2⟩ := h
    cases b with
    | nil =>
      cases e with
      | true => simp
      | false =>
        have h3 : c.isEmpty = false := by cases c with
          | nil => exact absurd rfl h1
          | cons _ _ => rfl
        simp only [h3, h2, decide_true, List.isEmpty_nil, Bool.not_false, Bool.and_true, Bool.true_and, Prod.mk.injEq, Rt.mk.injEq, true_and, and_true, decide_eq_true_eq]
        exact ⟨fun e => e.symm, fun e => e.symm⟩
    | cons y b => simp
  · rw [if_neg h]
    constructor
    · exact fun q => absurd q (snd_no hs _)
    · intro q
      exfalso
      simp only [Bool.and_eq_true, Bool.not_eq_true', decide_eq_true_eq] at q
      exact h ⟨fun e => by rw [e] at q; simp at q, q.2⟩
theorem s400 (n : Nat) : (if 1024 < n then (400 : Int) else 404) ≠ 200 := by split <;> decide
theorem hit_iff (i : Nat) (hi : i < 10) (x : Rt) (hk : x.kind = (rul i).kind) (h0 : -9223372036854775808 ≤ x.frm) (h1 : x.frm ≤ 9223372036854775807) : findR (rul i).meth (printR (rul i) x) = (x, 200) ↔ hitB i x = true := by
  rcases (by omega : i = 0 ∨ i = 1 ∨ i = 2 ∨ i = 3 ∨ i = 4 ∨ i = 5 ∨ i = 6 ∨ i = 7 ∨ i = 8 ∨ i = 9) with rfl | rfl | rfl | rfl | rfl | rfl | rfl | rfl | rfl | rfl
  · rw [print_0, show (rul 0).meth = mPost from rfl, find_p1, fixed_hit (k := 1) hk]
    show _ ↔ (bare x && !x.me) = true
    cases x.me <;> simp
  · rw [print_1, show (rul 1).meth = mGet from rfl, find_s2 (k := 2) (by decide +kernel) (by decide)]
    exact tok_hit (s400 _) hk
  · rw [print_2, show (rul 2).meth = mPost from rfl, find_s3]
    exact tok_hit (s400 _) hk
  · rw [print_3, show (rul 3).meth = mDel from rfl, find_s2 (k := 4) (by decide +kernel) (by decide)]
    exact tok_hit (s400 _) hk
  · rw [print_4, show (rul 4).meth = mDel from rfl, find_u3 (k := 5) (by decide +kernel) (by decide)]
    exact usr_hit (s400 _) hk
  · rw [print_5, show (rul 5).meth = mDel from rfl, find_p6, fixed_hit (k := 6) hk]
    show _ ↔ (bare x && !x.me) = true
    cases x.me <;> simp
  · rw [print_6, show (rul 6).meth = mGet from rfl, find_u3 (k := 7) (by decide +kernel) (by decide)]
    exact usr_hit (s400 _) hk
  · rw [print_7, show (rul 7).meth = mGet from rfl, find_a h0 h1]
    obtain ⟨a, b, c, d, e⟩ := x
    have hk' : a = 8 := hk
    subst hk'
    show _ ↔ (decide (0 ≤ d ∧ d ≤ 999999999) && (b.isEmpty && (c.isEmpty && !e))) = true
    simp only
    by_cases h : 0 ≤ d ∧ d ≤ 999999999
    · rw [if_pos h, decide_eq_true h]
      cases b <;> cases c <;> cases e <;> simp
    · rw [if_neg h, decide_eq_false h]
      simp only [Bool.false_and, Bool.false_eq_true, iff_false]
      exact snd_no (by decide) _
  · rw [print_8, show (rul 8).meth = mGet from rfl, find_pMe, fixed_hit (k := 2) hk]
    show _ ↔ (bare x && x.me) = true
    cases x.me <;> simp
  · rw [print_9, show (rul 9).meth = mGet from rfl, find_pSt, fixed_hit (k := 9) hk]
    show _ ↔ (bare x && !x.me) = true
    cases x.me <;> simp
theorem sel_and {b : Bool} {m t : List UInt8} (h : (b && decide (t.length ≤ 1024)) = true) : selR b m t = some (m, t) := by
  simp only [Bool.and_eq_true, decide_eq_true_eq] at h
  unfold selR
  rw [if_pos h]
theorem sel_fix {b : Bool} {m t : List UInt8} (h : b = true) (hl : t.length ≤ 1024) : selR b m t = some (m, t) := by
  unfold selR
  rw [if_pos ⟨h, hl⟩]
theorem sel_no {b : Bool} {m t : List UInt8} (h : (b && decide (t.length ≤ 1024)) = false) : selR b m t = none := by
  unfold selR
  rw [if_neg (fun q => by simp [q.1, q.2] at h)]
theorem sel_nob {b : Bool} {m t : List UInt8} (h : b = false) : selR b m t = none := by
  unfold selR
  rw [if_neg (fun q => by simp [h] at q)]
theorem pA_len {n : Int} (h0 : -9223372036854775808 ≤ n) (h1 : n ≤ 9223372036854775807) : (pA n).length ≤ 1024 := by
  have := itoa_len h0 h1
  simp [pA, wAudit, fromQ]
  omega
theorem tgt_hit (i : Nat) (hi : i < 10) (x : Rt) (hk : x.kind = (rul i).kind) (h0 : -9223372036854775808 ≤ x.frm) (h1 : x.frm ≤ 9223372036854775807) (hf : hitB i x = true) : tgtR x = some ((rul i).meth, printR (rul i) x) := by
  unfold tgtR
  rw [hk]
  rcases (by omega : i = 0 ∨ i = 1 ∨ i = 2 ∨ i = 3 ∨ i = 4 ∨ i = 5 ∨ i = 6 ∨ i = 7 ∨ i = 8 ∨ i = 9) with rfl | rfl | rfl | rfl | rfl | rfl | rfl | rfl | rfl | rfl
  · rw [print_0]; exact sel_fix hf (by decide)
  · rw [print_1]
    have hm : x.me = false := by
      have : (tokS x && decide ((pS2 x.token).length ≤ 1024)) = true := hf
      simp only [tokS, Bool.and_eq_true, Bool.not_eq_true'] at this
      exact this.1.2.2.2
    show (if x.me = true then _ else _) = _
    rw [if_neg (by rw [hm]; decide)]
    exact sel_and hf
  · rw [print_2]; exact sel_and hf
  · rw [print_3]; exact sel_and hf
  · rw [print_4]; exact sel_and hf
  · rw [print_5]; exact sel_fix hf (by decide)
  · rw [print_6]; exact sel_and hf
  · rw [print_7]; exact sel_fix hf (pA_len h0 h1)
  · rw [print_8]
    have hq : (bare x && x.me) = true := hf
    simp only [Bool.and_eq_true] at hq
    show (if x.me = true then _ else _) = _
    rw [if_pos hq.2]
    exact sel_fix hq.1 (by decide)
  · rw [print_9]; exact sel_fix hf (by decide)
theorem tgt_none (x : Rt) (h : ∀ i, i < 10 → x.kind = (rul i).kind → hitB i x = false) : tgtR x = none := by
  unfold tgtR
  by_cases k1 : x.kind = 1
  · rw [if_pos k1]; exact sel_nob (h 0 (by decide) k1)
  rw [if_neg k1]
  by_cases k2 : x.kind = 2
  · rw [if_pos k2]
    have h8 : (bare x && x.me) = false := h 8 (by decide) k2
    have h1' : (tokS x && decide ((pS2 x.token).length ≤ 1024)) = false := h 1 (by decide) k2
    by_cases hm : x.me = true
    · rw [if_pos hm]
      refine sel_nob ?_
      rw [hm, Bool.and_true] at h8
      exact h8
    · rw [if_neg hm]; exact sel_no h1'
  rw [if_neg k2]
  by_cases k3 : x.kind = 3
  · rw [if_pos k3]; exact sel_no (h 2 (by decide) k3)
  rw [if_neg k3]
  by_cases k4 : x.kind = 4
  · rw [if_pos k4]; exact sel_no (h 3 (by decide) k4)
  rw [if_neg k4]
  by_cases k5 : x.kind = 5
  · rw [if_pos k5]; exact sel_no (h 4 (by decide) k5)
  rw [if_neg k5]
  by_cases k6 : x.kind = 6
  · rw [if_pos k6]; exact sel_nob (h 5 (by decide) k6)
  rw [if_neg k6]
  by_cases k7 : x.kind = 7
  · rw [if_pos k7]; exact sel_no (h 6 (by decide) k7)
  rw [if_neg k7]
  by_cases k8 : x.kind = 8
  · rw [if_pos k8]; exact sel_nob (h 7 (by decide) k8)
  rw [if_neg k8]
  by_cases k9 : x.kind = 9
  · rw [if_pos k9]; exact sel_nob (h 9 (by decide) k9)
  rw [if_neg k9]
/-- What a target asks for is told again. -/
theorem tgt_back {x : Rt} {m t : List UInt8} (h0 : -9223372036854775808 ≤ x.frm) (h1 : x.frm ≤ 9223372036854775807) (h : tgtR x = some (m, t)) : findR m t = (x, 200) := by
  by_cases hx : ∃ i, i < 10 ∧ x.kind = (rul i).kind ∧ hitB i x = true
  · obtain ⟨i, hi, hk, hh⟩ := hx
    rw [tgt_hit i hi x hk h0 h1 hh] at h
    cases h
    exact (hit_iff i hi x hk h0 h1).2 hh
  · rw [tgt_none x (fun i hi hk => by
      cases hb : hitB i x with
      | false => rfl
      | true => exact absurd ⟨i, hi, hk, hb⟩ hx)] at h
    cases h
theorem tgt_len {x : Rt} {m t : List UInt8} (h0 : -9223372036854775808 ≤ x.frm) (h1 : x.frm ≤ 9223372036854775807) (h : tgtR x = some (m, t)) : t.length ≤ 1024 := by
  have hb := tgt_back h0 h1 h
  by_cases hl : 1024 < t.length
  · rw [find_long hl] at hb
    exact absurd hb (snd_no (by decide) _)
  · omega
end Go.Proofs.YtbpfggpljfpfcaaDoor
