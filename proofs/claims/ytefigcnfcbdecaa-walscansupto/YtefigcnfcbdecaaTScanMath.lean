/-
  The twin's Scan, as mathematics: what is left of a scan from a place on, and how a round of the twin turns it.
-/
import Derived.Test.YtefigcnfcbdecaaMore
import Derived.Test.YtefigcnfcbdecaaTwin
namespace Go.Proofs.Ytefigcnfcbdecaa
/-- What is left of a scan, from a place within a record or behind one. -/
def leftR (l : List UInt8) (g g2 t : Nat) (op : Bool) (acc : List UInt8) : List Rec × Nat :=
  match nextR l g t op acc with
  | .inl e => ([], e)
  | .inr (rec, t') => ((rec, t') :: (recsR l g2 t').1, (recsR l g2 t').2)
/-- Where the twin stands. -/
def TW (l : List UInt8) (t : Nat) (op : Bool) (acc : List UInt8) (pre : List Rec) : Prop :=
  ∃ g g2, l.length < t + g ∧ l.length ≤ t + g2 ∧ pre ++ (leftR l g g2 t op acc).1 = (scanL l).1 ∧ (leftR l g g2 t op acc).2 = (scanL l).2
theorem TW.start (l : List UInt8) : TW l 0 false [] [] := by
  refine ⟨l.length + 1, l.length, by omega, by omega, ?_, ?_⟩
  · rw [scanL, recsR, leftR, List.nil_append]
    cases nextR l (l.length + 1) 0 false [] <;> rfl
  · rw [scanL, recsR, leftR]
    cases nextR l (l.length + 1) 0 false [] <;> rfl
theorem TW.err {l : List UInt8} {t : Nat} {op : Bool} {acc : List UInt8} {pre : List Rec} {e : Nat} (h : TW l t op acc pre) (ht : t ≤ l.length) (hf : findL l t op = .inl e) : pre = (scanL l).1 ∧ e = (scanL l).2 := by
  obtain ⟨g, g2, h1, _, h3, h4⟩ := h
  obtain ⟨g', rfl⟩ : ∃ g', g = g' + 1 := ⟨g - 1, by omega⟩
  have e0 : leftR l (g' + 1) g2 t op acc = ([], e) := by
    rw [leftR, nextR, hf]
  rw [e0] at h3 h4
  exact ⟨by simpa using h3, h4⟩
theorem TW.pad {l : List UInt8} {t t' : Nat} {op : Bool} {acc : List UInt8} {pre : List Rec} (h : TW l t op acc pre) (ht : t ≤ l.length) (htt : t ≤ t') (hf : findL l t op = findL l t' op) : TW l t' op acc pre := by
  obtain ⟨g, g2, h1, h2, h3, h4⟩ := h
  obtain ⟨g', rfl⟩ : ∃ g', g = g' + 1 := ⟨g - 1, by omega⟩
  have e0 : leftR l (g' + 1) g2 t op acc = leftR l (g' + 1) g2 t' op acc := by
    rw [leftR, leftR, nextR, nextR, hf]
  rw [e0] at h3 h4
  exact ⟨g' + 1, g2, by omega, by omega, h3, h4⟩
theorem TW.more {l : List UInt8} {t s n : Nat} {k : UInt8} {op : Bool} {acc : List UInt8} {pre : List Rec} (h : TW l t op acc pre) (ht : t ≤ l.length) (hf : findL l t op = .inr (k, s, n)) (hk : ¬ (k = 1 ∨ k = 4)) : TW l (s + n) true (acc ++ (l.drop s).take n) pre := by
  obtain ⟨g, g2, h1, h2, h3, h4⟩ := h
  obtain ⟨g', rfl⟩ : ∃ g', g = g' + 1 := ⟨g - 1, by omega⟩
  have hb := find_bounds hf
  have e0 : leftR l (g' + 1) g2 t op acc = leftR l g' g2 (s + n) true (acc ++ (l.drop s).take n) := by
    rw [leftR, leftR, nextR, hf]
    dsimp only
    rw [if_neg hk]
  rw [e0] at h3 h4
  exact ⟨g', g2, by omega, by omega, h3, h4⟩
theorem TW.rec {l : List UInt8} {t s n : Nat} {k : UInt8} {op : Bool} {acc : List UInt8} {pre : List Rec} (h : TW l t op acc pre) (ht : t ≤ l.length) (hf : findL l t op = .inr (k, s, n)) (hk : k = 1 ∨ k = 4) : TW l (s + n) false [] (pre ++ [(acc ++ (l.drop s).take n, s + n)]) := by
  obtain ⟨g, g2, h1, h2, h3, h4⟩ := h
  obtain ⟨g', rfl⟩ : ∃ g', g = g' + 1 := ⟨g - 1, by omega⟩
  have hb := find_bounds hf
  obtain ⟨q, rfl⟩ : ∃ q, g2 = q + 1 := ⟨g2 - 1, by omega⟩
  have e0 : leftR l (g' + 1) (q + 1) t op acc = ((acc ++ (l.drop s).take n, s + n) :: (recsR l (q + 1) (s + n)).1, (recsR l (q + 1) (s + n)).2) := by
    rw [leftR, nextR, hf]
    dsimp only
    rw [if_pos hk]
  have e1 : leftR l (l.length + 1) q (s + n) false [] = recsR l (q + 1) (s + n) := by
    rw [leftR, recsR]
    cases nextR l (l.length + 1) (s + n) false [] <;> rfl
  rw [e0] at h3 h4
  refine ⟨l.length + 1, q, by omega, by omega, ?_, ?_⟩
  · rw [e1, List.append_assoc]; exact h3
  · rw [e1]; exact h4
/-! What find tells, case by case. -/
theorem find_fin (l : List UInt8) (op : Bool) : findL l l.length op = .inl (if op then 2 else 1) := by
  have hp : passedL l l.length = [] := by rw [passedL, List.drop_length, List.take_nil]
  rw [findL, hp]
  simp only [List.length_nil, Nat.add_zero, List.drop_length, findG]
  cases op <;> simp [zeroB]
theorem leftN_pos (t : Nat) : 1 ≤ leftN t := by unfold leftN; omega
theorem find_pad {l : List UInt8} {t : Nat} {op : Bool} (h7 : leftN t < 7) (hz : zeroB ((l.drop t).take (leftN t)) = true) (hl : t + leftN t ≤ l.length) : findL l t op = findL l (t + leftN t) op := by
  have hs : skipN t = leftN t := by rw [skipN, if_pos h7]
  have hr : roomN t = 1017 := by rw [roomN, if_pos h7]
  have hm : (t + leftN t) % 1024 = 0 := by unfold leftN; omega
  have hl2 : leftN (t + leftN t) = 1024 := by rw [leftN, hm]
  have hs2 : skipN (t + leftN t) = 0 := by rw [skipN, hl2]; rfl
  have hr2 : roomN (t + leftN t) = 1017 := by rw [roomN, hl2]; rfl
  have hp : passedL l t = (l.drop t).take (leftN t) := by rw [passedL, hs]
  have hpl : (passedL l t).length = leftN t := by rw [hp, List.length_take, List.length_drop]; omega
  have hp2 : passedL l (t + leftN t) = [] := by rw [passedL, hs2, List.take_zero]
  have hzz : zeroB (passedL l t) = true := by rw [hp]; exact hz
  rw [findL, findL, hp2, hs2, hr2, hs, hr, findG, findG, hzz, hpl]
  simp [zeroB]
theorem find_pad_bad {l : List UInt8} {t : Nat} {op : Bool} (h7 : leftN t < 7) (hz : zeroB ((l.drop t).take (leftN t)) = false) : findL l t op = .inl 3 := by
  have hs : skipN t = leftN t := by rw [skipN, if_pos h7]
  rw [findL, findG, passedL, hs, hz]
  simp
theorem find_pad_torn {l : List UInt8} {t : Nat} {op : Bool} (h7 : leftN t < 7) (hz : zeroB ((l.drop t).take (leftN t)) = true) (ht : t < l.length) (hl : l.length < t + leftN t) : findL l t op = .inl 2 := by
  have hs : skipN t = leftN t := by rw [skipN, if_pos h7]
  have hpl : ((l.drop t).take (leftN t)).length = l.length - t := by rw [List.length_take, List.length_drop]; omega
  rw [findL, findG, passedL, hs, hz, hpl, List.length_drop]
  rw [if_neg (by simp), if_neg (by omega), if_pos (by omega)]
theorem find_at {l : List UInt8} {t : Nat} {op : Bool} (h7 : 7 ≤ leftN t) (ht : t < l.length) : findL l t op =
    if l.length - t < 7 then .inl 2 else if leftN t - 7 < lenF (l.drop t) then .inl 3 else if followsN ((l.drop t).getD 6 0).toNat op = false then .inl 3 else
    if l.length - t < 7 + lenF (l.drop t) then .inl 2 else
    if (l.drop t).take 7 = headL ((l.drop t).getD 6 0) (((l.drop t).drop 7).take (lenF (l.drop t))) then .inr ((l.drop t).getD 6 0, t + 7, lenF (l.drop t)) else .inl 3 := by
  have hs : skipN t = 0 := by rw [skipN, if_neg (by omega)]
  have hr : roomN t = leftN t - 7 := by rw [roomN, if_neg (by omega)]
  have hp : passedL l t = [] := by rw [passedL, hs, List.take_zero]
  rw [findL, hp, hs, hr, findG]
  simp only [List.length_nil, Nat.add_zero, List.length_drop]
  rw [if_neg (by simp [zeroB]), if_neg (by omega)]
/-- A part and its head are a fragment. -/
theorem frag_eq {r : List UInt8} {k : UInt8} {n : Nat} (hr : 7 + n ≤ r.length) : (r.take (7 + n) = fragL k ((r.drop 7).take n)) ↔ r.take 7 = headL k ((r.drop 7).take n) := by
  have e : r.take (7 + n) = r.take 7 ++ (r.drop 7).take n := List.take_add
  rw [e, fragL]
  constructor
  · intro h
    exact List.append_inj_left h (by rw [List.length_take]; simp [headL]; omega)
  · intro h
    rw [h]
end Go.Proofs.Ytefigcnfcbdecaa
