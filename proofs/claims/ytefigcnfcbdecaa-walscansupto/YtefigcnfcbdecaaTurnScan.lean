/-
  Plain mathematics: what Scan tells of one record's bytes, and of such bytes with a turned text.
-/
import Derived.Test.YtefigcnfcbdecaaTurnMath
import Derived.Test.YtefigcnfcbdecaaScan
import Derived.Test.YtefigcnfcbdecaaLay
namespace Go.Proofs.Ytefigcnfcbdecaa
theorem skip0 : skipN 0 = 0 := by decide
theorem room0 : roomN 0 = 1017 := by decide
theorem lay_small {rec : List UInt8} (h : rec.length ≤ 1000) : layL 0 rec = headL 1 rec ++ rec := by
  rw [layL, skip0, room0, layR_last (by omega)]
  rfl
theorem bt_len {n : Nat} (h : n ≤ 1000) : (bt (n / 256)).toNat * 256 + (bt n).toNat = n := by
  simp [bt]
  omega
theorem lenF_head {rec P : List UInt8} (h : rec.length ≤ 1000) : lenF (headL 1 rec ++ P) = rec.length := by
  show (bt (rec.length / 256)).toNat * 256 + (bt rec.length).toNat = _
  exact bt_len h
theorem find_head {rec P : List UInt8} (hl : P.length = rec.length) (h : rec.length ≤ 1000) : findL (headL 1 rec ++ P) 0 false = if headL 1 rec = headL 1 P then .inr (1, 7, rec.length) else .inl 3 := by
  have hp : passedL (headL 1 rec ++ P) 0 = [] := by rw [passedL, skip0, List.take_zero]
  have hlen : (headL 1 rec ++ P).length = 7 + rec.length := by rw [List.length_append, hl]; rfl
  unfold findL findG
  rw [hp]
  simp only [List.length_nil, Nat.add_zero, List.drop_zero]
  rw [if_neg (by decide), if_neg (by rw [hlen]; omega), if_neg (by rw [hlen]; omega), lenF_head h, room0, if_neg (by omega), if_neg (by show ¬ followsN 1 false = false; decide), if_neg (by rw [hlen]; omega)]
  have e1 : (headL 1 rec ++ P).take 7 = headL 1 rec := rfl
  have e2 : ((headL 1 rec ++ P).drop 7).take rec.length = P := by
    show P.take rec.length = P
    rw [← hl, List.take_length]
  rw [e1, e2]
  rfl
theorem head_ne {rec P : List UInt8} (h : Cx.crc (1 :: rec) ≠ Cx.crc (1 :: P)) : ¬ headL 1 rec = headL 1 P := by
  intro e
  apply h
  have l1 : Cx.crc (1 :: rec) < 4294967296 := Cx.crc_lt _
  have l2 : Cx.crc (1 :: P) < 4294967296 := Cx.crc_lt _
  simp only [headL, sumF, List.cons.injEq] at e
  obtain ⟨a, b, c, d, _⟩ := e
  have a' := congrArg UInt8.toNat a
  have b' := congrArg UInt8.toNat b
  have c' := congrArg UInt8.toNat c
  have d' := congrArg UInt8.toNat d
  simp [bt] at a' b' c' d'
  omega
theorem find_end {l : List UInt8} : findL l l.length false = .inl 1 := by
  have hp : passedL l l.length = [] := by rw [passedL, List.drop_length, List.take_nil]
  unfold findL findG
  rw [hp]
  simp only [List.length_nil, Nat.add_zero, List.drop_length]
  rw [if_neg (by decide), if_pos (by simp)]
theorem scan_good {rec : List UInt8} (h : rec.length ≤ 1000) : scanL (headL 1 rec ++ rec) = ([(rec, rec.length + 7)], 1) := by
  have hlen : (headL 1 rec ++ rec).length = 7 + rec.length := by rw [List.length_append]; rfl
  have hn : nextR (headL 1 rec ++ rec) ((headL 1 rec ++ rec).length + 1) 0 false [] = .inr (rec, 7 + rec.length) := by
    rw [nextR, find_head rfl h, if_pos rfl]
    simp only [List.nil_append]
    rw [if_pos (Or.inl trivial)]
    have e2 : ((headL 1 rec ++ rec).drop 7).take rec.length = rec := by
      show rec.take rec.length = rec
      rw [List.take_length]
    rw [e2]
  have hn2 : nextR (headL 1 rec ++ rec) ((headL 1 rec ++ rec).length + 1) (7 + rec.length) false [] = .inl 1 := by
    rw [nextR, ← hlen, find_end]
  obtain ⟨g, hg⟩ : ∃ g, (headL 1 rec ++ rec).length = g + 1 := ⟨6 + rec.length, by omega⟩
  rw [scanL, recsR, hn]
  simp only
  rw [hg, recsR, hn2, Nat.add_comm]
theorem scan_bad {rec P : List UInt8} (hl : P.length = rec.length) (h : rec.length ≤ 1000) (hne : Cx.crc (1 :: rec) ≠ Cx.crc (1 :: P)) : scanL (headL 1 rec ++ P) = ([], 3) := by
  rw [scanL, recsR, nextR, find_head hl h, if_neg (head_ne hne)]
end Go.Proofs.Ytefigcnfcbdecaa
