/-
  Plain mathematics: what find and next tell of the bytes of a record, and of those bytes cut off.
-/
import Derived.Test.YtefigcnfcbdecaaTurnScan
namespace Go.Proofs.Ytefigcnfcbdecaa
theorem zeroB_rep (n : Nat) : zeroB (List.replicate n 0) = true := by simp [zeroB]
theorem bt_len' {n : Nat} (h : n ≤ 1017) : (bt (n / 256)).toNat * 256 + (bt n).toNat = n := by
  simp [bt]
  omega
theorem passed_cut {l F : List UInt8} {t m : Nat} (hd : l.drop t = (List.replicate (skipN t) 0 ++ F).take m) : passedL l t = List.replicate (min (skipN t) m) 0 := by
  rw [passedL, hd, List.take_take, List.take_append_of_le_length (by rw [List.length_replicate]; omega), List.take_replicate]
  congr 1
  omega
theorem drop_cut {l F : List UInt8} {t m : Nat} (hd : l.drop t = (List.replicate (skipN t) 0 ++ F).take m) : l.drop (t + (passedL l t).length) = F.take (m - skipN t) := by
  rw [passed_cut hd, List.length_replicate, ← List.drop_drop, hd]
  by_cases h : m ≤ skipN t
  · rw [Nat.min_eq_right h, Nat.sub_eq_zero_of_le h, List.take_zero, List.drop_eq_nil_of_le (by rw [List.length_take]; omega)]
  · have h' : skipN t ≤ m := by omega
    rw [Nat.min_eq_left h', List.drop_take, List.drop_append_of_le_length (by rw [List.length_replicate]; omega)]
    simp
theorem take_frag {c : UInt8} {p rest : List UInt8} {k : Nat} (h : 7 ≤ k) : (fragL c p ++ rest).take k = headL c p ++ (p ++ rest).take (k - 7) := by
  have e : fragL c p ++ rest = headL c p ++ (p ++ rest) := by simp [fragL]
  rw [e, List.take_append, List.take_of_length_le (by exact h)]
  rfl
theorem find_in {l : List UInt8} {t m : Nat} {bg : Bool} {c : UInt8} {p rest : List UInt8} (hd : l.drop t = (List.replicate (skipN t) 0 ++ (fragL c p ++ rest)).take m) (hp : p.length ≤ roomN t)
    (hf : followsN c.toNat bg = true) (hm : skipN t + 7 + p.length ≤ m) : findL l t bg = .inr (c, t + skipN t + 7, p.length) := by
  have hr := room_le t
  unfold findL findG
  rw [drop_cut hd, passed_cut hd, zeroB_rep, take_frag (by omega)]
  have hlen : (headL c p ++ (p ++ rest).take (m - skipN t - 7)).length = 7 + min (m - skipN t - 7) (p.length + rest.length) := by
    rw [List.length_append, List.length_take, List.length_append]; rfl
  have hlf : lenF (headL c p ++ (p ++ rest).take (m - skipN t - 7)) = p.length := bt_len' (by omega)
  have e1 : (headL c p ++ (p ++ rest).take (m - skipN t - 7)).take 7 = headL c p := rfl
  have e2 : ((headL c p ++ (p ++ rest).take (m - skipN t - 7)).drop 7).take p.length = p := by
    show ((p ++ rest).take (m - skipN t - 7)).take p.length = p
    rw [List.take_take, Nat.min_eq_left (by omega), List.take_left]
  have e3 : (headL c p ++ (p ++ rest).take (m - skipN t - 7)).getD 6 0 = c := rfl
  rw [hlf, e1, e2, e3, hf, if_neg (by decide), if_neg (by rw [hlen]; omega), if_neg (by rw [hlen]; omega), if_neg (by omega), if_neg (by decide), if_neg (by rw [hlen]; omega), if_pos rfl, List.length_replicate, Nat.min_eq_left (by omega)]
theorem find_out {l : List UInt8} {t m : Nat} {bg : Bool} {c : UInt8} {p rest : List UInt8} (hd : l.drop t = (List.replicate (skipN t) 0 ++ (fragL c p ++ rest)).take m) (hp : p.length ≤ roomN t)
    (hf : followsN c.toNat bg = true) (hm : m < skipN t + 7 + p.length) : ∃ e, findL l t bg = .inl e ∧ (e = 1 ∨ e = 2) := by
  have hr := room_le t
  unfold findL findG
  rw [drop_cut hd, passed_cut hd, zeroB_rep, if_neg (by decide)]
  by_cases h7 : m - skipN t < 7
  · have hl7 : ((fragL c p ++ rest).take (m - skipN t)).length < 7 := by rw [List.length_take]; omega
    split
    · exact ⟨1, rfl, Or.inl rfl⟩
    · first | exact ⟨2, rfl, Or.inr rfl⟩ | (rw [if_pos hl7]; exact ⟨2, rfl, Or.inr rfl⟩)
  · rw [take_frag (by omega)]
    have hlen : (headL c p ++ (p ++ rest).take (m - skipN t - 7)).length = 7 + min (m - skipN t - 7) (p.length + rest.length) := by
      rw [List.length_append, List.length_take, List.length_append]; rfl
    have hlf : lenF (headL c p ++ (p ++ rest).take (m - skipN t - 7)) = p.length := bt_len' (by omega)
    have e3 : (headL c p ++ (p ++ rest).take (m - skipN t - 7)).getD 6 0 = c := rfl
    rw [hlf, e3, hf, if_neg (by rw [hlen]; omega), if_neg (by rw [hlen]; omega), if_neg (by omega), if_neg (by decide), if_pos (by rw [hlen]; omega)]
    exact ⟨2, rfl, Or.inr rfl⟩
theorem follows_kind (first last : Bool) : followsN (UInt8.ofNat (kindN first last)).toNat (!first) = true := by cases first <;> cases last <;> decide
theorem kind_last (first : Bool) : UInt8.ofNat (kindN first true) = 1 ∨ UInt8.ofNat (kindN first true) = 4 := by cases first <;> decide
theorem kind_more (first : Bool) : ¬ (UInt8.ofNat (kindN first false) = 1 ∨ UInt8.ofNat (kindN first false) = 4) := by cases first <;> decide
theorem after_room (t : Nat) : skipN (t + skipN t + 7 + roomN t) = 0 ∧ roomN (t + skipN t + 7 + roomN t) = 1017 := by
  unfold skipN roomN leftN
  split <;> (constructor <;> split <;> omega)
theorem drop_frag {l rest : List UInt8} {c : UInt8} {p : List UInt8} {t m : Nat} (hd : l.drop t = (List.replicate (skipN t) 0 ++ (fragL c p ++ rest)).take m) : l.drop (t + skipN t + 7) = (p ++ rest).take (m - (skipN t + 7)) := by
  have : l.drop (t + skipN t + 7) = (l.drop t).drop (skipN t + 7) := by rw [List.drop_drop, Nat.add_assoc]
  rw [this, hd, List.drop_take, ← List.drop_drop]
  have e1 : (List.replicate (skipN t) (0 : UInt8) ++ (fragL c p ++ rest)).drop (skipN t) = fragL c p ++ rest := by
    rw [List.drop_append_of_le_length (by rw [List.length_replicate]; omega)]; simp
  rw [e1]
  have e2 : (fragL c p ++ rest).drop 7 = p ++ rest := by simp [fragL]; rfl
  rw [e2]
theorem fragL_len (c : UInt8) (p : List UInt8) : (fragL c p).length = 7 + p.length := by rw [fragL, List.length_append]; rfl
theorem drop_next {l rest : List UInt8} {c : UInt8} {p : List UInt8} {t m : Nat} (hd : l.drop t = (List.replicate (skipN t) 0 ++ (fragL c p ++ rest)).take m) : l.drop (t + skipN t + 7 + p.length) = rest.take (m - (skipN t + 7 + p.length)) := by
  rw [← List.drop_drop, drop_frag hd, List.drop_take, List.drop_left]
  congr 1
  omega
theorem cut_len {l F : List UInt8} {t m : Nat} (hd : l.drop t = (List.replicate (skipN t) 0 ++ F).take m) : l.length - t = min m (skipN t + F.length) := by
  have := congrArg List.length hd
  rw [List.length_drop, List.length_take, List.length_append, List.length_replicate] at this
  exact this
theorem next_in {l rest : List UInt8} : ∀ (g G : Nat) (first : Bool) (t m : Nat) (rec acc : List UInt8), rec.length + 2 ≤ g + (if roomN t = 0 then 0 else 1) → l.length - t + 1 ≤ G →
    l.drop t = (List.replicate (skipN t) 0 ++ (layR g first (roomN t) rec ++ rest)).take m → skipN t + (layR g first (roomN t) rec).length ≤ m →
    nextR l G t (!first) acc = .inr (acc ++ rec, t + skipN t + (layR g first (roomN t) rec).length)
  | 0, _, _, t, _, rec, _, hg, _, _, _ => by split at hg <;> omega
  | g + 1, 0, _, _, _, _, _, _, hG, _, _ => by omega
  | g + 1, G + 1, first, t, m, rec, acc, hg, hG, hd, hm => by
    by_cases hl : rec.length ≤ roomN t
    · rw [layR_last hl] at hd hm ⊢
      rw [fragL_len] at hm ⊢
      rw [nextR, find_in hd hl (follows_kind first true) (by omega)]
      simp only
      rw [if_pos (kind_last first), drop_frag hd, List.take_take, Nat.min_eq_left (by omega), List.take_left]
      congr 2
      omega
    · rw [layR_step hl] at hd hm ⊢
      have htl : (rec.take (roomN t)).length = roomN t := by rw [List.length_take]; omega
      rw [List.length_append, fragL_len, htl] at hm ⊢
      rw [List.append_assoc] at hd
      rw [nextR, find_in hd (by omega) (follows_kind first false) (by omega)]
      simp only
      rw [if_neg (kind_more first), drop_frag hd, htl, List.take_take, Nat.min_eq_left (by omega), List.take_append_of_le_length (by omega), List.take_of_length_le (by omega : (rec.take (roomN t)).length ≤ roomN t)]
      have hn := drop_next hd
      rw [htl] at hn
      have hdl := cut_len hd
      rw [List.length_append, fragL_len, htl] at hdl
      obtain ⟨a1, a2⟩ := after_room t
      have ih := next_in (l := l) (rest := rest) g G false (t + skipN t + 7 + roomN t) (m - (skipN t + 7 + roomN t)) (rec.drop (roomN t)) (acc ++ rec.take (roomN t)) (by rw [a2, List.length_drop, if_neg (by decide)]; split at hg <;> omega) (by omega) (by rw [a1, a2]; exact hn) (by rw [a1, a2]; omega)
      rw [a1, a2] at ih
      rw [show (!false) = true from rfl] at ih
      rw [ih, List.append_assoc, List.take_append_drop]
      congr 2
      omega
theorem next_out {l rest : List UInt8} : ∀ (g G : Nat) (first : Bool) (t m : Nat) (rec acc : List UInt8), rec.length + 2 ≤ g + (if roomN t = 0 then 0 else 1) → l.length - t + 1 ≤ G →
    l.drop t = (List.replicate (skipN t) 0 ++ (layR g first (roomN t) rec ++ rest)).take m → m < skipN t + (layR g first (roomN t) rec).length →
    ∃ e, nextR l G t (!first) acc = .inl e ∧ (e = 1 ∨ e = 2)
  | 0, _, _, t, _, rec, _, hg, _, _, _ => by split at hg <;> omega
  | g + 1, 0, _, _, _, _, _, _, hG, _, _ => by omega
  | g + 1, G + 1, first, t, m, rec, acc, hg, hG, hd, hm => by
    by_cases hl : rec.length ≤ roomN t
    · rw [layR_last hl] at hd hm
      rw [fragL_len] at hm
      obtain ⟨e, he, h12⟩ := find_out hd hl (follows_kind first true) (by omega)
      rw [nextR, he]
      exact ⟨e, rfl, h12⟩
    · rw [layR_step hl] at hd hm
      have htl : (rec.take (roomN t)).length = roomN t := by rw [List.length_take]; omega
      rw [List.length_append, fragL_len, htl] at hm
      rw [List.append_assoc] at hd
      by_cases hc : m < skipN t + 7 + roomN t
      · obtain ⟨e, he, h12⟩ := find_out hd (by omega) (follows_kind first false) (by omega)
        rw [nextR, he]
        exact ⟨e, rfl, h12⟩
      · rw [nextR, find_in hd (by omega) (follows_kind first false) (by omega)]
        simp only
        rw [if_neg (kind_more first)]
        have hn := drop_next hd
        rw [htl] at hn ⊢
        have hdl := cut_len hd
        rw [List.length_append, fragL_len, htl] at hdl
        obtain ⟨a1, a2⟩ := after_room t
        exact next_out (l := l) (rest := rest) g G false (t + skipN t + 7 + roomN t) (m - (skipN t + 7 + roomN t)) (rec.drop (roomN t)) _ (by rw [a2, List.length_drop, if_neg (by decide)]; split at hg <;> omega) (by omega) (by rw [a1, a2]; exact hn) (by rw [a1, a2]; omega)
/-- The bytes of records that are laid one behind the other, from a place on. -/
def logOf : List (List UInt8) → Nat → List UInt8
  | [], _ => []
  | r :: rs, t => layL t r ++ logOf rs (t + (layL t r).length)
/-- These records, and where each ends. -/
def recsOf : List (List UInt8) → Nat → List Rec
  | [], _ => []
  | r :: rs, t => (r, t + (layL t r).length) :: recsOf rs (t + (layL t r).length)
theorem lay_fuel (r : List UInt8) (t : Nat) : r.length + 2 ≤ r.length + 2 + (if roomN t = 0 then 0 else 1) := by split <;> omega
theorem layL_len' (t : Nat) (r : List UInt8) : (layL t r).length = skipN t + (layR (r.length + 2) true (roomN t) r).length := by rw [layL, List.length_append, List.length_replicate]
theorem recs_cut {l : List UInt8} : ∀ (rs : List (List UInt8)) (t m g : Nat), t ≤ l.length → l.length - t + 1 ≤ g → l.drop t = (logOf rs t).take m →
    (recsR l g t).1 = (recsOf rs t).takeWhile (fun x => decide (x.2 ≤ t + m)) ∧ ((recsR l g t).2 = 1 ∨ (recsR l g t).2 = 2) ∧ ((logOf rs t).length ≤ m → (recsR l g t).2 = 1)
  | _, t, m, 0, _, hg, _ => by omega
  | [], t, m, g + 1, ht, hg, hd => by
    have hl : l.length = t := by
      have := congrArg List.length hd
      rw [List.length_drop, logOf, List.take_nil, List.length_nil] at this
      omega
    have hn : nextR l (l.length + 1) t false [] = .inl 1 := by rw [nextR, ← hl, find_end]
    rw [recsR, hn]
    exact ⟨rfl, Or.inl rfl, fun _ => rfl⟩
  | r :: rs, t, m, g + 1, ht, hg, hd => by
    have hd' : l.drop t = (List.replicate (skipN t) 0 ++ (layR (r.length + 2) true (roomN t) r ++ logOf rs (t + (layL t r).length))).take m := by
      rw [hd, logOf, layL, List.append_assoc]
    have hll := layL_len' t r
    have hcl := cut_len hd'
    rw [List.length_append] at hcl
    by_cases hm : (layL t r).length ≤ m
    · have hn := next_in (l := l) (rest := logOf rs (t + (layL t r).length)) (r.length + 2) (l.length + 1) true t m r [] (lay_fuel r t) (by omega) hd' (by omega)
      have h7 : 7 ≤ (layL t r).length := by rw [layL_len, spanN]; split <;> omega
      rw [show (!true) = false from rfl, List.nil_append, Nat.add_assoc, ← hll] at hn
      have hdn : l.drop (t + (layL t r).length) = (logOf rs (t + (layL t r).length)).take (m - (layL t r).length) := by
        rw [← List.drop_drop, hd, logOf, List.drop_take, List.drop_left]
      obtain ⟨i1, i2, i3⟩ := recs_cut rs (t + (layL t r).length) (m - (layL t r).length) g (by omega) (by omega) hdn
      rw [show t + (layL t r).length + (m - (layL t r).length) = t + m by omega] at i1
      rw [recsR, hn]
      simp only
      refine ⟨?_, i2, fun h => i3 ?_⟩
      · rw [recsOf, List.takeWhile_cons, if_pos (by simp; omega), i1]
      · rw [logOf, List.length_append] at h
        omega
    · obtain ⟨e, he, h12⟩ := next_out (l := l) (rest := logOf rs (t + (layL t r).length)) (r.length + 2) (l.length + 1) true t m r [] (lay_fuel r t) (by omega) hd' (by omega)
      rw [show (!true) = false from rfl] at he
      rw [recsR, he]
      simp only
      refine ⟨?_, h12, fun h => ?_⟩
      · rw [recsOf, List.takeWhile_cons, if_neg (by simp; omega)]
      · rw [logOf, List.length_append] at h
        omega
theorem ends_le : ∀ (rs : List (List UInt8)) (t : Nat), ∀ x ∈ recsOf rs t, x.2 ≤ t + (logOf rs t).length
  | [], _, x, h => by simp [recsOf] at h
  | r :: rs, t, x, h => by
    rw [logOf, List.length_append]
    rw [recsOf] at h
    rcases List.mem_cons.1 h with rfl | h
    · simp only; omega
    · have := ends_le rs _ x h
      omega
theorem takeWhile_all {α : Type} {f : α → Bool} : ∀ {l : List α}, (∀ x ∈ l, f x = true) → l.takeWhile f = l
  | [], _ => rfl
  | x :: l, h => by rw [List.takeWhile_cons, if_pos (h x (by simp)), takeWhile_all (fun y hy => h y (by simp [hy]))]
/-- What Scan tells of a log, and of a log that is cut off. -/
theorem scan_cut (rs : List (List UInt8)) (n : Nat) : (scanL ((logOf rs 0).take n)).1 = (recsOf rs 0).takeWhile (fun x => decide (x.2 ≤ n)) ∧ ((scanL ((logOf rs 0).take n)).2 = 1 ∨ (scanL ((logOf rs 0).take n)).2 = 2) := by
  obtain ⟨h1, h2, _⟩ := recs_cut (l := (logOf rs 0).take n) rs 0 n (((logOf rs 0).take n).length + 1) (Nat.zero_le _) (by omega) (by rw [List.drop_zero])
  rw [Nat.zero_add] at h1
  exact ⟨h1, h2⟩
theorem scan_log (rs : List (List UInt8)) : scanL (logOf rs 0) = (recsOf rs 0, 1) := by
  obtain ⟨h1, _, h3⟩ := recs_cut (l := logOf rs 0) rs 0 (logOf rs 0).length ((logOf rs 0).length + 1) (Nat.zero_le _) (by omega) (by rw [List.drop_zero, List.take_length])
  rw [Nat.zero_add, takeWhile_all (fun x hx => by have := ends_le rs 0 x hx; simp; omega)] at h1
  exact Prod.ext h1 (h3 (Nat.le_refl _))
end Go.Proofs.Ytefigcnfcbdecaa
