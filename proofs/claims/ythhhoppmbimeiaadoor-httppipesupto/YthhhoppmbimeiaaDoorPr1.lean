/-
  A request's bytes, and what Parse tells of them: the pure side.
-/
import Derived.Test.YthhhoppmbimeiaaDoorPm2
import Derived.Test.YthhhoppmbimeiaaDoorQHd
namespace Go.Proofs.YthhhoppmbimeiaaDoor
open Go.RowKit
def byts (s : ByteArray) : List UInt8 := s.data.toList
def fdT (f : Fd) : List UInt8 := byts f.name ++ [58, 32] ++ byts f.val ++ [13, 10]
def lin0 (met tar : ByteArray) : List UInt8 := byts met ++ [32] ++ byts tar ++ [32, 72, 84, 84, 80, 47, 49, 46, 49]
/-- A head's bytes ahead of its last line's end, up to a field. -/
def hdK (met tar : ByteArray) (fs : List Fd) : List UInt8 := lin0 met tar ++ [13, 10] ++ fs.flatMap fdT
def hdB (met tar : ByteArray) (fs : List Fd) : ByteArray := ⟨(hdK met tar fs ++ [13, 10]).toArray⟩
/-- Why a request may not be. -/
def checkR (met tar : ByteArray) (fs : List Fd) (body : ByteArray) (shut : Bool) : Int :=
  if 8192 < body.size then 171
  else if (rightR met tar fs).2 ≠ 0 ∨ (rightR met tar fs).1 ≠ (body.size : Int) ∨ clsR fs ≠ shut ∨ fs.all fldR = false then 170
  else if 4096 < (hdB met tar fs).size then 172 else 0
/-- A line without an end in it, and not empty. -/
def clean (l : List UInt8) : Prop := l ≠ [] ∧ ∀ c ∈ l, c ≠ 13
/-- Lines with their ends between them. -/
def joinL : List UInt8 → List (List UInt8) → List UInt8
  | l, [] => l
  | l, x :: xs => l ++ [13, 10] ++ joinL x xs
def bOf (l : List UInt8) : ByteArray := ⟨l.toArray⟩
theorem bOf_size (l : List UInt8) : (bOf l).size = l.length := by simp [bOf, ByteArray.size]
theorem bOf_byte (l : List UInt8) (j : Nat) : byteAt (bOf l) j = (l.getD j 0).toNat := by simp [byteAt, bOf]
theorem bOf_sub (l : List UInt8) (a b : Nat) : (bOf l).extract a b = bOf ((l.drop a).take (b - a)) := by
  apply ext_list
  rw [sub_list]
  simp [bOf]
theorem bOf_self (s : ByteArray) : bOf s.data.toList = s := rfl
theorem getD_left {l t : List UInt8} {j : Nat} (h : j < l.length) : (l ++ t).getD j 0 = l.getD j 0 := by
  rw [List.getD_eq_getElem?_getD, List.getD_eq_getElem?_getD, List.getElem?_append_left h]
theorem getD_right {l t : List UInt8} {j : Nat} (h : l.length ≤ j) : (l ++ t).getD j 0 = t.getD (j - l.length) 0 := by
  rw [List.getD_eq_getElem?_getD, List.getD_eq_getElem?_getD, List.getElem?_append_right h]
theorem getD_mem {l : List UInt8} {j : Nat} (h : j < l.length) : l.getD j 0 ∈ l := by
  rw [List.getD_eq_getElem?_getD, List.getElem?_eq_getElem h]
  exact List.getElem_mem h
theorem clean_ne {l : List UInt8} (h : clean l) {j : Nat} (hj : j < l.length) : (l.getD j 0).toNat ≠ 13 := fun e => h.2 _ (getD_mem hj) (UInt8.toNat_inj.1 e)
theorem joinL_len (l : List UInt8) (ls : List (List UInt8)) : l.length ≤ (joinL l ls).length := by
  cases ls with
  | nil => exact Nat.le_refl _
  | cons x xs => simp [joinL]
theorem joinL_head {l : List UInt8} (h : clean l) (ls : List (List UInt8)) (t : List UInt8) : ((joinL l ls ++ t).getD 0 0).toNat ≠ 13 := by
  have h0 : 0 < l.length := List.length_pos_iff.2 h.1
  cases ls with
  | nil => rw [joinL, getD_left h0]; exact clean_ne h h0
  | cons x xs => rw [joinL, List.append_assoc, List.append_assoc, getD_left h0]; exact clean_ne h h0
/-- Lines joined are these lines. -/
theorem lines_join : ∀ (l : List UInt8) (ls : List (List UInt8)), clean l → (∀ x ∈ ls, clean x) → linesOf (bOf (joinL l ls)) = bOf l :: ls.map bOf
  | l, [], h, _ => by
    rw [joinL, lines_none fun j hj => ?_]
    · rfl
    · have h1 := hj.1
      rw [bOf_size] at h1
      have h2 := hj.2.1
      rw [bOf_byte] at h2
      exact clean_ne h (by omega) h2
  | l, x :: xs, h, hx => by
    have ih := lines_join x xs (hx x (List.mem_cons_self ..)) (fun y hy => hx y (List.mem_cons_of_mem _ hy))
    have hz : (joinL l (x :: xs)).length = l.length + 2 + (joinL x xs).length := by simp [joinL]; omega
    have e1 : endAt (bOf (joinL l (x :: xs))) l.length := by
      refine ⟨by rw [bOf_size, hz]; have := joinL_len x xs; have := List.length_pos_iff.2 (hx x (List.mem_cons_self ..)).1; omega, ?_, ?_⟩
      · rw [bOf_byte, joinL, List.append_assoc, getD_right (Nat.le_refl _), Nat.sub_self]; rfl
      · rw [bOf_byte, joinL, List.append_assoc, getD_right (by omega), show l.length + 1 - l.length = 1 by omega]; rfl
    have e2 : ∀ j, j < l.length → ¬ endAt (bOf (joinL l (x :: xs))) j := fun j hj he => by
      have h2 := he.2.1
      rw [bOf_byte, joinL, List.append_assoc, getD_left hj] at h2
      exact clean_ne h hj h2
    rw [lines_some e1 e2, bOf_sub, bOf_sub, bOf_size, hz]
    have q1 : ((joinL l (x :: xs)).drop 0).take (l.length - 0) = l := by simp [joinL]
    have q2 : ((joinL l (x :: xs)).drop (l.length + 2)).take (l.length + 2 + (joinL x xs).length - (l.length + 2)) = joinL x xs := by
      rw [joinL, show l.length + 2 = (l ++ [13, 10]).length by simp, List.drop_left, List.take_of_length_le (by omega)]
    rw [q1, q2, ih]
    rfl
/-- No head's end stands within lines that are joined. -/
theorem no_end : ∀ (l : List UInt8) (ls : List (List UInt8)) (t : List UInt8), clean l → (∀ x ∈ ls, clean x) → ∀ j, j < (joinL l ls).length → ¬ end4 (bOf (joinL l ls ++ t)) j
  | l, [], t, h, _, j, hj, he => by
    have h2 := he.2.1
    rw [joinL] at hj
    rw [bOf_byte, joinL, getD_left hj] at h2
    exact clean_ne h hj h2
  | l, x :: xs, t, h, hx, j, hj, he => by
    have hx0 := hx x (List.mem_cons_self ..)
    have e : joinL l (x :: xs) ++ t = l ++ ([13, 10] ++ (joinL x xs ++ t)) := by simp [joinL]
    have hz : (joinL l (x :: xs)).length = l.length + 2 + (joinL x xs).length := by simp [joinL]; omega
    rw [e] at he
    rcases Nat.lt_or_ge j l.length with g | g
    · have h2 := he.2.1
      rw [bOf_byte, getD_left g] at h2
      exact clean_ne h g h2
    · obtain ⟨i, rfl⟩ : ∃ i, j = l.length + i := ⟨j - l.length, by omega⟩
      obtain ⟨h1, h2, h3, h4, h5⟩ := he
      rw [bOf_size] at h1
      simp only [bOf_byte] at h2 h3 h4 h5
      rw [getD_right (by omega), show l.length + i - l.length = i by omega] at h2
      rw [getD_right (by omega), show l.length + i + 1 - l.length = i + 1 by omega] at h3
      rw [getD_right (by omega), show l.length + i + 2 - l.length = i + 2 by omega] at h4
      rw [getD_right (by omega), show l.length + i + 3 - l.length = i + 3 by omega] at h5
      match i with
      | 0 =>
        rw [getD_right (by simp), show 0 + 2 - ([13, 10] : List UInt8).length = 0 from rfl] at h4
        exact joinL_head hx0 xs t h4
      | 1 => rw [getD_left (by simp)] at h2; exact absurd h2 (by decide)
      | i + 2 =>
        rw [getD_right (by simp), show i + 2 - ([13, 10] : List UInt8).length = i from rfl] at h2
        rw [getD_right (by simp), show i + 2 + 1 - ([13, 10] : List UInt8).length = i + 1 from rfl] at h3
        rw [getD_right (by simp), show i + 2 + 2 - ([13, 10] : List UInt8).length = i + 2 from rfl] at h4
        rw [getD_right (by simp), show i + 2 + 3 - ([13, 10] : List UInt8).length = i + 3 from rfl] at h5
        refine no_end x xs t hx0 (fun y hy => hx y (List.mem_cons_of_mem _ hy)) i (by omega) ⟨?_, ?_, ?_, ?_, ?_⟩
        · rw [bOf_size]; simp at h1 ⊢; omega
        · rw [bOf_byte]; exact h2
        · rw [bOf_byte]; exact h3
        · rw [bOf_byte]; exact h4
        · rw [bOf_byte]; exact h5
theorem size_list' (s : ByteArray) : s.data.toList.length = s.size := by rw [Array.length_toList]; rfl
theorem tok_bytes {s : ByteArray} (h : tokR s = true) : s.data.toList ≠ [] ∧ ∀ c ∈ s.data.toList, tokB c.toNat = true := by
  unfold tokR at h
  rw [Bool.and_eq_true, decide_eq_true_eq] at h
  have hl := size_list' s
  refine ⟨fun e => by rw [e] at hl; simp at hl; omega, fun c hc => ?_⟩
  obtain ⟨j, hj, rfl⟩ := List.getElem_of_mem hc
  have : ∀ k, tokN s k = true → ∀ j, j < k → tokB (byteAt s j) = true := by
    intro k
    induction k with
    | zero => intro _ j hj; omega
    | succ k ih =>
      intro hk j hj
      rw [tokN, Bool.and_eq_true] at hk
      rcases Nat.lt_succ_iff_lt_or_eq.1 hj with g | rfl
      · exact ih hk.1 j g
      · exact hk.2
  have h2 := this s.size h.1 j (by omega)
  unfold byteAt at h2
  rw [List.getD_eq_getElem?_getD, List.getElem?_eq_getElem hj] at h2
  exact h2
theorem tok_not (x : Nat) (h : tokB x = true) : x ≠ 13 ∧ x ≠ 58 ∧ x ≠ 32 := by
  refine ⟨?_, ?_, ?_⟩ <;> (rintro rfl; revert h; decide +kernel)
theorem allN_bytes {p : Nat → Bool} {s : ByteArray} (h : allN p s s.size = true) : ∀ c ∈ s.data.toList, p c.toNat = true := allN_mem.1 h
theorem met_bytes {s : ByteArray} (h : metR s = true) : s.data.toList ≠ [] ∧ ∀ c ∈ s.data.toList, c.toNat ≠ 13 ∧ c.toNat ≠ 32 := by
  unfold metR at h
  rw [Bool.and_eq_true, decide_eq_true_eq] at h
  refine ⟨fun e => by have := size_list' s; rw [e] at this; simp at this; omega, fun c hc => ?_⟩
  have := allN_bytes h.1 c hc
  simp only [metB, decide_eq_true_eq] at this
  omega
theorem tar_bytes {s : ByteArray} (h : tarR s = true) : ∀ c ∈ s.data.toList, c.toNat ≠ 13 ∧ c.toNat ≠ 32 := by
  unfold tarR at h
  rw [Bool.and_eq_true] at h
  intro c hc
  have := allN_bytes h.1 c hc
  simp only [tarB, decide_eq_true_eq] at this
  omega
theorem val_bytes {s : ByteArray} (h : valR s = true) : (∀ c ∈ s.data.toList, c.toNat ≠ 13) ∧ trimT s = s := by
  unfold valR at h
  rw [Bool.and_eq_true, beq_iff_eq] at h
  refine ⟨fun c hc => ?_, toList_inj h.2⟩
  have := allN_bytes h.1 c hc
  simp only [valB, decide_eq_true_eq] at this
  omega
theorem ixB_at {a t : List UInt8} {c : UInt8} (h : ∀ x ∈ a, x.toNat ≠ c.toNat) : ixB (bOf (a ++ c :: t)) c.toNat = some a.length := by
  refine ixB_hit (by rw [bOf_size]; simp) ?_ (fun j hj => ?_)
  · rw [bOf_byte, getD_right (Nat.le_refl _), Nat.sub_self]; rfl
  · rw [bOf_byte, getD_left hj]
    exact h _ (getD_mem hj)
theorem sub_left (a t : List UInt8) : (bOf (a ++ t)).extract 0 a.length = bOf a := by
  rw [bOf_sub]; simp
theorem sub_right (a t : List UInt8) (c : UInt8) : (bOf (a ++ c :: t)).extract (a.length + 1) (bOf (a ++ c :: t)).size = bOf t := by
  rw [bOf_sub, bOf_size, show a ++ c :: t = (a ++ [c]) ++ t by simp, show a.length + 1 = (a ++ [c]).length by simp, List.drop_left, List.take_of_length_le (by simp; omega)]
theorem first_lin {met tar : ByteArray} (hm : metR met = true) (ht : tarR tar = true) : firstR (bOf (lin0 met tar)) = some (met, tar) := by
  have e0 : lin0 met tar = byts met ++ (32 : UInt8) :: (byts tar ++ (32 : UInt8) :: [72, 84, 84, 80, 47, 49, 46, 49]) := by simp [lin0]
  have h1 : ixB (bOf (lin0 met tar)) 32 = some (byts met).length := by rw [e0]; exact ixB_at (c := 32) fun x hx => ((met_bytes hm).2 x hx).2
  have h2 : (bOf (lin0 met tar)).extract ((byts met).length + 1) (bOf (lin0 met tar)).size = bOf (byts tar ++ (32 : UInt8) :: [72, 84, 84, 80, 47, 49, 46, 49]) := by rw [e0]; exact sub_right _ _ _
  have h3 : ixB (bOf (byts tar ++ (32 : UInt8) :: [72, 84, 84, 80, 47, 49, 46, 49])) 32 = some (byts tar).length := ixB_at (c := 32) fun x hx => (tar_bytes ht x hx).2
  have h4 : (bOf (byts tar ++ (32 : UInt8) :: [72, 84, 84, 80, 47, 49, 46, 49])).extract ((byts tar).length + 1) (bOf (byts tar ++ (32 : UInt8) :: [72, 84, 84, 80, 47, 49, 46, 49])).size = ver := sub_right _ _ _
  unfold firstR
  rw [h1]
  simp only
  rw [h2, h3]
  simp only
  rw [if_pos h4, e0, sub_left, sub_left]
  rfl
theorem trim_blank (l : List UInt8) : Lib.trimS (32 :: l) [32, 9] = Lib.trimS l [32, 9] := by
  unfold Lib.trimS Lib.trimLeftS Lib.trimRightS
  rw [List.reverse_cons]
  by_cases h : ∀ x ∈ l.reverse, ([32, 9] : List UInt8).contains x = true
  · rw [dw_all (l := l.reverse ++ [32]) (fun x hx => by
      rcases List.mem_append.1 hx with g | g
      · exact h x g
      · simp at g; subst g; rfl), dw_all h]
  · have e : (l.reverse ++ [32]).dropWhile (([32, 9] : List UInt8).contains ·) = l.reverse.dropWhile (([32, 9] : List UInt8).contains ·) ++ [32] := by
      have hn : l.reverse.dropWhile (([32, 9] : List UInt8).contains ·) ≠ [] := fun q => h (dw_ex q)
      rw [List.dropWhile_append, if_neg (by rw [List.isEmpty_iff]; exact hn)]
    rw [e, List.reverse_append, List.reverse_singleton, List.singleton_append, List.dropWhile_cons_of_pos rfl]
def fdLin (f : Fd) : List UInt8 := byts f.name ++ [58, 32] ++ byts f.val
theorem fld_lin {f : Fd} (h : fldR f = true) : fldL (bOf (fdLin f)) = some f := by
  have h0 := h
  unfold fldR at h
  rw [Bool.and_eq_true] at h
  have e0 : fdLin f = byts f.name ++ (58 : UInt8) :: (32 :: byts f.val) := by simp [fdLin]
  have h1 : ixB (bOf (fdLin f)) 58 = some (byts f.name).length := by rw [e0]; exact ixB_at (c := 58) fun x hx => (tok_not _ ((tok_bytes h.1).2 x hx)).2.1
  have h2 : cutR (bOf (fdLin f)) 58 = (f.name, bOf (32 :: byts f.val), true) := by
    unfold cutR
    rw [h1]
    simp only
    rw [e0, sub_left, sub_right]
    rfl
  have h3 : trimT (bOf (32 :: byts f.val)) = f.val := by
    have : trimT (bOf (32 :: byts f.val)) = trimT f.val := by
      unfold trimT
      show (⟨(Lib.trimS (32 :: byts f.val) [32, 9]).toArray⟩ : ByteArray) = _
      rw [trim_blank]
      rfl
    rw [this]
    exact (val_bytes h.2).2
  unfold fldL
  rw [h2]
  simp only
  rw [h3, Bool.true_and, if_pos h0]
theorem take_lins : ∀ (fs : List Fd), (∀ f ∈ fs, fldR f = true) → takeF (fs.map fun f => bOf (fdLin f)) = (fs, true)
  | [], _ => rfl
  | f :: fs, h => by
    rw [List.map_cons, takeF_some (fld_lin (h f (List.mem_cons_self ..))), take_lins fs (fun x hx => h x (List.mem_cons_of_mem _ hx))]
theorem hd_join (met tar : ByteArray) : ∀ (fs : List Fd) (l : List UInt8), l ++ [13, 10] ++ fs.flatMap fdT = joinL l (fs.map fdLin) ++ [13, 10]
  | [], l => by simp [joinL]
  | f :: fs, l => by
    have ih := hd_join met tar fs (fdLin f)
    rw [List.map_cons, joinL, List.append_assoc (l ++ [13, 10]), ← ih, List.flatMap_cons, fdT, fdLin]
    try simp
theorem clean_lin0 {met tar : ByteArray} (hm : metR met = true) (ht : tarR tar = true) : clean (lin0 met tar) := by
  refine ⟨by simp [lin0], fun c hc => ?_⟩
  simp only [lin0, List.mem_append] at hc
  rintro rfl
  rcases hc with ((h | h) | h) | h
  · exact ((met_bytes hm).2 13 h).1 rfl
  · simp at h
  · exact (tar_bytes ht 13 h).1 rfl
  · simp at h
theorem clean_fd {f : Fd} (h : fldR f = true) : clean (fdLin f) := by
  unfold fldR at h
  rw [Bool.and_eq_true] at h
  refine ⟨by simp [fdLin], fun c hc => ?_⟩
  simp only [fdLin, List.mem_append] at hc
  rintro rfl
  rcases hc with (g | g) | g
  · exact (tok_not _ ((tok_bytes h.1).2 13 g)).1 rfl
  · simp at g
  · exact (val_bytes h.2).1 13 g rfl
/-- What Parse tells of a request's bytes, whatever stands behind. -/
theorem parse_print {met tar : ByteArray} {fs : List Fd} {body : ByteArray} {shut : Bool} (h : checkR met tar fs body shut = 0) (t : ByteArray) :
    parseR ((hdB met tar fs ++ body) ++ t) = ⟨met, tar, fs, body, shut, (hdB met tar fs).size + body.size, 0⟩ := by
  unfold checkR at h
  split at h
  · cases h
  split at h
  · cases h
  split at h
  · cases h
  rename_i hb hx hw
  simp only [not_or] at hx
  obtain ⟨x1, x2, x3, x4⟩ := hx
  replace x1 : (rightR met tar fs).2 = 0 := Classical.not_not.1 x1
  replace x2 : (rightR met tar fs).1 = (body.size : Int) := Classical.not_not.1 x2
  replace x3 : clsR fs = shut := Classical.not_not.1 x3
  replace x4 : ∀ f ∈ fs, fldR f = true := List.all_eq_true.1 (by simpa using x4)
  have hmt : metR met = true ∧ tarR tar = true := by
    unfold rightR at x1
    split at x1
    · rename_i q; exact ⟨q.1, q.2.1⟩
    · cases x1
  have hc0 := clean_lin0 hmt.1 hmt.2
  have hcs : ∀ x ∈ fs.map fdLin, clean x := fun x hx => by
    obtain ⟨f, hf, rfl⟩ := List.mem_map.1 hx
    exact clean_fd (x4 f hf)
  obtain ⟨J, hJ⟩ : ∃ J, joinL (lin0 met tar) (fs.map fdLin) = J := ⟨_, rfl⟩
  have hH : hdB met tar fs = bOf (J ++ [13, 10, 13, 10]) := by
    unfold hdB hdK
    rw [hd_join met tar fs (lin0 met tar), hJ]
    show bOf _ = _
    rw [List.append_assoc]
    rfl
  have hz : (hdB met tar fs).size = J.length + 4 := by rw [hH, bOf_size]; simp
  have hall : (hdB met tar fs ++ body) ++ t = bOf (J ++ ([13, 10, 13, 10] ++ (byts body ++ byts t))) := by
    apply ext_list
    rw [hH]
    simp [bOf, byts]
  have hsz : ((hdB met tar fs ++ body) ++ t).size = J.length + 4 + body.size + t.size := by rw [size_app, size_app, hz]
  have hix : ix4 ((hdB met tar fs ++ body) ++ t) = some J.length := by
    refine ix4_hit ?_ (by omega) fun j hj => ?_
    · rw [hall]
      refine ⟨by rw [bOf_size]; simp, ?_, ?_, ?_, ?_⟩
      · rw [bOf_byte, getD_right (by omega), Nat.sub_self]; rfl
      · rw [bOf_byte, getD_right (by omega), show J.length + 1 - J.length = 1 by omega]; rfl
      · rw [bOf_byte, getD_right (by omega), show J.length + 2 - J.length = 2 by omega]; rfl
      · rw [bOf_byte, getD_right (by omega), show J.length + 3 - J.length = 3 by omega]; rfl
    · rw [hall, ← hJ]
      exact no_end _ _ _ hc0 hcs j (by rw [hJ]; exact hj)
  have hsub : ((hdB met tar fs ++ body) ++ t).extract 0 J.length = bOf J := by rw [hall]; exact sub_left _ _
  have hrd : rdH (bOf J) = some (met, tar, fs, true) := by
    unfold rdH
    rw [← hJ, lines_join _ _ hc0 hcs, List.map_map]
    simp only
    rw [first_lin hmt.1 hmt.2]
    simp only
    have : takeF (fs.map (bOf ∘ fdLin)) = (fs, true) := take_lins fs x4
    rw [this]
  have hbody : ((hdB met tar fs ++ body) ++ t).extract (J.length + 4) (J.length + 4 + body.size) = body := by
    rw [hall, bOf_sub, show J ++ ([13, 10, 13, 10] ++ (byts body ++ byts t)) = (J ++ [13, 10, 13, 10]) ++ (byts body ++ byts t) by simp, show J.length + 4 = (J ++ [13, 10, 13, 10]).length by simp, List.drop_left, Nat.add_sub_cancel_left, show body.size = (byts body).length from (size_list' body).symm, List.take_left]
    rfl
  unfold parseR
  rw [hix]
  show atP _ _ (rdH (((hdB met tar fs ++ body) ++ t).extract 0 J.length)) = _
  rw [hsub, hrd]
  show (if (rightR met tar fs).2 ≠ 0 then _ else if ((hdB met tar fs ++ body) ++ t).size < J.length + 4 + (rightR met tar fs).1.toNat then _ else _) = _
  rw [if_neg (by simp [x1]), x2, Int.toNat_natCast, hsz, if_neg (by omega), hbody, x3, hz]
end Go.Proofs.YthhhoppmbimeiaaDoor
