/-
  Cookies, the pure side: what Parse reads is what Print prints.
-/
import Derived.Test.YtimabpfahhbadaaDoorCkp
namespace Go.Proofs.YtimabpfahhbadaaDoor
open Go.RowKit
theorem ixB_some {s : ByteArray} {c k : Nat} (h : ixB s c = some k) : k < s.size ∧ byteAt s k = c ∧ ∀ j, j < k → byteAt s j ≠ c := by
  unfold ixB at h
  rw [List.find?_range_eq_some] at h
  obtain ⟨h1, h2, h3⟩ := h
  exact ⟨List.mem_range.1 h2, of_decide_eq_true h1, fun j hj e => by have := h3 j hj; simp [e] at this⟩
theorem app_list (a b : ByteArray) : (a ++ b).data.toList = a.data.toList ++ b.data.toList := by
  rw [ByteArray.data_append, Array.toList_append]
theorem prt_list (f : Fd) : (prt f).data.toList = f.name.data.toList ++ 61 :: f.val.data.toList := by
  unfold prt
  rw [app_list, app_list, List.append_assoc]
  rfl
theorem cut_hit {s : ByteArray} (h : (cutP s 61).2.2 = true) : prt (rdP s) = s := by
  apply ext_list
  rw [prt_list]
  unfold rdP
  unfold cutP at h ⊢
  cases hq : ixB s 61 with
  | none => rw [hq] at h; cases h
  | some k =>
    obtain ⟨h1, h2, _⟩ := ixB_some hq
    simp only
    rw [sub_to, sub_list, Nat.sub_zero, List.drop_zero]
    have e1 := byteAt_drop (s := s) (k := k) h1
    rw [h2] at e1
    conv => rhs; rw [← List.take_append_drop k s.data.toList, e1]
    rfl
theorem cut_miss {s : ByteArray} (h : (cutP s 61).2.2 = false) : rdP s = ⟨s, ⟨#[]⟩⟩ := by
  unfold rdP
  unfold cutP at h ⊢
  cases hq : ixB s 61 with
  | none => rfl
  | some k => rw [hq] at h; cases h
theorem tok_not (x : Nat) (h : tokB x = true) : x ≠ 59 ∧ x ≠ 61 := by
  refine ⟨?_, ?_⟩ <;> (rintro rfl; revert h; decide +kernel)
theorem rd_prt {f : Fd} (h : tokR f.name = true) : rdP (prt f) = f ∧ (cutP (prt f) 61).2.2 = true := by
  obtain ⟨_, hb⟩ := tok_bytes h
  have e : prt f = bOf (f.name.data.toList ++ 61 :: f.val.data.toList) := ext_list (by rw [prt_list]; rfl)
  have hx : ixB (prt f) 61 = some f.name.data.toList.length := by
    rw [e]
    exact ixB_at (c := 61) fun x hx => (tok_not _ (hb x hx)).2
  have hc : cutP (prt f) 61 = (f.name, f.val, true) := by
    unfold cutP
    rw [hx]
    simp only
    rw [e, sub_left, sub_right]
    rfl
  unfold rdP
  rw [hc]
  exact ⟨rfl, rfl⟩
theorem byteAt_sub {s : ByteArray} {a b j : Nat} (_ : b ≤ s.size) (h : a + j < b) : byteAt (s.extract a b) j = byteAt s (a + j) := by
  unfold byteAt
  rw [sub_list]
  rw [List.getD_eq_getElem?_getD, List.getD_eq_getElem?_getD, List.getElem?_take_of_lt (by omega), List.getElem?_drop]
theorem noSem_of {t : ByteArray} (h : ∀ j, j < t.size → byteAt t j ≠ 59) : noSem t := by
  intro c hc e
  obtain ⟨j, hj, e2⟩ := List.getElem_of_mem hc
  have hj' : j < t.size := by simpa using hj
  refine h j hj' ?_
  unfold byteAt
  rw [List.getD_eq_getElem?_getD, List.getElem?_eq_getElem hj, e2, e]
  rfl
theorem octR_no {s : ByteArray} (h : octR s = true) : noSem s := by
  refine noSem_of fun j hj e => ?_
  have := allN_all.1 h j hj
  rw [e] at this
  revert this
  decide
theorem bare_no {s : ByteArray} (h : octR (bareB s) = true) : noSem s := by
  unfold bareB at h
  split at h
  · rename_i hm
    have hm' := of_decide_eq_true hm
    refine noSem_of fun j hj e => ?_
    rcases Nat.eq_zero_or_pos j with rfl | h0
    · omega
    · by_cases hl : j = s.size - 1
      · subst hl; omega
      · have := allN_all.1 h (j - 1) (by rw [ByteArray.size_extract]; omega)
        rw [byteAt_sub (by omega) (by omega), show 1 + (j - 1) = j by omega, e] at this
        revert this
        decide
  · exact octR_no h
theorem noSem_prt {f : Fd} (h : okP f = true) : noSem (prt f) := by
  unfold okP at h
  rw [Bool.and_eq_true] at h
  intro c hc
  rw [prt_list, List.mem_append, List.mem_cons] at hc
  rcases hc with hc | rfl | hc
  · intro e
    subst e
    exact (tok_not _ ((tok_bytes h.1).2 _ hc)).1 rfl
  · decide
  · exact bare_no h.2 c hc
theorem jn_size1 (t : ByteArray) : (jn [t]).size = t.size := by rw [jn_one]
theorem jn_size2 (t u : ByteArray) (ts : List ByteArray) : (jn (t :: u :: ts)).size = t.size + 2 + (jn (u :: ts)).size := by
  have := congrArg List.length (jn_two t u ts)
  rw [List.length_append, List.length_append, Array.length_toList, Array.length_toList, Array.length_toList] at this
  show (jn (t :: u :: ts)).data.size = t.data.size + 2 + (jn (u :: ts)).data.size
  rw [this, ← Nat.add_assoc]
  rfl
def again (s : ByteArray) : ByteArray := prt (rdP s)
theorem again_size (s : ByteArray) : (again s).size = s.size + if (cutP s 61).2.2 = true then 0 else 1 := by
  unfold again
  split
  · rename_i h; rw [cut_hit h]; rfl
  · rename_i h
    rw [cut_miss (by simpa using h), prt_size]
    rfl
theorem again_le : ∀ (t : ByteArray) (ts : List ByteArray), (jn (t :: ts)).size ≤ (jn ((t :: ts).map again)).size ∧ ((jn ((t :: ts).map again)).size = (jn (t :: ts)).size → ∀ s ∈ t :: ts, (cutP s 61).2.2 = true)
  | t, [] => by
    rw [List.map_cons, List.map_nil, jn_size1, jn_size1, again_size]
    refine ⟨by omega, fun h s hs => ?_⟩
    rw [List.mem_singleton] at hs
    subst hs
    cases hq : (cutP s 61).2.2 with
    | true => rfl
    | false => rw [hq] at h; simp at h
  | t, u :: ts => by
    obtain ⟨h1, h2⟩ := again_le u ts
    rw [List.map_cons, List.map_cons, jn_size2, jn_size2, again_size]
    rw [List.map_cons] at h1 h2
    refine ⟨by omega, fun h s hs => ?_⟩
    rcases List.mem_cons.1 hs with rfl | hs
    · cases hq : (cutP s 61).2.2 with
      | true => rfl
      | false => rw [hq] at h; simp at h; omega
    · exact h2 (by omega) s hs
theorem split_more (sep : ByteArray) (h1 : 1 ≤ sep.size) : ∀ (j : Nat) (s : ByteArray), Lib.countB s sep ≤ j → Lib.splitB sep 0 j s = Lib.splitB sep 0 (Lib.countB s sep) s
  | 0, s, h => by rw [Nat.le_zero.1 h]
  | j + 1, s, h => by
    rcases Lib.indexB_cases s sep with hix | ⟨i, hix, _⟩
    · rw [Lib.splitB_miss sep 0 _ s hix, Lib.splitB_miss sep 0 _ s hix]
    · have hc := Lib.countB_hit s sep i h1 hix
      have ih := split_more sep h1 j (s.extract (i + sep.size) s.size) (by omega)
      rw [Lib.splitB_hit sep 0 j s i hix, ih, show Lib.countB s sep = Lib.countB (s.extract (i + sep.size) s.size) sep + 1 by omega, Lib.splitB_hit sep 0 _ s i hix]
theorem split_less (sep : ByteArray) (h1 : 1 ≤ sep.size) : ∀ (j : Nat) (s : ByteArray), j ≤ Lib.countB s sep → (Lib.splitB sep 0 j s).length = j + 1
  | 0, s, h => rfl
  | j + 1, s, h => by
    rcases Lib.indexB_cases s sep with hix | ⟨i, hix, _⟩
    · rw [Lib.countB_miss s sep hix] at h; omega
    · have hc := Lib.countB_hit s sep i h1 hix
      rw [Lib.splitB_hit sep 0 j s i hix, List.length_cons, split_less sep h1 j _ (by omega)]
theorem partsN_few {v : ByteArray} (h : (parts v).length ≤ 16) : partsN v = parts v := by
  have hl := parts_len (sep := smb) (by decide) v
  have hc := Lib.countB_le smb (by decide) v.size v (Nat.le_refl _)
  rw [show partsOf smb v = parts v from rfl] at hl
  exact split_more smb (by decide) _ v (by omega)
theorem partsN_many {v : ByteArray} (h : ¬ (parts v).length ≤ 16) : 17 ≤ (partsN v).length := by
  have hl := parts_len (sep := smb) (by decide) v
  have hc := Lib.countB_le smb (by decide) v.size v (Nat.le_refl _)
  rw [show partsOf smb v = parts v from rfl] at hl
  unfold partsN
  rw [split_less smb (by decide) _ v (by omega)]
  omega
theorem partsN_len (v : ByteArray) : 1 ≤ (partsN v).length ∧ (partsN v).length ≤ 17 := by
  by_cases h : (parts v).length ≤ 16
  · rw [partsN_few h]
    have hl := parts_len (sep := smb) (by decide) v
    rw [show partsOf smb v = parts v from rfl] at hl
    omega
  · have hl := parts_len (sep := smb) (by decide) v
    have hc := Lib.countB_le smb (by decide) v.size v (Nat.le_refl _)
    rw [show partsOf smb v = parts v from rfl] at hl
    unfold partsN
    rw [split_less smb (by decide) _ v (by omega)]
    omega
theorem okS_all {ps : List ByteArray} : ps.all okS = true ↔ (∀ s ∈ ps, (cutP s 61).2.2 = true) ∧ (ps.map rdP).all okP = true := by
  rw [List.all_eq_true, List.all_eq_true]
  constructor
  · intro h
    refine ⟨fun s hs => ?_, fun f hf => ?_⟩
    · have := h s hs
      rw [okS, Bool.and_eq_true] at this
      exact this.1
    · obtain ⟨s, hs, rfl⟩ := List.mem_map.1 hf
      have := h s hs
      rw [okS, Bool.and_eq_true] at this
      exact this.2
  · rintro ⟨h1, h2⟩ s hs
    rw [okS, Bool.and_eq_true]
    exact ⟨h1 s hs, h2 _ (List.mem_map_of_mem hs)⟩
theorem printR_ok {l : List Fd} (h : (printR l).2 = 0) : 1 ≤ l.length ∧ l.length ≤ 16 ∧ l.all okP = true ∧ (printR l).1 = jn (l.map prt) := by
  unfold printR at h ⊢
  split at h
  · rename_i hq
    rw [if_pos hq]
    exact ⟨hq.1, hq.2.1, hq.2.2, rfl⟩
  · cases h
theorem printR_cut (l : List Fd) : (printR l).2 = 0 ∨ printR l = (⟨#[]⟩, 190) := by
  unfold printR
  split
  · exact Or.inl rfl
  · exact Or.inr rfl
theorem parse_ok {v : ByteArray} (h : (printR ((partsN v).map rdP)).2 = 0) (h2 : (printR ((partsN v).map rdP)).1 = v) : parseR v = ((partsN v).map rdP, 0) := by
  obtain ⟨p1, p2, p3, p4⟩ := printR_ok h
  have hf : (parts v).length ≤ 16 := by
    rcases Nat.lt_or_ge 16 (parts v).length with q | q
    · have := partsN_many (v := v) (by omega)
      rw [List.length_map] at p2
      omega
    · exact q
  have e := partsN_few hf
  rw [e] at p3 p4 h2 ⊢
  have hall : ∀ s ∈ parts v, (cutP s 61).2.2 = true := by
    rw [p4, List.map_map] at h2
    obtain ⟨y, r, hy⟩ := parts_ne v
    have hj := jn_parts v.size v (Nat.le_refl _)
    rw [hy] at h2 hj ⊢
    refine (again_le y r).2 ?_
    rw [show List.map again = List.map (prt ∘ rdP) from rfl, h2, hj]
  unfold parseR
  rw [if_pos ⟨hf, okS_all.2 ⟨hall, p3⟩⟩]
theorem parse_all {v : ByteArray} (h1 : (parts v).length ≤ 16) (h2 : (parts v).all okS = true) : partsN v = parts v ∧ printR ((partsN v).map rdP) = (v, 0) := by
  have e := partsN_few h1
  refine ⟨e, ?_⟩
  rw [e]
  obtain ⟨q1, q2⟩ := okS_all.1 h2
  have hl := parts_len (sep := smb) (by decide) v
  rw [show partsOf smb v = parts v from rfl] at hl
  unfold printR
  rw [if_pos ⟨by rw [List.length_map]; omega, by rw [List.length_map]; exact h1, q2⟩, List.map_map]
  have : (parts v).map (prt ∘ rdP) = parts v := by
    conv => rhs; rw [← List.map_id (parts v)]
    exact List.map_congr_left fun s hs => cut_hit (q1 s hs)
  rw [this, jn_parts v.size v (Nat.le_refl _)]
theorem parse_bad {v : ByteArray} (h : ¬ printR ((partsN v).map rdP) = (v, 0)) : parseR v = ([], 190) := by
  unfold parseR
  rw [if_neg]
  rintro ⟨h1, h2⟩
  exact h (parse_all h1 h2).2
theorem parse_print {v : ByteArray} (h : (parseR v).2 = 0) : printR (parseR v).1 = (v, 0) := by
  unfold parseR at h ⊢
  split at h
  · rename_i hq
    rw [if_pos hq]
    have := parse_all hq.1 hq.2
    rw [this.1] at this
    exact this.2
  · cases h
theorem print_parse {l : List Fd} (h : (printR l).2 = 0) : parseR (printR l).1 = (l, 0) := by
  obtain ⟨p1, p2, p3, p4⟩ := printR_ok h
  rw [p4]
  have hall := List.all_eq_true.1 p3
  have hp : parts (jn (l.map prt)) = l.map prt := by
    cases l with
    | nil => simp at p1
    | cons f fs =>
      rw [List.map_cons]
      refine parts_jn _ _ (noSem_prt (hall f (List.mem_cons_self ..))) fun x hx => ?_
      obtain ⟨g, hg, rfl⟩ := List.mem_map.1 hx
      exact noSem_prt (hall g (List.mem_cons_of_mem _ hg))
  have tk : ∀ f ∈ l, tokR f.name = true := fun f hf => by
    have := hall f hf
    rw [okP, Bool.and_eq_true] at this
    exact this.1
  have e : (l.map prt).map rdP = l := by
    rw [List.map_map]
    conv => rhs; rw [← List.map_id l]
    exact List.map_congr_left fun f hf => (rd_prt (tk f hf)).1
  have hc : ∀ s ∈ l.map prt, (cutP s 61).2.2 = true := by
    intro s hs
    obtain ⟨f, hf, rfl⟩ := List.mem_map.1 hs
    exact (rd_prt (tk f hf)).2
  unfold parseR
  rw [hp, if_pos ⟨by rw [List.length_map]; exact p2, okS_all.2 ⟨hc, by rw [e]; exact p3⟩⟩, e]
end Go.Proofs.YtimabpfahhbadaaDoor
