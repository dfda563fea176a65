/-
  The pure side of scans.
-/
import Derived.Test.YtdgmjmohfpjlnaaSame
namespace Go.Proofs.Ytdgmjmohfpjlnaa
open Go.RowKit Go.Shelf
/-- All cells may be. -/
def OkE (s : St) : Prop := ∀ e ∈ s.E, chkR e.c = 0
theorem okE_new : OkE st0 := fun e h => by cases h
theorem putR_chk {c : Cl} {hgt : Int} {s : St} (h : putR c hgt s = 0) : chkR c = 0 ∧ 1 ≤ hgt ∧ hgt ≤ 12 ∧ hasE c s.E = false := by
  unfold putR at h
  by_cases h1 : chkR c = 0
  · by_cases h2 : hgt < 1 ∨ 12 < hgt
    · rw [if_neg (by simp [h1]), if_pos h2] at h; cases h
    · cases h3 : hasE c s.E with
      | false => exact ⟨h1, by omega, by omega, rfl⟩
      | true => rw [if_neg (by simp [h1]), if_neg h2, if_pos h3] at h; cases h
  · rw [if_pos h1] at h; cases h
theorem putS_E {c : Cl} {hgt : Int} {s : St} : (putS c hgt s).E = if putR c hgt s = 0 then ahE c.key c.seq s.E ++ ⟨s.n, c, hgt.toNat⟩ :: beE c.key c.seq s.E else s.E := by
  unfold putS
  split
  · rfl
  · rfl
theorem okE_put {s : St} (h : OkE s) (c : Cl) (hgt : Int) : OkE (putS c hgt s) := by
  intro e he
  rw [putS_E] at he
  split at he
  · rename_i hr
    have hE := ah_be c.key c.seq s.E
    rcases List.mem_append.1 he with he | he
    · exact h e (by rw [← hE]; exact List.mem_append_left _ he)
    · rcases List.mem_cons.1 he with rfl | he
      · exact (putR_chk hr).1
      · exact h e (by rw [← hE]; exact List.mem_append_right _ he)
  · exact h e he
theorem chk_seq {c : Cl} (h : chkR c = 0) : c.seq ≤ 72057594037927935 := by
  unfold chkR at h
  split at h
  · cases h
  · rename_i hn
    have := not_or.1 (not_or.1 (not_or.1 (not_or.1 hn).2).2).2
    omega
theorem ahK_max {c : Cl} (h : c.seq ≤ 72057594037927935) (key : ByteArray) : ahK c key 72057594037927935 = Op.bytesLess c.key.toList key.toList := by
  unfold ahK
  split
  · rename_i he
    have he : c.key.toList = key.toList := by simpa using he
    rw [he, bytesLess_irrefl, decide_eq_false (by omega)]
  · rfl
theorem map_dropWhile {α β : Type} (f : α → β) (p : β → Bool) : ∀ l : List α, (l.dropWhile (fun a => p (f a))).map f = (l.map f).dropWhile p
  | [] => rfl
  | a :: l => by
    by_cases h : p (f a) = true
    · rw [List.dropWhile_cons_of_pos (p := fun a => p (f a)) h, List.map_cons, List.dropWhile_cons_of_pos h, map_dropWhile f p l]
    · rw [List.dropWhile_cons_of_neg (p := fun a => p (f a)) h, List.map_cons, List.dropWhile_cons_of_neg h]
theorem dropWhile_congr {α : Type} {p q : α → Bool} : ∀ {l : List α}, (∀ a ∈ l, p a = q a) → l.dropWhile p = l.dropWhile q
  | [], _ => rfl
  | a :: l, h => by
    rw [List.dropWhile_cons, List.dropWhile_cons, h a (List.mem_cons_self ..), dropWhile_congr (fun b hb => h b (List.mem_cons_of_mem _ hb))]
/-- A scan by keys alone. -/
theorem scanL_eq {s : St} (h : OkE s) (fr tw : ByteArray) : scanL fr tw s.E = ((s.E.map En.c).dropWhile (fun c => Op.bytesLess c.key.toList fr.toList)).takeWhile (upK tw) := by
  unfold scanL beE
  rw [map_dropWhile En.c (fun c => ahK c fr 72057594037927935)]
  congr 1
  exact dropWhile_congr (fun c hc => by
    obtain ⟨e, he, rfl⟩ := List.mem_map.1 hc
    exact ahK_max (chk_seq (h e he)) fr)
theorem drop_drop {α : Type} {p q : α → Bool} : ∀ {l : List α}, (∀ a, p a = true → q a = true) → (l.dropWhile p).dropWhile q = l.dropWhile q
  | [], _ => rfl
  | a :: l, h => by
    by_cases hp : p a = true
    · rw [List.dropWhile_cons_of_pos hp, List.dropWhile_cons_of_pos (h a hp), drop_drop h]
    · rw [List.dropWhile_cons_of_neg hp]
theorem tw_mem {α : Type} {p : α → Bool} : ∀ {l : List α} {a : α}, a ∈ l.takeWhile p → p a = true
  | [], a, h => by cases h
  | b :: l, a, h => by
    by_cases hb : p b = true
    · rw [List.takeWhile_cons_of_pos hb] at h
      rcases List.mem_cons.1 h with rfl | h
      · exact hb
      · exact tw_mem h
    · rw [List.takeWhile_cons_of_neg hb] at h; cases h
theorem less_le {a b c : List UInt8} (h1 : Op.bytesLess a b = true) (h2 : Op.bytesLess c b = false) : Op.bytesLess a c = true := by
  rcases bytesLess_tri b c with h | h | h
  · exact bytesLess_trans h1 h
  · exact h ▸ h1
  · rw [h] at h2; cases h2
/-- Two scans that touch are one. -/
theorem scan_join {s : St} (h : OkE s) {fr md tw : ByteArray} (h1 : Op.bytesLess md.toList fr.toList = false) (h2 : md.toList.isEmpty = false) (h3 : tw.toList.isEmpty = true ∨ Op.bytesLess tw.toList md.toList = false) :
    scanL fr md s.E ++ scanL md tw s.E = scanL fr tw s.E := by
  rw [scanL_eq h, scanL_eq h, scanL_eq h]
  obtain ⟨A, hA⟩ : ∃ A, (s.E.map En.c).dropWhile (fun c => Op.bytesLess c.key.toList fr.toList) = A := ⟨_, rfl⟩
  have hd : (s.E.map En.c).dropWhile (fun c => Op.bytesLess c.key.toList md.toList) = A.dropWhile (fun c => Op.bytesLess c.key.toList md.toList) := by
    rw [← hA]
    exact (drop_drop (fun c hc => less_le hc h1)).symm
  have hu : upK md = fun c => Op.bytesLess c.key.toList md.toList := by
    funext c
    unfold upK
    rw [h2, Bool.false_or]
  rw [hA, hd, hu]
  have hsp : A.takeWhile (fun c => Op.bytesLess c.key.toList md.toList) ++ A.dropWhile (fun c => Op.bytesLess c.key.toList md.toList) = A := List.takeWhile_append_dropWhile
  have hall : ∀ c ∈ A.takeWhile (fun c => Op.bytesLess c.key.toList md.toList), upK tw c = true := fun c hc => by
    have h4 := tw_mem hc
    unfold upK
    rcases h3 with h3 | h3
    · rw [h3, Bool.true_or]
    · rw [less_le h4 h3, Bool.or_true]
  conv => rhs; rw [← hsp]
  rw [List.takeWhile_append_of_pos hall]
/-- A scan's cells stand in order. -/
theorem scan_sorted {n : Nat} {cell : Nat → Cl} {nx : Nat → Nat → Nat} {E : List En} (r : Rep n cell nx E) (fr tw : ByteArray) : (scanL fr tw E).Pairwise (fun a b => lessC a b = true) := by
  have h1 : (E.map En.c).Pairwise (fun a b => lessC a b = true) := List.pairwise_map.2 r.order
  unfold scanL
  refine List.Pairwise.sublist (List.takeWhile_sublist _) ?_
  refine List.Pairwise.sublist (List.Sublist.map _ (List.dropWhile_sublist _)) h1
/-- A scan of all. -/
theorem scan_all {s : St} (h : OkE s) : scanL ⟨#[]⟩ ⟨#[]⟩ s.E = s.E.map En.c := by
  rw [scanL_eq h]
  have h1 : (s.E.map En.c).dropWhile (fun c => Op.bytesLess c.key.toList (ByteArray.mk #[]).toList) = s.E.map En.c := by
    have hn : (ByteArray.mk #[]).toList = [] := by simp
    rw [hn]
    cases s.E.map En.c with
    | nil => rfl
    | cons a l => rw [List.dropWhile_cons_of_neg (by cases a.key.toList <;> simp [Op.bytesLess])]
  rw [h1]
  exact tw_whole (fun c _ => by unfold upK; have hn : (ByteArray.mk #[]).toList.isEmpty = true := by simp
                                rw [hn, Bool.true_or])
theorem scan_len {n : Nat} {cell : Nat → Cl} {nx : Nat → Nat → Nat} {E : List En} (_ : Rep n cell nx E) (fr tw : ByteArray) : (scanL fr tw E).length ≤ E.length := by
  unfold scanL
  refine Nat.le_trans (List.takeWhile_sublist _).length_le ?_
  rw [List.length_map]
  exact (List.dropWhile_sublist _).length_le
end Go.Proofs.Ytdgmjmohfpjlnaa
