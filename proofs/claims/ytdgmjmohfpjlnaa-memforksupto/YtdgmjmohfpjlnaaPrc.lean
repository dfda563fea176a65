/-
  What is looked up and what a scan goes over, of lists in order.
-/
import Derived.Test.YtdgmjmohfpjlnaaPrb
namespace Go.Proofs.Ytdgmjmohfpjlnaa
open Go.RowKit Go.Shelf
theorem less_keys {a b : Cl} (h : lessC a b = true) {key : ByteArray} (hb : Op.bytesLess b.key.toList key.toList = true) : Op.bytesLess a.key.toList key.toList = true := by
  unfold lessC ahK at h
  split at h
  · rename_i he
    have he : a.key.toList = b.key.toList := by simpa using he
    rw [he]; exact hb
  · exact bytesLess_trans h hb
theorem filter_pw {p : Cl → Bool} : ∀ {L : List Cl}, L.Pairwise (fun a b => p b = true → p a = true) → L.filter p = L.takeWhile p
  | [], _ => rfl
  | a :: L, h => by
    have h1 := List.pairwise_cons.1 h
    by_cases ha : p a = true
    · rw [List.filter_cons_of_pos ha, List.takeWhile_cons_of_pos ha, filter_pw h1.2]
    · rw [List.filter_cons_of_neg ha, List.takeWhile_cons_of_neg ha]
      exact List.filter_eq_nil_iff.2 (fun b hb e => ha (h1.1 b hb e))
theorem part_scan {fr tw : ByteArray} : ∀ {L : List Cl}, L.Pairwise (fun a b => lessC a b = true) → partC fr tw L = (L.dropWhile (fun c => Op.bytesLess c.key.toList fr.toList)).takeWhile (upK tw)
  | [], _ => rfl
  | d :: L, h => by
    have h1 := List.pairwise_cons.1 h
    unfold partC
    by_cases hd : Op.bytesLess d.key.toList fr.toList = true
    · rw [List.filter_cons_of_neg (by unfold partP; rw [hd]; simp), List.dropWhile_cons_of_pos (p := fun c : Cl => Op.bytesLess c.key.toList fr.toList) hd]
      exact part_scan h1.2
    · have hd' : Op.bytesLess d.key.toList fr.toList = false := by simpa using hd
      rw [List.dropWhile_cons_of_neg (by rw [hd']; decide)]
      have hall : ∀ c ∈ d :: L, partP fr tw c = upK tw c := fun c hc => by
        have hcf : Op.bytesLess c.key.toList fr.toList = false := by
          rcases List.mem_cons.1 hc with rfl | hc
          · exact hd'
          · cases hb : Op.bytesLess c.key.toList fr.toList with
            | false => rfl
            | true => rw [less_keys (h1.1 c hc) hb] at hd'; cases hd'
        unfold partP upK
        rw [hcf]
        rfl
      rw [List.filter_congr hall]
      refine filter_pw (List.Pairwise.imp (fun {a b} hab hb => ?_) h)
      unfold upK at hb ⊢
      cases ht : tw.toList.isEmpty with
      | true => rfl
      | false =>
        rw [ht, Bool.false_or] at hb
        rw [Bool.false_or]
        exact less_keys hab hb
theorem new_get {key : ByteArray} {seq : Nat} : ∀ {L : List Cl}, L.Pairwise (fun a b => lessC a b = true) → newC key seq L = getC key seq L
  | [], _ => rfl
  | d :: L, h => by
    have h1 := List.pairwise_cons.1 h
    unfold newC getC
    by_cases hd : ahK d key seq = true
    · have hn : ¬ newP key seq d = true := by
        unfold newP
        unfold ahK at hd
        split at hd
        · have : seq < d.seq := by simpa using hd
          simp
          intro _
          omega
        · rename_i he
          simp at he ⊢
          intro e
          exact absurd e he
      rw [List.find?_cons_of_neg hn, List.dropWhile_cons_of_pos (by simpa using hd)]
      exact new_get h1.2
    · have hd' : ahK d key seq = false := by simpa using hd
      rw [List.dropWhile_cons_of_neg (by simpa using hd')]
      simp only
      by_cases hk : d.key.toList = key.toList
      · rw [if_pos hk, List.find?_cons_of_pos]
        unfold newP
        rw [ahK_same hk] at hd'
        have : ¬ seq < d.seq := by simpa using hd'
        simp [hk]
        omega
      · rw [if_neg hk]
        rw [ahK_other hk] at hd'
        refine List.find?_eq_none.2 (fun c hc e => ?_)
        unfold newP at e
        simp only [Bool.and_eq_true, beq_iff_eq, decide_eq_true_eq] at e
        have hlt : Op.bytesLess key.toList d.key.toList = true := by
          rcases bytesLess_tri d.key.toList key.toList with q | q | q
          · rw [hd'] at q; cases q
          · exact absurd q hk
          · exact q
        rcases List.mem_cons.1 hc with rfl | hc
        · exact hk e.1
        · have hl := h1.1 c hc
          unfold lessC ahK at hl
          split at hl
          · rename_i he
            have he : d.key.toList = c.key.toList := by simpa using he
            exact hk (he.trans e.1)
          · rw [e.1] at hl
            rw [hl] at hd'
            cases hd'
end Go.Proofs.Ytdgmjmohfpjlnaa
