/-
  The twin's pure side is the table's.
-/
import Derived.Test.YtdgmjmohfpjlnaaRph
namespace Go.Proofs.Ytdgmjmohfpjlnaa
open Go.RowKit Go.Shelf
theorem putQ_eq (c : Cl) (hgt : Int) (s : St) : putQ c hgt (s.E.map En.c) = putR c hgt s := by
  unfold putQ putR
  rw [hasE_eq]
theorem ah_len (key : ByteArray) (seq : Nat) (E : List En) : ((E.map En.c).takeWhile (fun d => ahK d key seq)).length = (ahE key seq E).length := by
  rw [← map_ahE, List.length_map]
theorem put_cells (c : Cl) (hgt : Int) (s : St) : (putS c hgt s).E.map En.c = if putQ c hgt (s.E.map En.c) = 0 then insC c (s.E.map En.c) else s.E.map En.c := by
  rw [putS_E, putQ_eq]
  split
  · rw [List.map_append, List.map_cons, map_ahE, map_beE]
    rfl
  · rfl
theorem put_hts (c : Cl) (hgt : Int) (s : St) : (putS c hgt s).E.map En.h = if putQ c hgt (s.E.map En.c) = 0 then insH c hgt.toNat (s.E.map En.c) (s.E.map En.h) else s.E.map En.h := by
  rw [putS_E, putQ_eq]
  split
  · unfold insH
    have hl : ((s.E.map En.c).takeWhile (fun d => lessC d c)).length = (ahE c.key c.seq s.E).length := ah_len c.key c.seq s.E
    have hE := ah_be c.key c.seq s.E
    have hm : s.E.map En.h = (ahE c.key c.seq s.E).map En.h ++ (beE c.key c.seq s.E).map En.h := by rw [← List.map_append, hE]
    rw [hl, List.map_append, List.map_cons, hm, List.take_left' (by rw [List.length_map]), List.drop_left' (by rw [List.length_map])]
  · rfl
theorem sizeC_ins (c : Cl) (L : List Cl) : sizeC (insC c L) = sizeC L + (c.key.size + c.val.size + 16) := by
  unfold insC
  rw [sizeC_app, sizeC]
  have e : sizeC L = sizeC (L.takeWhile (fun d => lessC d c)) + sizeC (L.dropWhile (fun d => lessC d c)) := by
    rw [← sizeC_app, List.takeWhile_append_dropWhile]
  omega
theorem put_sizeC {s : St} (h : s.size = sizeC (s.E.map En.c)) (c : Cl) (hgt : Int) : (putS c hgt s).size = sizeC ((putS c hgt s).E.map En.c) := by
  rw [putS_size, put_cells, putQ_eq]
  split
  · rw [sizeC_ins, h]
  · exact h
theorem cnt_lvl (k : Nat) (E : List En) : cntH (k + 1) (E.map En.h) = (lvl k E).length := by
  rw [lvl_len]
  unfold cntH
  rw [List.filter_map, List.length_map]
  rfl
theorem filter_tw {p : Nat → Bool} : ∀ {l : List Nat}, (∀ i a b, l[i]? = some a → l[i + 1]? = some b → p b = true → p a = true) → l.filter p = l.takeWhile p
  | [], _ => rfl
  | a :: l, h => by
    have ih := filter_tw (p := p) (l := l) (fun i x y h1 h2 => h (i + 1) x y h1 h2)
    by_cases ha : p a = true
    · rw [List.filter_cons_of_pos ha, List.takeWhile_cons_of_pos ha, ih]
    · rw [List.filter_cons_of_neg ha, List.takeWhile_cons_of_neg ha, ih]
      cases l with
      | nil => rfl
      | cons b l =>
        have hb : ¬ p b = true := fun e => ha (h 0 a b rfl rfl e)
        rw [List.takeWhile_cons_of_neg hb]
theorem rlev_eq {n : Nat} {cell : Nat → Cl} {nx : Nat → Nat → Nat} {E : List En} (r : Rep n cell nx E) : rlevC (E.map En.h) 12 = levR E := by
  unfold rlevC levR
  have e1 : (List.range 12).map (fun k => cntH (k + 1) (E.map En.h)) = (List.range 12).map (fun k => (lvl k E).length) := List.map_congr_left (fun k _ => cnt_lvl k E)
  have e2 : (fun k => decide (fsL k E ≠ 0)) = fun k => decide (0 < (lvl k E).length) := by
    funext k
    by_cases h : fsL k E = 0
    · rcases fsL_cases k E with ⟨_, h2⟩ | ⟨C, e, R, h1, _, _, h4⟩
      · rw [lvl_none h2, h]; rfl
      · have := (r.each e (by rw [h1]; simp)).1
        omega
    · have hp : 0 < (lvl k E).length := lvl_pos h
      rw [decide_eq_true hp, decide_eq_true h]
  have e3 : ((List.range 12).map (fun k => (lvl k E).length)).filter (fun x => decide (0 < x)) = ((List.range 12).map (fun k => (lvl k E).length)).takeWhile (fun x => decide (0 < x)) := filter_tw (fun i a b h1 h2 hb => by
    rw [List.getElem?_map] at h1 h2
    obtain ⟨x, hx, rfl⟩ := Option.map_eq_some_iff.1 h1
    obtain ⟨y, hy, rfl⟩ := Option.map_eq_some_iff.1 h2
    have h3 := (List.getElem?_eq_some_iff.1 hx).2
    have h4 := (List.getElem?_eq_some_iff.1 hy).2
    rw [List.getElem_range] at h3 h4
    subst h3 h4
    have := lvl_mono i E
    simp only [decide_eq_true_eq] at hb ⊢
    omega)
  rw [e1, e3, e2]
  exact (map_takeWhile (fun k => (lvl k E).length) (fun x => decide (0 < x)) (List.range 12)).symm
end Go.Proofs.Ytdgmjmohfpjlnaa
