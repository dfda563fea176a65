/-
  The twin's search over all forms is what the program reads: the pure side.
-/
import Derived.Test.YtdkbgbhcnbmlfaaDoorQrf
namespace Go.Proofs.YtdkbgbhcnbmlfaaDoor
open Go.RowKit
abbrev Frm := Int × Bool × Bool × Bool
def rdF (l : List UInt8) (f : Frm) : RQ := rdQ f.1 f.2.1 f.2.2.1 f.2.2.2 l
/-- The first form that fits; else whether one of them was too short. -/
def fndQ (l : List UInt8) : List Frm → Bool → RQ
  | [], sh => badQ (if sh = true then 20 else 180)
  | f :: fs, sh => if (rdF l f).2.2 = 0 then rdF l f else fndQ l fs (sh || decide ((rdF l f).2.2 = 20))
theorem fnd_inv (l : List UInt8) : ∀ (fs : List Frm) (sh : Bool), (∃ f ∈ fs, (rdF l f).2.2 = 0 ∧ fndQ l fs sh = rdF l f) ∨ ((∀ f ∈ fs, ¬ (rdF l f).2.2 = 0) ∧ ((sh = true ∨ ∃ f ∈ fs, (rdF l f).2.2 = 20) ∧ fndQ l fs sh = badQ 20 ∨ ¬ (sh = true ∨ ∃ f ∈ fs, (rdF l f).2.2 = 20) ∧ fndQ l fs sh = badQ 180))
  | [], sh => by
    refine Or.inr ⟨fun f h => absurd h (List.not_mem_nil), ?_⟩
    cases sh with
    | true => exact Or.inl ⟨Or.inl rfl, rfl⟩
    | false => exact Or.inr ⟨fun h => h.elim (fun c => Bool.noConfusion c) (fun ⟨f, c, _⟩ => absurd c List.not_mem_nil), rfl⟩
  | f :: fs, sh => by
    rw [fndQ]
    by_cases h : (rdF l f).2.2 = 0
    · rw [if_pos h]
      exact Or.inl ⟨f, List.mem_cons_self .., h, rfl⟩
    · rw [if_neg h]
      have hb : ((sh || decide ((rdF l f).2.2 = 20)) = true ∨ ∃ g ∈ fs, (rdF l g).2.2 = 20) ↔ (sh = true ∨ ∃ g ∈ f :: fs, (rdF l g).2.2 = 20) := by
        constructor
        · rintro (q | ⟨g, q1, q2⟩)
          · rcases Bool.or_eq_true_iff.1 q with q | q
            · exact Or.inl q
            · exact Or.inr ⟨f, List.mem_cons_self .., of_decide_eq_true q⟩
          · exact Or.inr ⟨g, List.mem_cons_of_mem _ q1, q2⟩
        · rintro (q | ⟨g, q1, q2⟩)
          · exact Or.inl (by rw [q]; rfl)
          · rcases List.mem_cons.1 q1 with rfl | q1
            · exact Or.inl (by rw [q2]; simp)
            · exact Or.inr ⟨g, q1, q2⟩
      rcases fnd_inv l fs (sh || decide ((rdF l f).2.2 = 20)) with ⟨g, g1, g2, g3⟩ | ⟨g1, g2⟩
      · exact Or.inl ⟨g, List.mem_cons_of_mem _ g1, g2, g3⟩
      · refine Or.inr ⟨fun g hg => ?_, ?_⟩
        · rcases List.mem_cons.1 hg with rfl | hg
          · exact h
          · exact g1 g hg
        · rw [hb] at g2
          exact g2
theorem wr_len0 {a b : Rp} (ha : okR a = true) (hb : okR b = true) {l q : List UInt8} (h1 : l = wrL a ++ q) (h2 : Cut l (wrL b)) : False := by
  obtain ⟨⟨x, hx⟩, hl⟩ := h2
  rw [h1, List.append_assoc] at hx
  have := wr_inj ha hb hx.symm
  subst this
  rw [h1, List.length_append] at hl
  omega
theorem fnd_par (l : List UInt8) {fs : List Frm} (hs : ∀ f ∈ fs, f.1 ∈ sts) (ha : ∀ z ∈ sts, ∀ a b c : Bool, (z, a, b, c) ∈ fs) : fndQ l fs false = parR l := by
  have inv : ∀ f ∈ fs, SQ PW l 0 (rdF l f) := fun f hf => rdQ_inv (hs f hf) _ _ _ l
  have fof : ∀ r : Rp, okR r = true → (r.status, !r.body.isEmpty, !r.cookie.isEmpty, r.close) ∈ fs := fun r h => ha _ (ok_sts (ok_parts h).1) _ _ _
  rcases fnd_inv l fs false with ⟨f, f1, f2, f3⟩ | ⟨f1, f2⟩
  · rw [f3]
    rcases inv f f1 with ⟨e, b, q, ⟨h1, h2⟩, h3, h4⟩ | ⟨e, _⟩ | e
    · rw [h2] at h3 h4
      rw [h3, par_wr h1 q, ← f2]
      show rdF (_ ++ q) f = _
      rw [← h3, show (wrL (rdF l f).1).length = (rdF l f).2.1 by rw [h4, Nat.zero_add]]
    · rw [e] at f2; exact absurd f2 (by decide)
    · rw [e] at f2; exact absurd f2 (by decide)
  · have no : ∀ r q, okR r = true → l = wrL r ++ q → False := fun r q h1 h2 => by
      have := rd_wr h1 q
      rw [← h2] at this
      exact f1 _ (fof r h1) this
    rcases f2 with ⟨g1, g2⟩ | ⟨g1, g2⟩
    · rw [g2]
      rcases g1 with g1 | ⟨f, g3, g4⟩
      · cases g1
      · rcases inv f g3 with ⟨e, _⟩ | ⟨e, r, b, ⟨h1, rfl⟩, c⟩ | e
        · rw [e] at g4; exact absurd g4 (by decide)
        · rw [par_cut h1 c]; rfl
        · rw [e] at g4; exact absurd g4 (by decide)
    · rw [g2]
      rcases par_inv l with ⟨r, q, h1, h2, _⟩ | ⟨r, h1, h2, _⟩ | h
      · exact (no r q h1 h2).elim
      · exact absurd (Or.inr ⟨_, fof r h1, rd_cut h1 h2⟩) g1
      · rw [h]; rfl
end Go.Proofs.YtdkbgbhcnbmlfaaDoor
