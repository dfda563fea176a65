/-
  What a printer does grows: the text goes on, what is wrong stays wrong.
-/
import Derived.Test.YtcdagmgbfihbdaaDoorTom
namespace Go.Proofs.YtcdagmgbfihbdaaDoor
open Go.RowKit
/-- One state goes on into another one. -/
structure Mo (s s' : PS) : Prop where
  wide : s.wide = true → s'.wide = true
  long : s.long = true → s'.long = true
  buf : s'.long = false → s.buf <+: s'.buf
theorem Mo.refl (s : PS) : Mo s s := ⟨id, id, fun _ => List.prefix_refl _⟩
theorem Mo.trans {a b c : PS} (h : Mo a b) (k : Mo b c) : Mo a c := ⟨fun q => k.wide (h.wide q), fun q => k.long (h.long q), fun q => by
  have hb : b.long = false := by
    cases hb : b.long with
    | false => rfl
    | true => rw [k.long hb] at q; cases q
  exact (h.buf hb).trans (k.buf q)⟩
theorem mo_put (x : List UInt8) (s : PS) : Mo s (putS x s) := by
  unfold putS
  split
  · exact ⟨id, fun _ => rfl, fun q => by cases q⟩
  · rename_i h
    refine ⟨id, fun q => ?_, fun _ => List.prefix_append _ _⟩
    rw [q] at h
    simp at h
theorem mo_word (x : List UInt8) (s : PS) : Mo s (wordS x s) := mo_put _ s
theorem mo_num (n : Int) (s : PS) : Mo s (numS n s) :=
  Mo.trans (b := ⟨s.buf, s.wide || !shortB n, s.long⟩) ⟨fun q => (by show (s.wide || !shortB n) = true; rw [q]; rfl), id, fun _ => List.prefix_refl _⟩ (mo_word (Lib.itoa n) _)
theorem mo_text (x : List UInt8) (s : PS) : Mo s (textS x s) := by
  unfold textS
  split
  · exact ⟨id, fun _ => rfl, fun q => by cases q⟩
  · rename_i h
    have hl : s.long = false := by
      cases hl : s.long with
      | false => rfl
      | true => rw [hl] at h; simp at h
    have := mo_word (quoteL x) ⟨s.buf, s.wide, false⟩
    exact ⟨this.wide, fun q => (by rw [hl] at q; cases q), this.buf⟩
theorem mo_fold {α : Type} (f : α → PS → PS) (hf : ∀ x s, Mo s (f x s)) : ∀ (l : List α) (s : PS), Mo s (l.foldl (fun s x => f x s) s)
  | [], s => Mo.refl s
  | x :: l, s => (hf x s).trans (mo_fold f hf l (f x s))
theorem mo_prt (x : Prt) (s : PS) : Mo s (prS x s) := by
  cases x with
  | s y => exact mo_text y s
  | i n => exact mo_num n s
  | is a c l => exact mo_fold numS mo_num l s
  | us a c l => exact mo_fold greatS (fun n s => mo_word _ s) l s
theorem mo_line (w : List UInt8) (l : List Prt) (s : PS) : Mo s (lineS w l s) := ((mo_put w s).trans (mo_fold prS mo_prt l _)).trans (mo_put [10] _)
theorem mo_if {p : Prop} [Decidable p] {s a : PS} (h : Mo s a) : Mo s (if p then a else s) := by split; exact h; exact Mo.refl s
theorem mo_term (t : Trm) (s : PS) : Mo s (termS t s) := by
  unfold termS crashS drawsS ticksS picksS
  refine Mo.trans ?_ (mo_if (mo_line _ _ _))
  refine Mo.trans ?_ (mo_fold atS (fun a s => mo_line _ _ s) _ _)
  refine Mo.trans ?_ (mo_fold faultS (fun a s => mo_line _ _ s) _ _)
  refine Mo.trans ?_ (mo_if (mo_line _ _ _))
  refine Mo.trans ?_ (mo_if (mo_line _ _ _))
  refine Mo.trans ?_ (mo_if (mo_line _ _ _))
  exact mo_line _ _ _
theorem put_some {x : List UInt8} {s : PS} (hx : x ≠ []) (h : (putS x s).long = false) : (putS x s).buf ≠ [] := by
  unfold putS at h ⊢
  split
  · rename_i q; rw [if_pos q] at h; cases h
  · simp [hx]
theorem mo_ne {a b : PS} (m : Mo a b) (h : b.long = false) (ha : a.long = false → a.buf ≠ []) : b.buf ≠ [] := by
  have hl : a.long = false := by
    cases hb : a.long with
    | false => rfl
    | true => rw [m.long hb] at h; cases h
  obtain ⟨t, ht⟩ := m.buf h
  have := ha hl
  rw [← ht]
  simp [this]
theorem line_ne (w : List UInt8) (l : List Prt) (s : PS) (h : (lineS w l s).long = false) : (lineS w l s).buf ≠ [] :=
  put_some (by simp) h
/-- What is printed ahead of the answer. -/
def printS (ts : List Ten) (o : Opt) (cp : Int) (l : List Trm) : PS := l.foldl (fun s t => termS t s) (configS ts o cp ⟨[], false, false⟩)
theorem print_ne (ts : List Ten) (o : Opt) (cp : Int) (l : List Trm) (h : (printS ts o cp l).long = false) : (printS ts o cp l).buf ≠ [] :=
  mo_ne (mo_fold termS mo_term l _) h (fun q => line_ne _ _ _ q)
/-- What Print tells. -/
def printR (ts : List Ten) (o : Opt) (cp : Int) (l : List Trm) : List UInt8 × Int :=
  if many ts.length l = true then ([], 3) else if (printS ts o cp l).wide = true then ([], 280) else if (printS ts o cp l).long = true then ([], 3) else ((printS ts o cp l).buf, 0)
end Go.Proofs.YtcdagmgbfihbdaaDoor
