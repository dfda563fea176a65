/-
  A list of cells that skips: the pure side.
-/
import Derived.Test.YtdgmjmohfpjlnaaChecked
import Derived.WalkKit
namespace Go.Proofs.Ytdgmjmohfpjlnaa
open Go.RowKit
/-- A cell. -/
structure Cl where
  key : ByteArray
  seq : Nat
  val : ByteArray
  gone : Bool
theorem bytesLess_irrefl (l : List UInt8) : Op.bytesLess l l = false := by
  induction l with
  | nil => rfl
  | cons a l ih => simp [Op.bytesLess, ih]
theorem bytesLess_trans : ∀ {a b c : List UInt8}, Op.bytesLess a b = true → Op.bytesLess b c = true → Op.bytesLess a c = true
  | _, _, [], _, h => by simp [Op.bytesLess] at h
  | [], _, _ :: _, _, _ => by simp [Op.bytesLess]
  | _ :: _, [], _ :: _, h, _ => by simp [Op.bytesLess] at h
  | x :: a, y :: b, z :: c, h1, h2 => by
    simp only [Op.bytesLess, Bool.or_eq_true, decide_eq_true_eq, Bool.and_eq_true, beq_iff_eq] at h1 h2 ⊢
    rcases h1 with h1 | ⟨rfl, h1⟩
    · rcases h2 with h2 | ⟨rfl, h2⟩
      · exact Or.inl (UInt8.lt_trans h1 h2)
      · exact Or.inl h1
    · rcases h2 with h2 | ⟨rfl, h2⟩
      · exact Or.inl h2
      · exact Or.inr ⟨rfl, bytesLess_trans h1 h2⟩
theorem bytesLess_tri : ∀ (a b : List UInt8), Op.bytesLess a b = true ∨ a = b ∨ Op.bytesLess b a = true
  | [], [] => Or.inr (Or.inl rfl)
  | [], _ :: _ => Or.inl (by simp [Op.bytesLess])
  | _ :: _, [] => Or.inr (Or.inr (by simp [Op.bytesLess]))
  | x :: a, y :: b => by
    simp only [Op.bytesLess, Bool.or_eq_true, decide_eq_true_eq, Bool.and_eq_true, beq_iff_eq, List.cons.injEq]
    rcases Nat.lt_trichotomy x.toNat y.toNat with h | h | h
    · exact Or.inl (Or.inl h)
    · have hxy : x = y := UInt8.toNat_inj.1 h
      subst hxy
      rcases bytesLess_tri a b with h | h | h
      · exact Or.inl (Or.inr ⟨rfl, h⟩)
      · exact Or.inr (Or.inl ⟨rfl, h⟩)
      · exact Or.inr (Or.inr (Or.inr ⟨rfl, h⟩))
    · exact Or.inr (Or.inr (Or.inl h))
theorem bytesLess_asym {a b : List UInt8} (h : Op.bytesLess a b = true) : Op.bytesLess b a = false := by
  cases h2 : Op.bytesLess b a with
  | false => rfl
  | true => have := bytesLess_trans h h2; rw [bytesLess_irrefl] at this; cases this
/-- Does a cell stand ahead of a place? -/
def ahK (c : Cl) (key : ByteArray) (seq : Nat) : Bool := if (c.key.toList == key.toList) = true then decide (seq < c.seq) else Op.bytesLess c.key.toList key.toList
def lessC (a b : Cl) : Bool := ahK a b.key b.seq
theorem ahK_same {c : Cl} {key : ByteArray} {seq : Nat} (h : c.key.toList = key.toList) : ahK c key seq = decide (seq < c.seq) := by unfold ahK; rw [if_pos (by simp [h])]
theorem ahK_other {c : Cl} {key : ByteArray} {seq : Nat} (h : c.key.toList ≠ key.toList) : ahK c key seq = Op.bytesLess c.key.toList key.toList := by unfold ahK; rw [if_neg (by simp [h])]
theorem less_ahK {a b : Cl} {key : ByteArray} {seq : Nat} (h1 : lessC a b = true) (h2 : ahK b key seq = true) : ahK a key seq = true := by
  unfold lessC at h1
  by_cases hab : a.key.toList = b.key.toList
  · rw [ahK_same hab] at h1
    by_cases hbk : b.key.toList = key.toList
    · rw [ahK_same hbk] at h2
      rw [ahK_same (hab.trans hbk)]
      simp at *
      omega
    · rw [ahK_other hbk] at h2
      rw [ahK_other (by rw [hab]; exact hbk), hab]
      exact h2
  · rw [ahK_other hab] at h1
    by_cases hbk : b.key.toList = key.toList
    · rw [ahK_other (by rw [← hbk]; exact hab), ← hbk]
      exact h1
    · rw [ahK_other hbk] at h2
      have h3 := bytesLess_trans h1 h2
      have hak : a.key.toList ≠ key.toList := fun e => by rw [e, bytesLess_irrefl] at h3; cases h3
      rw [ahK_other hak]
      exact h3
theorem lessC_trans {a b c : Cl} (h1 : lessC a b = true) (h2 : lessC b c = true) : lessC a c = true := less_ahK h1 h2
theorem lessC_irrefl (a : Cl) : lessC a a = false := by unfold lessC; rw [ahK_same rfl]; simp
/-- Of a cell and a place: ahead, the same, or behind. -/
theorem ahK_tri (c : Cl) (d : Cl) : ahK c d.key d.seq = true ∨ (c.key.toList = d.key.toList ∧ c.seq = d.seq) ∨ ahK d c.key c.seq = true := by
  by_cases h : c.key.toList = d.key.toList
  · rw [ahK_same h, ahK_same h.symm]
    rcases Nat.lt_trichotomy c.seq d.seq with g | g | g
    · exact Or.inr (Or.inr (by simp [g]))
    · exact Or.inr (Or.inl ⟨h, g⟩)
    · exact Or.inl (by simp [g])
  · rw [ahK_other h, ahK_other (fun e => h e.symm)]
    rcases bytesLess_tri c.key.toList d.key.toList with g | g | g
    · exact Or.inl g
    · exact absurd g h
    · exact Or.inr (Or.inr g)
/-! ### Entries in order -/
/-- An entry: its place, its cell, its height. -/
structure En where
  p : Nat
  c : Cl
  h : Nat
/-- The first place on a level; 0: none. -/
def fsL (k : Nat) (E : List En) : Nat := ((E.find? (fun e => decide (k < e.h))).map En.p).getD 0
/-- The last place on a level; 0: the head. -/
def lsL (k : Nat) (E : List En) : Nat := ((E.reverse.find? (fun e => decide (k < e.h))).map En.p).getD 0
structure Rep (n : Nat) (cell : Nat → Cl) (nx : Nat → Nat → Nat) (E : List En) : Prop where
  size : n = E.length + 1
  each : ∀ e ∈ E, 1 ≤ e.p ∧ e.p < n ∧ cell e.p = e.c ∧ 1 ≤ e.h ∧ e.h ≤ 12
  apart : (E.map En.p).Nodup
  order : E.Pairwise (fun a b => lessC a.c b.c = true)
  head : ∀ k, k < 12 → nx 0 k = fsL k E
  links : ∀ A e R, E = A ++ e :: R → ∀ k, k < e.h → nx e.p k = fsL k R
theorem fsL_nil (k : Nat) : fsL k [] = 0 := rfl
theorem fsL_hit {k : Nat} {e : En} (h : k < e.h) (R : List En) : fsL k (e :: R) = e.p := by unfold fsL; rw [List.find?_cons_of_pos (by simpa using h)]; rfl
theorem fsL_miss {k : Nat} {e : En} (h : ¬ k < e.h) (R : List En) : fsL k (e :: R) = fsL k R := by unfold fsL; rw [List.find?_cons_of_neg (by simpa using h)]
theorem lsL_nil (k : Nat) : lsL k [] = 0 := rfl
theorem lsL_hit {k : Nat} {e : En} (h : k < e.h) (A : List En) : lsL k (A ++ [e]) = e.p := by unfold lsL; rw [List.reverse_append]; show ((List.find? _ (e :: A.reverse)).map En.p).getD 0 = _; rw [List.find?_cons_of_pos (by simpa using h)]; rfl
theorem lsL_miss {k : Nat} {e : En} (h : ¬ k < e.h) (A : List En) : lsL k (A ++ [e]) = lsL k A := by unfold lsL; rw [List.reverse_append]; show ((List.find? _ (e :: A.reverse)).map En.p).getD 0 = _; rw [List.find?_cons_of_neg (by simpa using h)]
theorem fsL_app {k : Nat} : ∀ (C R : List En), (∀ e ∈ C, ¬ k < e.h) → fsL k (C ++ R) = fsL k R
  | [], R, _ => rfl
  | e :: C, R, h => by rw [List.cons_append, fsL_miss (h e (List.mem_cons_self ..)), fsL_app C R (fun x hx => h x (List.mem_cons_of_mem _ hx))]
theorem lsL_app {k : Nat} (A : List En) : ∀ (C : List En), (∀ e ∈ C, ¬ k < e.h) → lsL k (A ++ C) = lsL k A := by
  intro C
  induction C generalizing A with
  | nil => intro _; rw [List.append_nil]
  | cons e C ih =>
    intro h
    rw [show A ++ e :: C = (A ++ [e]) ++ C by simp, ih (A ++ [e]) (fun x hx => h x (List.mem_cons_of_mem _ hx)), lsL_miss (h e (List.mem_cons_self ..))]
/-- Either none of a list stands on a level, or a first one does. -/
theorem fsL_cases (k : Nat) : ∀ (R : List En), (fsL k R = 0 ∧ ∀ e ∈ R, ¬ k < e.h) ∨ ∃ C e R', R = C ++ e :: R' ∧ (∀ x ∈ C, ¬ k < x.h) ∧ k < e.h ∧ fsL k R = e.p
  | [] => Or.inl ⟨rfl, fun e h => by cases h⟩
  | e :: R => by
    by_cases h : k < e.h
    · exact Or.inr ⟨[], e, R, rfl, fun x hx => (by cases hx), h, fsL_hit h R⟩
    · rcases fsL_cases k R with ⟨h1, h2⟩ | ⟨C, e', R', h1, h2, h3, h4⟩
      · refine Or.inl ⟨by rw [fsL_miss h]; exact h1, fun x hx => ?_⟩
        rcases List.mem_cons.1 hx with rfl | hx
        · exact h
        · exact h2 x hx
      · refine Or.inr ⟨e :: C, e', R', by rw [h1]; rfl, fun x hx => ?_, h3, by rw [fsL_miss h]; exact h4⟩
        rcases List.mem_cons.1 hx with rfl | hx
        · exact h
        · exact h2 x hx
theorem lsL_cases (k : Nat) (B : List En) : (lsL k B = 0 ∧ ∀ e ∈ B, ¬ k < e.h) ∨ ∃ A e C, B = A ++ e :: C ∧ (∀ x ∈ C, ¬ k < x.h) ∧ k < e.h ∧ lsL k B = e.p := by
  rcases fsL_cases k B.reverse with ⟨h1, h2⟩ | ⟨C, e, R', h1, h2, h3, h4⟩
  · exact Or.inl ⟨h1, fun e he => h2 e (List.mem_reverse.2 he)⟩
  · refine Or.inr ⟨R'.reverse, e, C.reverse, ?_, fun x hx => h2 x (List.mem_reverse.1 hx), h3, h4⟩
    have := congrArg List.reverse h1
    rw [List.reverse_reverse] at this
    rw [this]
    simp
/-- Where a walk along a level stands: behind A, all of which stand ahead; the last of A is on the level. -/
structure At (key : ByteArray) (seq k : Nat) (E A R : List En) (at' : Nat) : Prop where
  split : E = A ++ R
  ah : ∀ e ∈ A, ahK e.c key seq = true
  last : (A = [] ∧ at' = 0) ∨ ∃ A' e, A = A' ++ [e] ∧ at' = e.p ∧ k < e.h
theorem At.start (key : ByteArray) (seq k : Nat) (E : List En) : At key seq k E [] E 0 := ⟨rfl, fun e h => (by cases h), Or.inl ⟨rfl, rfl⟩⟩
theorem At.down {key : ByteArray} {seq k j : Nat} {E A R : List En} {a : Nat} (h : At key seq k E A R a) (hj : j ≤ k) : At key seq j E A R a := ⟨h.split, h.ah, by
  rcases h.last with h | ⟨A', e, h1, h2, h3⟩
  · exact Or.inl h
  · exact Or.inr ⟨A', e, h1, h2, by omega⟩⟩
theorem At.next {n : Nat} {cell : Nat → Cl} {nx : Nat → Nat → Nat} {key : ByteArray} {seq k : Nat} {E A R : List En} {a : Nat} (r : Rep n cell nx E) (h : At key seq k E A R a) (hk : k < 12) : nx a k = fsL k R := by
  rcases h.last with ⟨h1, h2⟩ | ⟨A', e, h1, h2, h3⟩
  · rw [h2, r.head k hk]
    rw [h.split, h1]
    rfl
  · rw [h2]
    exact r.links A' e R (by rw [h.split, h1]; simp) k h3
theorem At.lt {n : Nat} {cell : Nat → Cl} {nx : Nat → Nat → Nat} {key : ByteArray} {seq k : Nat} {E A R : List En} {a : Nat} (r : Rep n cell nx E) (h : At key seq k E A R a) : a < n := by
  rcases h.last with ⟨h1, h2⟩ | ⟨A', e, h1, h2, h3⟩
  · have := r.size; omega
  · rw [h2]
    exact (r.each e (by rw [h.split, h1]; simp)).2.1
theorem sorted_head {A C R : List En} {e : En} (o : (A ++ (C ++ e :: R)).Pairwise (fun a b => lessC a.c b.c = true)) : ∀ x ∈ C, lessC x.c e.c = true := by
  have h1 := (List.pairwise_append.1 o).2.1
  exact fun x hx => (List.pairwise_append.1 h1).2.2 x hx e (List.mem_cons_self ..)
/-- The walk goes on, or stands at the level's last one ahead. -/
theorem At.step {n : Nat} {cell : Nat → Cl} {nx : Nat → Nat → Nat} {key : ByteArray} {seq k : Nat} {E A R : List En} {a : Nat} (r : Rep n cell nx E) (h : At key seq k E A R a) :
    (fsL k R = 0 ∧ ∀ e ∈ R, ¬ k < e.h) ∨ ∃ C e R', R = C ++ e :: R' ∧ (∀ x ∈ C, ¬ k < x.h) ∧ k < e.h ∧ fsL k R = e.p ∧ 1 ≤ e.p ∧ e.p < n ∧ cell e.p = e.c ∧ (ahK e.c key seq = true → At key seq k E (A ++ (C ++ [e])) R' e.p) := by
  rcases fsL_cases k R with h1 | ⟨C, e, R', h1, h2, h3, h4⟩
  · exact Or.inl h1
  · have he := r.each e (by rw [h.split, h1]; simp)
    refine Or.inr ⟨C, e, R', h1, h2, h3, h4, he.1, he.2.1, he.2.2.1, fun hb => ⟨by rw [h.split, h1]; simp, ?_, Or.inr ⟨A ++ C, e, by simp, rfl, h3⟩⟩⟩
    intro x hx
    rcases List.mem_append.1 hx with hx | hx
    · exact h.ah x hx
    · rcases List.mem_append.1 hx with hx | hx
      · have o := r.order
        rw [h.split, h1] at o
        exact less_ahK (sorted_head o x hx) hb
      · rw [List.mem_singleton.1 hx]
        exact hb
/-- Those ahead of a place. -/
def ahE (key : ByteArray) (seq : Nat) (E : List En) : List En := E.takeWhile (fun e => ahK e.c key seq)
def beE (key : ByteArray) (seq : Nat) (E : List En) : List En := E.dropWhile (fun e => ahK e.c key seq)
theorem tw_all {key : ByteArray} {seq : Nat} {E : List En} {e : En} (h : e ∈ ahE key seq E) : ahK e.c key seq = true := by
  unfold ahE at h
  induction E with
  | nil => cases h
  | cons x E ih =>
    rw [List.takeWhile_cons] at h
    split at h
    · rename_i hx
      rcases List.mem_cons.1 h with rfl | h
      · exact hx
      · exact ih h
    · cases h
theorem dw_nil {p : En → Bool} : ∀ {l : List En}, l.dropWhile p = [] → ∀ e ∈ l, p e = true
  | [], _, e, h => by cases h
  | x :: l, hd, e, h => by
    by_cases hx : p x = true
    · rw [List.dropWhile_cons_of_pos hx] at hd
      rcases List.mem_cons.1 h with rfl | h
      · exact hx
      · exact dw_nil hd e h
    · rw [List.dropWhile_cons_of_neg hx] at hd
      cases hd
theorem dw_app {p : En → Bool} : ∀ {B : List En} (X : List En) {e : En}, e ∈ B → ¬ p e = true → (B ++ X).dropWhile p = B.dropWhile p ++ X
  | [], X, e, h, _ => by cases h
  | b :: B, X, e, h, hn => by
    by_cases hb : p b = true
    · rw [List.cons_append, List.dropWhile_cons_of_pos hb, List.dropWhile_cons_of_pos hb]
      rcases List.mem_cons.1 h with rfl | h
      · exact absurd hb hn
      · exact dw_app X h hn
    · rw [List.cons_append, List.dropWhile_cons_of_neg hb, List.dropWhile_cons_of_neg hb]
      rfl
theorem ah_be (key : ByteArray) (seq : Nat) (E : List En) : ahE key seq E ++ beE key seq E = E := List.takeWhile_append_dropWhile
theorem ah_of {key : ByteArray} {seq : Nat} {B R : List En} (hB : ∀ e ∈ B, ahK e.c key seq = true) (hR : ∀ e R', R = e :: R' → ahK e.c key seq = false) : ahE key seq (B ++ R) = B ∧ beE key seq (B ++ R) = R := by
  unfold ahE beE
  constructor
  · rw [List.takeWhile_append_of_pos (by simpa using hB)]
    cases R with
    | nil => simp
    | cons e R => rw [List.takeWhile_cons_of_neg (by rw [hR e R rfl]; decide), List.append_nil]
  · rw [List.dropWhile_append_of_pos (by simpa using hB)]
    cases R with
    | nil => rfl
    | cons e R => rw [List.dropWhile_cons_of_neg (by rw [hR e R rfl]; decide)]
theorem behind_all {n : Nat} {cell : Nat → Cl} {nx : Nat → Nat → Nat} {E : List En} (r : Rep n cell nx E) {key : ByteArray} {seq : Nat} : ∀ e ∈ beE key seq E, ahK e.c key seq = false := by
  intro e he
  have o := r.order
  rw [← ah_be key seq E] at o
  have o2 := (List.pairwise_append.1 o).2.1
  cases hb : beE key seq E with
  | nil => rw [hb] at he; cases he
  | cons f R =>
    have hf : ahK f.c key seq = false := by
      cases h : ahK f.c key seq with
      | false => rfl
      | true =>
        have h2 := List.head_dropWhile_not (p := fun e => ahK e.c key seq) (l := E) (by unfold beE at hb; rw [hb]; simp)
        have h3 : (E.dropWhile (fun e => ahK e.c key seq)).head (by unfold beE at hb; rw [hb]; simp) = f := by simp only [show E.dropWhile (fun e => ahK e.c key seq) = f :: R from hb]; rfl
        rw [h3, h] at h2
        cases h2
    rw [hb] at he o2
    rcases List.mem_cons.1 he with rfl | he
    · exact hf
    · cases h : ahK e.c key seq with
      | false => rfl
      | true => rw [less_ahK ((List.pairwise_cons.1 o2).1 e he) h] at hf; cases hf
/-- At a level's end the walk stands at the last one ahead on that level. -/
theorem At.stop {key : ByteArray} {seq k : Nat} {E A R : List En} {a : Nat} (h : At key seq k E A R a) (hs : (∀ e ∈ R, ¬ k < e.h) ∨ ∃ C e R', R = C ++ e :: R' ∧ (∀ x ∈ C, ¬ k < x.h) ∧ ahK e.c key seq = false) : a = lsL k (ahE key seq E) := by
  have ha : lsL k A = a := by
    rcases h.last with ⟨h1, h2⟩ | ⟨A', e, h1, h2, h3⟩
    · rw [h1, h2]; rfl
    · rw [h1, lsL_hit h3, h2]
  have hB : ∃ D, ahE key seq E = A ++ D ∧ ∀ x ∈ D, ¬ k < x.h := by
    refine ⟨ahE key seq R, ?_, ?_⟩
    · rw [h.split]
      unfold ahE
      rw [List.takeWhile_append_of_pos (by simpa using h.ah)]
    · intro x hx
      rcases hs with hs | ⟨C, e, R', h1, h2, h3⟩
      · exact hs x ((List.takeWhile_sublist _).subset hx)
      · refine h2 x ?_
        unfold ahE at hx
        rw [h1] at hx
        have : List.takeWhile (fun e => ahK e.c key seq) (C ++ e :: R') <+: C := by
          clear hx h1 h2
          induction C with
          | nil => rw [List.nil_append, List.takeWhile_cons_of_neg (by rw [h3]; decide)]; exact List.prefix_refl _
          | cons y C ih =>
            rw [List.cons_append, List.takeWhile_cons]
            split
            · exact List.cons_prefix_cons.2 ⟨rfl, ih⟩
            · exact List.nil_prefix
        exact this.subset hx
  obtain ⟨D, hD1, hD2⟩ := hB
  rw [hD1, lsL_app A D hD2, ha]
/-! ### Putting one in -/
def nxI (n height : Nat) (P : Nat → Nat) (nx : Nat → Nat → Nat) (p k : Nat) : Nat := if p = n then (if k < height then nx (P k) k else 0) else if k < height ∧ p = P k then n else nx p k
def ceI (n : Nat) (c : Cl) (cell : Nat → Cl) (p : Nat) : Cl := if p = n then c else cell p
theorem lsL_mem {k : Nat} {B : List En} : lsL k B = 0 ∨ ∃ e ∈ B, lsL k B = e.p ∧ k < e.h := by
  rcases lsL_cases k B with ⟨h, _⟩ | ⟨A, e, C, h1, _, h3, h4⟩
  · exact Or.inl h
  · exact Or.inr ⟨e, by rw [h1]; simp, h4, h3⟩
theorem place_eq {E : List En} (hn : (E.map En.p).Nodup) {a b : En} (ha : a ∈ E) (hb : b ∈ E) (h : a.p = b.p) : a = b := by
  induction E with
  | nil => cases ha
  | cons x E ih =>
    rw [List.map_cons, List.nodup_cons] at hn
    rcases List.mem_cons.1 ha with ha1 | ha1
    · rcases List.mem_cons.1 hb with hb1 | hb1
      · rw [ha1, hb1]
      · exact absurd (List.mem_map.2 ⟨b, hb1, by rw [← h, ha1]⟩) hn.1
    · rcases List.mem_cons.1 hb with hb1 | hb1
      · exact absurd (List.mem_map.2 ⟨a, ha1, by rw [h, hb1]⟩) hn.1
      · exact ih hn.2 ha1 hb1
theorem rep_split {n : Nat} {cell : Nat → Cl} {nx : Nat → Nat → Nat} {E : List En} (r : Rep n cell nx E) (key : ByteArray) (seq k : Nat) (hk : k < 12) : nx (lsL k (ahE key seq E)) k = fsL k (beE key seq E) := by
  have hE := ah_be key seq E
  rcases lsL_cases k (ahE key seq E) with ⟨h1, h2⟩ | ⟨A, e, C, h1, h2, h3, h4⟩
  · rw [h1, r.head k hk, ← fsL_app (ahE key seq E) (beE key seq E) h2, hE]
  · rw [h4, r.links A e (C ++ beE key seq E) (hE.symm.trans (by rw [h1]; simp)) k h3, fsL_app C _ h2]
theorem fsL_pos {k : Nat} {B R : List En} (hne : fsL k B ≠ 0) : fsL k (B ++ R) = fsL k B := by
  rcases fsL_cases k B with ⟨h, _⟩ | ⟨C, e, R', h1, h2, h3, h4⟩
  · exact absurd h hne
  · rw [h4, h1, List.append_assoc, fsL_app C _ h2]
    exact fsL_hit h3 _
/-- Another cell is put in. -/
theorem ins_rep {n : Nat} {cell : Nat → Cl} {nx : Nat → Nat → Nat} {E : List En} (r : Rep n cell nx E) {c : Cl} {height : Nat} (h1 : 1 ≤ height) (h12 : height ≤ 12) {P : Nat → Nat} (hP : ∀ k, k < 12 → P k = lsL k (ahE c.key c.seq E)) (hnew : ∀ e ∈ E, ¬ (e.c.key.toList = c.key.toList ∧ e.c.seq = c.seq)) :
    Rep (n + 1) (ceI n c cell) (nxI n height P nx) (ahE c.key c.seq E ++ ⟨n, c, height⟩ :: beE c.key c.seq E) := by
  have hE := ah_be c.key c.seq E
  have hahd : ∀ e ∈ ahE c.key c.seq E, ahK e.c c.key c.seq = true := fun e he => tw_all he
  have hbeh := behind_all r (key := c.key) (seq := c.seq)
  obtain ⟨B, hB⟩ : ∃ B, ahE c.key c.seq E = B := ⟨_, rfl⟩
  obtain ⟨R, hR⟩ : ∃ R, beE c.key c.seq E = R := ⟨_, rfl⟩
  have hsp := fun k hk => rep_split r c.key c.seq k hk
  rw [hB] at hE hahd hsp hP ⊢
  rw [hR] at hE hbeh hsp ⊢
  have hn1 : 1 ≤ n := by have := r.size; omega
  have heach := r.each
  have hapart := r.apart
  have horder := r.order
  have hmB : ∀ e ∈ B, e ∈ E := fun e he => by rw [← hE]; exact List.mem_append_left _ he
  have hmR : ∀ e ∈ R, e ∈ E := fun e he => by rw [← hE]; exact List.mem_append_right _ he
  have hPB : ∀ k, k < 12 → (P k = 0 ∧ ∀ e ∈ B, ¬ k < e.h) ∨ ∃ A e C, B = A ++ e :: C ∧ (∀ x ∈ C, ¬ k < x.h) ∧ k < e.h ∧ P k = e.p := fun k hk => by rw [hP k hk]; exact lsL_cases k B
  refine ⟨?_, ?_, ?_, ?_, ?_, ?_⟩
  · have := r.size
    rw [← hE] at this
    simp at this ⊢
    omega
  · intro e he
    have hold : e ∈ E → 1 ≤ e.p ∧ e.p < n + 1 ∧ ceI n c cell e.p = e.c ∧ 1 ≤ e.h ∧ e.h ≤ 12 := fun hm => by
      obtain ⟨g1, g2, g3, g4, g5⟩ := heach e hm
      refine ⟨g1, by omega, ?_, g4, g5⟩
      unfold ceI
      rw [if_neg (by omega), g3]
    rcases List.mem_append.1 he with he | he
    · exact hold (hmB e he)
    · rcases List.mem_cons.1 he with rfl | he
      · exact ⟨hn1, Nat.lt_succ_self _, by unfold ceI; rw [if_pos rfl], h1, h12⟩
      · exact hold (hmR e he)
  · rw [← hE, List.map_append] at hapart
    rw [List.map_append, List.map_cons]
    obtain ⟨a1, a2, a3⟩ := List.nodup_append.1 hapart
    have hfresh : ∀ e ∈ E, e.p ≠ n := fun e he => by have := (heach e he).2.1; omega
    refine List.nodup_append.2 ⟨a1, List.nodup_cons.2 ⟨?_, a2⟩, ?_⟩
    · intro hm
      obtain ⟨e, he, hp⟩ := List.mem_map.1 hm
      exact hfresh e (hmR e he) hp
    · intro x hx y hy
      rcases List.mem_cons.1 hy with rfl | hy
      · obtain ⟨e, he, rfl⟩ := List.mem_map.1 hx
        exact hfresh e (hmB e he)
      · exact a3 x hx y hy
  · rw [← hE] at horder
    obtain ⟨o1, o2, o3⟩ := List.pairwise_append.1 horder
    refine List.pairwise_append.2 ⟨o1, List.pairwise_cons.2 ⟨?_, o2⟩, ?_⟩
    · intro e he
      show lessC c e.c = true
      unfold lessC
      rcases ahK_tri e.c c with h | h | h
      · rw [hbeh e he] at h; cases h
      · exact absurd h (hnew e (hmR e he))
      · exact h
    · intro x hx y hy
      rcases List.mem_cons.1 hy with rfl | hy
      · exact hahd x hx
      · exact o3 x hx y hy
  · intro k hk
    unfold nxI
    rw [if_neg (by omega)]
    rcases hPB k hk with ⟨p1, p2⟩ | ⟨A, e, C, p1, p2, p3, p4⟩
    · rw [fsL_app B _ p2]
      by_cases hkh : k < height
      · rw [if_pos ⟨hkh, p1.symm⟩, fsL_hit (e := ⟨n, c, height⟩) hkh]
      · rw [if_neg (fun q => hkh q.1), fsL_miss (e := ⟨n, c, height⟩) hkh, r.head k hk, ← hE, fsL_app B _ p2]
    · have hep := (heach e (hmB e (by rw [p1]; simp))).1
      rw [if_neg (fun q => by rw [p4] at q; omega), r.head k hk, ← hE]
      have hne : fsL k B ≠ 0 := by
        rcases fsL_cases k B with ⟨_, h⟩ | ⟨C', e', R', q1, q2, q3, q4⟩
        · exact absurd p3 (h e (by rw [p1]; simp))
        · rw [q4]
          have := (heach e' (hmB e' (by rw [q1]; simp))).1
          omega
      rw [fsL_pos hne, fsL_pos hne]
  · intro A e R' hsplit k hke
    have hk : k < 12 := by
      have : e ∈ B ++ ⟨n, c, height⟩ :: R := by rw [hsplit]; simp
      rcases List.mem_append.1 this with h | h
      · have := (heach e (hmB e h)).2.2.2.2; omega
      · rcases List.mem_cons.1 h with rfl | h
        · exact Nat.lt_of_lt_of_le hke h12
        · have := (heach e (hmR e h)).2.2.2.2; omega
    rcases List.append_eq_append_iff.1 hsplit with ⟨A', ha1, ha2⟩ | ⟨C, hc1, hc2⟩
    · -- A = B ++ A'
      cases A' with
      | nil =>
        rw [List.nil_append] at ha2
        have he : (⟨n, c, height⟩ : En) = e := (List.cons.inj ha2).1
        have hr : R = R' := (List.cons.inj ha2).2
        subst he hr
        show nxI n height P nx n k = _
        unfold nxI
        rw [if_pos rfl, if_pos hke, hP k hk, hsp k hk]
      | cons x A' =>
        rw [List.cons_append] at ha2
        have hx : (⟨n, c, height⟩ : En) = x := (List.cons.inj ha2).1
        have hr : R = A' ++ e :: R' := (List.cons.inj ha2).2
        have heR : e ∈ R := by rw [hr]; simp
        have hee := heach e (hmR e heR)
        unfold nxI
        rw [if_neg (by omega), if_neg (fun q => ?_)]
        · exact r.links (B ++ A') e R' (by rw [← hE, hr]; simp) k hke
        · rcases hPB k hk with ⟨p1, _⟩ | ⟨A1, e1, C1, p1, _, _, p4⟩
          · rw [p1] at q; omega
          · have he1B : e1 ∈ B := by rw [p1]; simp
            have : e = e1 := place_eq hapart (hmR e heR) (hmB e1 he1B) (by rw [q.2, p4])
            subst this
            rw [← hE, List.map_append] at hapart
            exact (List.nodup_append.1 hapart).2.2 e.p (List.mem_map_of_mem he1B) e.p (List.mem_map_of_mem heR) rfl
    · -- B = A ++ C
      cases C with
      | nil =>
        rw [List.nil_append] at hc2
        have he : e = (⟨n, c, height⟩ : En) := (List.cons.inj hc2).1
        have hr : R' = R := (List.cons.inj hc2).2
        subst he hr
        show nxI n height P nx n k = _
        unfold nxI
        rw [if_pos rfl, if_pos hke, hP k hk, hsp k hk]
      | cons x C =>
        rw [List.cons_append] at hc2
        have hx : e = x := (List.cons.inj hc2).1
        have hr : R' = C ++ ⟨n, c, height⟩ :: R := (List.cons.inj hc2).2
        subst hx
        have heB : e ∈ B := by rw [hc1]; simp
        have hee := heach e (hmB e heB)
        have hlk := r.links A e (C ++ R) (by rw [← hE, hc1]; simp) k hke
        unfold nxI
        rw [if_neg (by omega), hr]
        rcases fsL_cases k C with ⟨_, q2⟩ | ⟨C1, f, R1, q1, q2, q3, q4⟩
        · have hPe : P k = e.p := by
            rw [hP k hk, hc1, show A ++ e :: C = (A ++ [e]) ++ C by simp, lsL_app _ C q2, lsL_hit hke]
          rw [fsL_app C _ q2]
          by_cases hkh : k < height
          · rw [if_pos ⟨hkh, hPe.symm⟩, fsL_hit (e := ⟨n, c, height⟩) hkh]
          · rw [if_neg (fun q => hkh q.1), fsL_miss (e := ⟨n, c, height⟩) hkh, hlk, fsL_app C _ q2]
        · have hfC : f ∈ C := by rw [q1]; simp
          have hfp := (heach f (hmB f (by rw [hc1]; exact List.mem_append_right _ (List.mem_cons_of_mem _ hfC)))).1
          have hne : fsL k C ≠ 0 := by rw [q4]; omega
          rw [fsL_pos hne, if_neg (fun q => ?_), hlk, fsL_pos hne]
          have hin : ∃ g ∈ C, P k = g.p := by
            rw [hP k hk, hc1, show A ++ e :: C = (A ++ [e]) ++ C by simp]
            rcases lsL_cases k C with ⟨_, z⟩ | ⟨A2, g, C2, z1, z2, z3, z4⟩
            · exact absurd q3 (z f hfC)
            · refine ⟨g, by rw [z1]; simp, ?_⟩
              rw [z1, show (A ++ [e]) ++ (A2 ++ g :: C2) = ((A ++ [e]) ++ (A2 ++ [g])) ++ C2 by simp, lsL_app _ C2 z2, ← List.append_assoc, lsL_hit z3]
          obtain ⟨g, hg, hPg⟩ := hin
          have hnd := r.apart
          rw [← hE, hc1] at hnd
          simp only [List.map_append, List.map_cons, List.append_assoc, List.cons_append] at hnd
          have hnd2 := (List.nodup_cons.1 (List.nodup_append.1 hnd).2.1).1
          exact hnd2 (List.mem_append_left _ (List.mem_map.2 ⟨g, hg, by rw [q.2, hPg]⟩))
/-! ### What is told -/
def getE (key : ByteArray) (seq : Nat) (E : List En) : Option Cl := match beE key seq E with
  | e :: _ => if e.c.key.toList = key.toList then some e.c else none
  | [] => none
/-- Is it there already? -/
def hasE (c : Cl) (E : List En) : Bool := match beE c.key c.seq E with
  | e :: _ => (e.c.key.toList == c.key.toList) && decide (e.c.seq = c.seq)
  | [] => false
theorem has_none {n : Nat} {cell : Nat → Cl} {nx : Nat → Nat → Nat} {E : List En} (r : Rep n cell nx E) {c : Cl} (h : hasE c E = false) : ∀ e ∈ E, ¬ (e.c.key.toList = c.key.toList ∧ e.c.seq = c.seq) := by
  intro e he hs
  have hE := ah_be c.key c.seq E
  have hself : ahK e.c c.key c.seq = false := by rw [ahK_same hs.1, hs.2]; simp
  have heR : e ∈ beE c.key c.seq E := by
    rw [← hE] at he
    rcases List.mem_append.1 he with he | he
    · have := tw_all he
      rw [hself] at this; cases this
    · exact he
  unfold hasE at h
  have hord := r.order
  rw [← hE] at hord
  cases hb : beE c.key c.seq E with
  | nil => rw [hb] at heR; cases heR
  | cons f R =>
    rw [hb] at h heR hord
    rcases List.mem_cons.1 heR with rfl | heR
    · simp [hs.1, hs.2] at h
    · have hfe := (List.pairwise_cons.1 (List.pairwise_append.1 hord).2.1).1 e heR
      have hfn := behind_all r (key := c.key) (seq := c.seq) f (by rw [hb]; simp)
      have : ahK f.c c.key c.seq = true := by
        have h2 : lessC f.c e.c = true := hfe
        unfold lessC ahK at *
        rw [hs.1, hs.2] at h2
        exact h2
      rw [hfn] at this; cases this
theorem be_first {n : Nat} {cell : Nat → Cl} {nx : Nat → Nat → Nat} {E : List En} (r : Rep n cell nx E) (key : ByteArray) (seq : Nat) : (beE key seq E = [] ∧ nx (lsL 0 (ahE key seq E)) 0 = 0) ∨ ∃ e R, beE key seq E = e :: R ∧ nx (lsL 0 (ahE key seq E)) 0 = e.p ∧ 1 ≤ e.p ∧ e.p < n ∧ cell e.p = e.c := by
  have h0 := rep_split r key seq 0 (by decide)
  cases hb : beE key seq E with
  | nil => exact Or.inl ⟨rfl, by rw [h0, hb]; rfl⟩
  | cons e R =>
    have he := r.each e (by rw [← ah_be key seq E, hb]; simp)
    exact Or.inr ⟨e, R, rfl, by rw [h0, hb, fsL_hit (by omega)], he.1, he.2.1, he.2.2.1⟩
/-- The empty table. -/
def cl0 : Cl := ⟨⟨#[]⟩, 0, ⟨#[]⟩, false⟩
theorem rep_new : Rep 1 (fun _ => cl0) (fun _ _ => 0) [] := ⟨rfl, fun e h => (by cases h), List.nodup_nil, List.Pairwise.nil, fun k _ => rfl, fun A e R h => absurd h (by simp)⟩
/-- A later version changes nothing of what a reader is told. -/
theorem get_later {n : Nat} {cell : Nat → Cl} {nx : Nat → Nat → Nat} {E : List En} (r : Rep n cell nx E) {c : Cl} {p h : Nat} {key : ByteArray} {seq : Nat} (hs : seq < c.seq) (hnew : ∀ e ∈ E, ¬ (e.c.key.toList = c.key.toList ∧ e.c.seq = c.seq)) : getE key seq (ahE c.key c.seq E ++ ⟨p, c, h⟩ :: beE c.key c.seq E) = getE key seq E := by
  have hE := ah_be c.key c.seq E
  have hahd : ∀ e ∈ ahE c.key c.seq E, ahK e.c c.key c.seq = true := fun e he => tw_all he
  have hbeh := behind_all r (key := c.key) (seq := c.seq)
  obtain ⟨B, hB⟩ : ∃ B, ahE c.key c.seq E = B := ⟨_, rfl⟩
  obtain ⟨R, hR⟩ : ∃ R, beE c.key c.seq E = R := ⟨_, rfl⟩
  rw [hB] at hE hahd ⊢
  rw [hR] at hE hbeh ⊢
  have hlt : ∀ e ∈ R, lessC c e.c = true := fun e he => by
    rcases ahK_tri e.c c with g | g | g
    · rw [hbeh e he] at g; cases g
    · exact absurd g (hnew e (by rw [← hE]; exact List.mem_append_right _ he))
    · exact g
  rw [← hE]
  unfold getE beE
  by_cases hall : ∀ e ∈ B, ahK e.c key seq = true
  · rw [List.dropWhile_append_of_pos (by simpa using hall), List.dropWhile_append_of_pos (by simpa using hall)]
    by_cases hc : ahK c key seq = true
    · rw [List.dropWhile_cons_of_pos (by simpa using hc)]
    · rw [List.dropWhile_cons_of_neg (by simpa using hc)]
      have hck : c.key.toList ≠ key.toList := fun e => hc (by rw [ahK_same e]; simpa using hs)
      have hcl : Op.bytesLess key.toList c.key.toList = true := by
        rw [ahK_other hck] at hc
        rcases bytesLess_tri c.key.toList key.toList with g | g | g
        · exact absurd g hc
        · exact absurd g hck
        · exact g
      simp only
      rw [if_neg hck]
      cases R with
      | nil => rfl
      | cons f R =>
        have hf := hlt f (List.mem_cons_self ..)
        have hkf : Op.bytesLess key.toList f.c.key.toList = true := by
          unfold lessC at hf
          by_cases g : c.key.toList = f.c.key.toList
          · rw [← g]; exact hcl
          · rw [ahK_other g] at hf
            exact bytesLess_trans hcl hf
        have hfne : f.c.key.toList ≠ key.toList := fun e => by rw [e, bytesLess_irrefl] at hkf; cases hkf
        have hfn : ahK f.c key seq = false := by rw [ahK_other hfne]; exact bytesLess_asym hkf
        rw [List.dropWhile_cons_of_neg (by rw [hfn]; decide)]
        simp only
        rw [if_neg hfne]
  · obtain ⟨e, he, hn⟩ : ∃ e ∈ B, ¬ ahK e.c key seq = true := Classical.byContradiction fun q => hall fun e he => Classical.byContradiction fun z => q ⟨e, he, z⟩
    rw [dw_app _ he hn, dw_app _ he hn]
    cases hd : B.dropWhile (fun e => ahK e.c key seq) with
    | nil =>
      exfalso
      exact hn (dw_nil hd e he)
    | cons f F => rfl
end Go.Proofs.Ytdgmjmohfpjlnaa
