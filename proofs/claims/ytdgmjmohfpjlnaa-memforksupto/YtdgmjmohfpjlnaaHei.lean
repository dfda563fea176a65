/-
  Heights are nobody's business: the pure side.
-/
import Derived.Test.YtdgmjmohfpjlnaaLes
import Derived.Test.YtdgmjmohfpjlnaaLvs
namespace Go.Proofs.Ytdgmjmohfpjlnaa
open Go.RowKit Go.Shelf
def getC (key : ByteArray) (seq : Nat) (L : List Cl) : Option Cl := match L.dropWhile (fun c => ahK c key seq) with
  | c :: _ => if c.key.toList = key.toList then some c else none
  | [] => none
theorem map_beE (key : ByteArray) (seq : Nat) (E : List En) : (beE key seq E).map En.c = (E.map En.c).dropWhile (fun c => ahK c key seq) := map_dropWhile En.c (fun c => ahK c key seq) E
theorem map_takeWhile {α β : Type} (f : α → β) (p : β → Bool) : ∀ l : List α, (l.takeWhile (fun a => p (f a))).map f = (l.map f).takeWhile p
  | [] => rfl
  | a :: l => by
    by_cases h : p (f a) = true
    · rw [List.takeWhile_cons_of_pos (p := fun a => p (f a)) h, List.map_cons, List.map_cons, List.takeWhile_cons_of_pos h, map_takeWhile f p l]
    · rw [List.takeWhile_cons_of_neg (p := fun a => p (f a)) h, List.map_cons, List.takeWhile_cons_of_neg h]
      rfl
theorem map_ahE (key : ByteArray) (seq : Nat) (E : List En) : (ahE key seq E).map En.c = (E.map En.c).takeWhile (fun c => ahK c key seq) := map_takeWhile En.c (fun c => ahK c key seq) E
theorem getE_eq (key : ByteArray) (seq : Nat) (E : List En) : getE key seq E = getC key seq (E.map En.c) := by
  unfold getE getC
  rw [← map_beE]
  cases beE key seq E with
  | nil => rfl
  | cons e R => rfl
def hasC (c : Cl) (L : List Cl) : Bool := match L.dropWhile (fun d => ahK d c.key c.seq) with
  | d :: _ => (d.key.toList == c.key.toList) && decide (d.seq = c.seq)
  | [] => false
theorem hasE_eq (c : Cl) (E : List En) : hasE c E = hasC c (E.map En.c) := by
  unfold hasE hasC
  rw [← map_beE]
  cases beE c.key c.seq E with
  | nil => rfl
  | cons e R => rfl
/-- Two tables that hold the same. -/
def TwoT (sa sb : St) : Prop := sa.E.map En.c = sb.E.map En.c ∧ sa.size = sb.size
theorem two_putR {sa sb : St} (h : TwoT sa sb) (c : Cl) {ha hb : Int} (h1 : 1 ≤ ha) (h2 : ha ≤ 12) (h3 : 1 ≤ hb) (h4 : hb ≤ 12) : putR c ha sa = putR c hb sb := by
  unfold putR
  rw [hasE_eq, hasE_eq, h.1, if_neg (show ¬ (ha < 1 ∨ 12 < ha) by omega), if_neg (show ¬ (hb < 1 ∨ 12 < hb) by omega)]
theorem putS_size {c : Cl} {hgt : Int} {s : St} : (putS c hgt s).size = if putR c hgt s = 0 then s.size + (c.key.size + c.val.size + 16) else s.size := by
  unfold putS
  split <;> rfl
theorem two_put {sa sb : St} (h : TwoT sa sb) (c : Cl) {ha hb : Int} (h1 : 1 ≤ ha) (h2 : ha ≤ 12) (h3 : 1 ≤ hb) (h4 : hb ≤ 12) : TwoT (putS c ha sa) (putS c hb sb) := by
  have hr := two_putR h c h1 h2 h3 h4
  refine ⟨?_, by rw [putS_size, putS_size, hr, h.2]⟩
  rw [putS_E, putS_E, hr]
  split
  · rw [List.map_append, List.map_append, List.map_cons, List.map_cons, map_ahE, map_ahE, map_beE, map_beE, h.1]
  · exact h.1
theorem lvl_len (k : Nat) (E : List En) : (lvl k E).length = (E.filter (fun e => decide (k < e.h))).length := by unfold lvl; rw [List.length_map]
theorem lvl_mono (k : Nat) : ∀ E : List En, (lvl (k + 1) E).length ≤ (lvl k E).length
  | [] => Nat.le_refl _
  | e :: E => by
    have ih := lvl_mono k E
    rw [lvl_len, lvl_len] at ih ⊢
    by_cases h : k + 1 < e.h
    · rw [List.filter_cons_of_pos (by simpa using h), List.filter_cons_of_pos (by simp; omega)]
      simpa using ih
    · rw [List.filter_cons_of_neg (by simpa using h)]
      by_cases h2 : k < e.h
      · rw [List.filter_cons_of_pos (by simpa using h2), List.length_cons]; omega
      · rw [List.filter_cons_of_neg (by simpa using h2)]; exact ih
theorem lvl_pos {k : Nat} {E : List En} (h : fsL k E ≠ 0) : 1 ≤ (lvl k E).length := by
  rcases fsL_cases k E with ⟨h1, _⟩ | ⟨C, e, R, h1, _, h3, _⟩
  · exact absurd h1 h
  · rw [h1, lvl_app, lvl_hit h3, List.length_append, List.length_cons]
    omega
theorem tw_range (p : Nat → Bool) (n i : Nat) (h : i < ((List.range n).takeWhile p).length) : ((List.range n).takeWhile p)[i]? = some i ∧ p i = true := by
  have hp := List.takeWhile_prefix (l := List.range n) p
  have e1 : ((List.range n).takeWhile p)[i]? = (List.range n)[i]? := by
    obtain ⟨R, hR⟩ := hp
    conv => rhs; rw [← hR]
    rw [List.getElem?_append_left h]
  have hn : i < n := by
    have := hp.length_le
    rw [List.length_range] at this
    omega
  rw [List.getElem?_range hn] at e1
  refine ⟨e1, ?_⟩
  have hm : i ∈ (List.range n).takeWhile p := List.mem_of_getElem? e1
  exact tw_mem hm
theorem levR_at {E : List En} {i : Nat} (h : i < (levR E).length) : (levR E)[i]? = some (lvl i E).length ∧ 1 ≤ (lvl i E).length := by
  unfold levR at h ⊢
  rw [List.length_map] at h
  obtain ⟨h1, h2⟩ := tw_range _ _ _ h
  rw [List.getElem?_map, h1]
  exact ⟨rfl, lvl_pos (by simpa using h2)⟩
theorem levR_len {E : List En} : (levR E).length ≤ 12 := by
  unfold levR
  rw [List.length_map]
  refine Nat.le_trans (List.takeWhile_prefix _).length_le ?_
  rw [List.length_range]
  exact Nat.le_refl _
theorem lvl_zero {E : List En} (h : ∀ e ∈ E, 1 ≤ e.h) : (lvl 0 E).length = E.length := by
  unfold lvl
  rw [List.length_map, List.filter_eq_self.2 (fun e he => by have := h e he; simp; omega)]
theorem levR_nil {E : List En} {n : Nat} {cell : Nat → Cl} {nx : Nat → Nat → Nat} (r : Rep n cell nx E) : ((levR E).length = 0 ↔ E.length = 0) ∧ (0 < (levR E).length → (levR E)[0]? = some E.length) := by
  have hh : ∀ e ∈ E, 1 ≤ e.h := fun e he => (r.each e he).2.2.2.1
  refine ⟨⟨fun h => ?_, fun h => ?_⟩, fun h => ?_⟩
  · cases hE : E with
    | nil => rfl
    | cons e R =>
      exfalso
      have he := r.each e (by rw [hE]; exact List.mem_cons_self ..)
      have hf : fsL 0 E ≠ 0 := by rw [hE, fsL_hit (by omega)]; omega
      unfold levR at h
      rw [List.length_map, List.length_eq_zero_iff, show List.range 12 = 0 :: (List.range 12).tail from rfl, List.takeWhile_cons_of_pos (by simpa using hf)] at h
      cases h
  · have : E = [] := List.length_eq_zero_iff.1 h
    rw [this]
    rfl
  · rw [(levR_at h).1, lvl_zero hh]
end Go.Proofs.Ytdgmjmohfpjlnaa
