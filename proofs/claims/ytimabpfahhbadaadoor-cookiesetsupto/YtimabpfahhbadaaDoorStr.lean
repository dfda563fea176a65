/-
  Set-Cookie, the pure side: the twin's reader, and that both read the same.
-/
import Derived.Test.YtimabpfahhbadaaDoorStq
namespace Go.Proofs.YtimabpfahhbadaaDoor
open Go.RowKit
def q1 (c : Ck) (t : ByteArray) : Ck := if preW t wPath = true then { c with path := cutW t wPath } else c
def q2 (c : Ck) (t : ByteArray) : Ck := if preW t wAge = true then { c with has := true, age := (digR (cutW t wAge) 2147483647).1 } else c
def q3 (c : Ck) (t : ByteArray) : Ck := if preW t wSame = true then { c with same := cutW t wSame } else c
def q4 (c : Ck) (t : ByteArray) : Ck := { c with http := c.http || (t.toList == [72, 116, 116, 112, 79, 110, 108, 121]) }
def q5 (c : Ck) (t : ByteArray) : Ck := { c with sec := c.sec || (t.toList == [83, 101, 99, 117, 114, 101]) }
def qstep (c : Ck) (t : ByteArray) : Ck := q5 (q4 (q3 (q2 (q1 c t) t) t) t) t
theorem lit_app {w x : ByteArray} {l : List UInt8} (h : (w.data.toList ++ x.data.toList == l) = false) : ((w ++ x).toList == l) = false := by
  rw [ByteArray.toList_eq, app_list]
  exact h
theorem toList_app (w x : ByteArray) : (w ++ x).toList = w.data.toList ++ x.data.toList := by rw [ByteArray.toList_eq, app_list]
theorem qstep_word (c : Ck) {j : Nat} (hj : j < 5) (x : ByteArray) (hx : j = 2 ∨ j = 3 → x = ⟨#[]⟩) : qstep c (wordK j ++ x) = takeK c x j := by
  have f : ∀ (a b : ByteArray), Lib.hasPrefix (a.data.toList ++ x.data.toList) b.data.toList = false → preW (a ++ x) b = false := fun a b h => pre_app a x b h
  rcases (by omega : j = 0 ∨ j = 1 ∨ j = 2 ∨ j = 3 ∨ j = 4) with rfl | rfl | rfl | rfl | rfl
  · have p1 := f wPath wAge rfl
    have p2 := f wPath wSame rfl
    have p3 : ((wPath ++ x).toList == [72, 116, 116, 112, 79, 110, 108, 121]) = false := by rw [toList_app]; rfl
    have p4 : ((wPath ++ x).toList == [83, 101, 99, 117, 114, 101]) = false := by rw [toList_app]; rfl
    show qstep c (wPath ++ x) = _
    simp only [qstep, q1, q2, q3, q4, q5, pre_word, cut_word, p1, p2, p3, p4, if_true, Bool.false_eq_true, if_false, Bool.or_false, takeK]
  · have p1 := f wAge wPath rfl
    have p2 := f wAge wSame rfl
    have p3 : ((wAge ++ x).toList == [72, 116, 116, 112, 79, 110, 108, 121]) = false := by rw [toList_app]; rfl
    have p4 : ((wAge ++ x).toList == [83, 101, 99, 117, 114, 101]) = false := by rw [toList_app]; rfl
    show qstep c (wAge ++ x) = _
    simp only [qstep, q1, q2, q3, q4, q5, pre_word, cut_word, p1, p2, p3, p4, if_true, Bool.false_eq_true, if_false, Bool.or_false, takeK]
  · obtain rfl := hx (Or.inl rfl)
    have p1 := f wHttp wPath rfl
    have p2 := f wHttp wSame rfl
    have p0 := f wHttp wAge rfl
    have p3 : ((wHttp ++ (⟨#[]⟩ : ByteArray)).toList == [72, 116, 116, 112, 79, 110, 108, 121]) = true := by rw [toList_app]; rfl
    have p4 : ((wHttp ++ (⟨#[]⟩ : ByteArray)).toList == [83, 101, 99, 117, 114, 101]) = false := by rw [toList_app]; rfl
    show qstep c (wHttp ++ (⟨#[]⟩ : ByteArray)) = _
    simp only [qstep, q1, q2, q3, q4, q5, p0, p1, p2, p3, p4, Bool.false_eq_true, if_false, Bool.or_false, Bool.or_true, takeK]
  · obtain rfl := hx (Or.inr rfl)
    have p1 := f wSec wPath rfl
    have p2 := f wSec wSame rfl
    have p0 := f wSec wAge rfl
    have p3 : ((wSec ++ (⟨#[]⟩ : ByteArray)).toList == [72, 116, 116, 112, 79, 110, 108, 121]) = false := by rw [toList_app]; rfl
    have p4 : ((wSec ++ (⟨#[]⟩ : ByteArray)).toList == [83, 101, 99, 117, 114, 101]) = true := by rw [toList_app]; rfl
    show qstep c (wSec ++ (⟨#[]⟩ : ByteArray)) = _
    simp only [qstep, q1, q2, q3, q4, q5, p0, p1, p2, p3, p4, Bool.false_eq_true, if_false, Bool.or_false, Bool.or_true, takeK]
  · have p1 := f wSame wPath rfl
    have p2 := f wSame wAge rfl
    have p3 : ((wSame ++ x).toList == [72, 116, 116, 112, 79, 110, 108, 121]) = false := by rw [toList_app]; rfl
    have p4 : ((wSame ++ x).toList == [83, 101, 99, 117, 114, 101]) = false := by rw [toList_app]; rfl
    show qstep c (wSame ++ x) = _
    simp only [qstep, q1, q2, q3, q4, q5, pre_word, cut_word, p1, p2, p3, p4, if_true, Bool.false_eq_true, if_false, Bool.or_false, takeK]
theorem fold_rest (c : Ck) : ∀ (m k : Nat), k + m = 5 → (restK c k).foldl qstep (ckK c k) = ckK c 5
  | 0, k, hk => by
    obtain rfl : k = 5 := by omega
    rfl
  | m + 1, k, hk => by
    have ih := fold_rest c m (k + 1) (by omega)
    rw [rest_step c (by omega), List.foldl_append]
    rw [ckK] at ih
    cases hh : hasK c k with
    | true =>
      rw [hh, if_pos rfl] at ih
      rw [txs_has hh, List.foldl_cons, List.foldl_nil, qstep_word _ (by omega) _ (by rintro (rfl | rfl) <;> rfl)]
      exact ih
    | false =>
      rw [hh, if_neg (by decide)] at ih
      rw [txs_not hh, List.foldl_nil]
      exact ih
theorem noSem_app {a b : ByteArray} (ha : noSem a) (hb : noSem b) : noSem (a ++ b) := by
  intro c hc
  rw [app_list, List.mem_append] at hc
  rcases hc with hc | hc
  · exact ha c hc
  · exact hb c hc
theorem noSem_path {s : ByteArray} (h : pathR s = true) : noSem s := by
  unfold pathR at h
  rw [Bool.and_eq_true] at h
  refine noSem_of fun j hj e => ?_
  have := allN_all.1 h.1 j hj
  rw [e] at this
  revert this
  decide
theorem dec_sem : ∀ (n u : Nat), u ≤ n → ∀ c ∈ Lib.decDigits u, c ≠ 59
  | n, u, hn => by
    have hone : ∀ d, d < 10 → UInt8.ofNat (48 + d) ≠ 59 := fun d hd e => by
      have := congrArg UInt8.toNat e
      rw [UInt8.toNat_ofNat_of_lt' (by show 48 + d < 256; omega)] at this
      have h59 : (59 : UInt8).toNat = 59 := rfl
      omega
    by_cases h : u < 10
    · rw [Lib.decDigits_one h]
      intro c hc
      rw [List.mem_singleton] at hc
      subst hc
      exact hone u h
    · match n, hn with
      | 0, hn => omega
      | n + 1, hn =>
        have e : Lib.decDigits u = Lib.decDigits (u / 10) ++ [UInt8.ofNat (48 + u % 10)] := by rw [Lib.decDigits, dif_neg h]
        intro c hc
        rw [e, List.mem_append, List.mem_singleton] at hc
        rcases hc with hc | rfl
        · exact dec_sem n (u / 10) (by omega) c hc
        · exact hone _ (by omega)
theorem may_parts {c : Ck} (h : mayR c = true) : tokR c.name = true ∧ octR c.value = true ∧ pathR c.path = true ∧ (0 ≤ c.age ∧ c.age ≤ 2147483647) ∧ sameR c.same = true := by
  unfold mayR ageR at h
  simp only [Bool.and_eq_true, decide_eq_true_eq] at h
  exact ⟨h.1.1.1.1, h.1.1.1.2, h.1.1.2, ⟨h.1.2.1, h.1.2.2.1⟩, h.2⟩
theorem bare_oct {s : ByteArray} (h : octR s = true) : bareB s = s := by
  unfold bareB
  rw [if_neg]
  intro hm
  have hm' := of_decide_eq_true hm
  have := allN_all.1 h 0 (by omega)
  rw [hm'.2.1] at this
  revert this
  decide
theorem okP_may {c : Ck} (h : mayR c = true) : okP ⟨c.name, c.value⟩ = true := by
  obtain ⟨h1, h2, _⟩ := may_parts h
  unfold okP
  simp only
  rw [h1, bare_oct h2, h2]
  rfl
theorem noSem_word (k : Nat) : noSem (wordK k) := by
  have : ∀ j : Fin 5, ∀ x ∈ (wordK j.val).data.toList, x ≠ 59 := by decide
  match k with
  | 0 => exact this 0
  | 1 => exact this 1
  | 2 => exact this 2
  | 3 => exact this 3
  | n + 4 => exact this 4
theorem noSem_say {c : Ck} (h : mayR c = true) (k : Nat) : noSem (sayK c k) := by
  obtain ⟨_, _, h3, h4, h5⟩ := may_parts h
  match k with
  | 0 => exact noSem_path h3
  | 1 =>
    intro x hx
    rw [show sayK c 1 = itB c.age from rfl, itB_list h4.1] at hx
    exact dec_sem _ _ (Nat.le_refl _) x hx
  | 2 => exact fun x hx => by cases hx
  | 3 => exact fun x hx => by cases hx
  | n + 4 =>
    show noSem c.same
    unfold sameR at h5
    rcases of_decide_eq_true h5 with e | e | e | e <;> (rw [e]; unfold noSem; decide)
theorem txs_sem {c : Ck} (h : mayR c = true) (k : Nat) : ∀ x ∈ txs c k, noSem x := by
  intro x hx
  cases hh : hasK c k with
  | true => rw [txs_has hh, List.mem_singleton] at hx; subst hx; exact noSem_app (noSem_word k) (noSem_say h k)
  | false => rw [txs_not hh] at hx; cases hx
theorem rest_sem {c : Ck} (h : mayR c = true) : ∀ x ∈ restK c 0, noSem x := by
  intro x hx
  simp only [restK, List.mem_append] at hx
  rcases hx with hx | hx | hx | hx | hx <;> exact txs_sem h _ x hx
theorem parts_set {c : Ck} (h : mayR c = true) : parts (jn (txK c 5)) = prt ⟨c.name, c.value⟩ :: restK c 0 := by
  rw [txK_rest]
  exact parts_jn _ _ (noSem_prt (okP_may h)) (rest_sem h)
theorem setR_ok {c : Ck} {v : ByteArray} (h : setR c = (v, 0)) : mayR c = true ∧ v = jn (txK c 5) := by
  unfold setR at h
  split at h
  · rename_i hm
    exact ⟨hm, (congrArg Prod.fst h).symm⟩
  · cases h
theorem read_set {c : Ck} {v : ByteArray} (h : setR c = (v, 0)) : rsR (parts v) = c ∧ okS (prt ⟨c.name, c.value⟩) = true ∧ parts v = prt ⟨c.name, c.value⟩ :: restK c 0 ∧ (restK c 0).foldl qstep (ck0 (rdP (prt ⟨c.name, c.value⟩)).name (rdP (prt ⟨c.name, c.value⟩)).val) = c := by
  obtain ⟨hm, rfl⟩ := setR_ok h
  have hp := parts_set hm
  obtain ⟨r1, r2⟩ := rd_prt (f := ⟨c.name, c.value⟩) (may_parts hm).1
  refine ⟨?_, ?_, hp, ?_⟩
  · rw [hp, rsR, r1]
    show (rdS 5 (ck0 c.name c.value) (restK c 0)).1 = c
    rw [rdS_rest c 5 (Nat.le_refl _), ckK_all hm]
  · unfold okS
    rw [r2, r1, okP_may hm]
    rfl
  · rw [r1]
    exact (fold_rest c 5 0 rfl).trans (ckK_all hm)
def ckN : Ck := ck0 ⟨#[]⟩ ⟨#[]⟩
def psR (v : ByteArray) : Ck × Int := if setR (rsR (parts v)) = (v, 0) then (rsR (parts v), 0) else (ckN, 190)
def qrR (t : ByteArray) (r : List ByteArray) : Ck := r.foldl qstep (ck0 (rdP t).name (rdP t).val)
theorem psR_good {v : ByteArray} (h : setR (rsR (parts v)) = (v, 0)) : psR v = (rsR (parts v), 0) := by rw [psR, if_pos h]
theorem psR_bad {v : ByteArray} (h : ¬ setR (rsR (parts v)) = (v, 0)) : psR v = (ckN, 190) := by rw [psR, if_neg h]
/-- The twin's ways. -/
theorem qps_none {v t : ByteArray} {r : List ByteArray} (hp : parts v = t :: r) (h : okS t = false) : psR v = (ckN, 190) := by
  refine psR_bad fun e => ?_
  obtain ⟨c, hc⟩ : ∃ c, rsR (parts v) = c := ⟨_, rfl⟩
  rw [hc] at e
  obtain ⟨_, h2, h3, _⟩ := read_set e
  rw [hp, List.cons.injEq] at h3
  rw [h3.1, h2] at h
  cases h
theorem qps_good {v t : ByteArray} {r : List ByteArray} (h : setR (qrR t r) = (v, 0)) : psR v = (qrR t r, 0) := by
  obtain ⟨h1, _, _, _⟩ := read_set h
  rw [psR_good (by rw [h1]; exact h), h1]
theorem qps_bad {v t : ByteArray} {r : List ByteArray} (hp : parts v = t :: r) (h : ¬ setR (qrR t r) = (v, 0)) : psR v = (ckN, 190) := by
  refine psR_bad fun e => h ?_
  obtain ⟨c, hc⟩ : ∃ c, rsR (parts v) = c := ⟨_, rfl⟩
  rw [hc] at e
  obtain ⟨_, _, h3, h4⟩ := read_set e
  rw [hp, List.cons.injEq] at h3
  unfold qrR
  rw [h3.1, h3.2, h4]
  exact e
theorem set_ps {c : Ck} (h : (setR c).2 = 0) : psR (setR c).1 = (c, 0) := by
  have e : setR c = ((setR c).1, 0) := Prod.ext rfl h
  obtain ⟨h1, _⟩ := read_set e
  rw [psR_good (by rw [h1]; exact e), h1]
theorem ps_set {v : ByteArray} (h : (psR v).2 = 0) : setR (psR v).1 = (v, 0) := by
  unfold psR at h ⊢
  split at h
  · rename_i hq
    rw [if_pos hq]
    exact hq
  · cases h
theorem setR_cut (c : Ck) : (setR c).2 = 0 ∨ setR c = (⟨#[]⟩, 190) := by
  unfold setR
  split
  · exact Or.inl rfl
  · exact Or.inr rfl
end Go.Proofs.YtimabpfahhbadaaDoor
