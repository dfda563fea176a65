/-
  What the twin reads, of a form: the pure side.
-/
import Derived.Test.YtdkbgbhcnbmlfaaDoorSnd
import Derived.Test.YtdkbgbhcnbmlfaaDoorQnm
namespace Go.Proofs.YtdkbgbhcnbmlfaaDoor
open Go.RowKit
abbrev RQ := Rp × Nat × Int
def badQ (e : Int) : RQ := (rpl0 0, 0, e)
def misQ (m t : List UInt8) : RQ := badQ (if m.isPrefixOf t = true then 20 else 180)
/-- A line, and then what comes. -/
def thenQ (t m : List UInt8) (k : List UInt8 → RQ) : RQ := if t.isPrefixOf m = true then k (m.drop t.length) else misQ m t
def endT (cl : Bool) : List UInt8 := clP cl ++ crlf.data.toList
def endQ (a sz : Nat) (r : Rp) (m : List UInt8) : RQ := thenQ (endT r.close) m fun m' => if m'.length < sz then badQ 20 else ({ r with body := m'.take sz }, a + (endT r.close).length + sz, 0)
def ckQ (a sz : Nat) (r : Rp) (m : List UInt8) : RQ := if 256 < inC m then badQ 180 else if inC m = m.length then badQ 20 else if inC m = 0 then badQ 180 else thenQ crlf.data.toList (m.drop (inC m)) fun m' => endQ (a + inC m + 2) sz { r with cookie := m.take (inC m) } m'
def cokQ (a sz : Nat) (r : Rp) (cook : Bool) (m : List UInt8) : RQ := if cook = true then thenQ (opn 2).data.toList m (fun m' => ckQ (a + 12) sz r m') else endQ a sz r m
def badN (body : Bool) (n k : Nat) (c : Option UInt8) : Bool := decide (k = 0) || decide (5 < k) || (decide (1 < k) && decide (c = some 48)) || decide (65536 < n) || (body == decide (n = 0))
def sizQ (a : Nat) (r : Rp) (body cook : Bool) (m : List UInt8) : RQ := if badN body (numG m 0 0).1 (numG m 0 0).2 m.head? = true then (if (numG m 0 0).2 = 0 ∧ m = [] then badQ 20 else badQ 180) else if (numG m 0 0).2 = m.length then badQ 20 else thenQ crlf.data.toList (m.drop (numG m 0 0).2) fun m' => cokQ (a + (numG m 0 0).2 + 2) (numG m 0 0).1 r cook m'
def hedQ (z : Int) (body : Bool) : List UInt8 := (lnS z (wordsR z)).data.toList ++ ((if body = true then (opn 0).data.toList else []) ++ (if z = 204 then [] else (opn 1).data.toList))
def rdQ (z : Int) (body cook cl : Bool) (l : List UInt8) : RQ := if z = 204 ∧ body = true then badQ 180 else thenQ (hedQ z body) l fun m => if z = 204 then cokQ (hedQ z body).length 0 ⟨z, [], [], cl⟩ cook m else sizQ (hedQ z body).length ⟨z, [], [], cl⟩ body cook m
/-! ### What is read is what is written so -/
def SQ (P : Rp → List UInt8 → Prop) (m : List UInt8) (a : Nat) (R : RQ) : Prop := (R.2.2 = 0 ∧ ∃ b q, P R.1 b ∧ m = b ++ q ∧ R.2.1 = a + b.length) ∨ (R = badQ 20 ∧ ∃ r b, P r b ∧ Cut m b) ∨ R = badQ 180
theorem SQ.pre {P P' : Rp → List UInt8 → Prop} {m : List UInt8} {a a' : Nat} {R : RQ} (h : SQ P m a R) (A : List UInt8) (f : ∀ r b, P r b → P' r (A ++ b)) (ha : a = a' + A.length) : SQ P' (A ++ m) a' R := by
  rcases h with ⟨e, b, q, hb, rfl, hn⟩ | ⟨e, r, b, hb, c⟩ | e
  · exact Or.inl ⟨e, A ++ b, q, f _ _ hb, by rw [List.append_assoc], by rw [hn, List.length_append]; omega⟩
  · exact Or.inr (Or.inl ⟨e, r, A ++ b, f _ _ hb, cut_on A c⟩)
  · exact Or.inr (Or.inr e)
theorem then_inv {P P' : Rp → List UInt8 → Prop} {t m : List UInt8} {a : Nat} {k : List UInt8 → RQ} (hk : ∀ m', SQ P m' (a + t.length) (k m')) (f : ∀ r b, P r b → P' r (t ++ b)) (hx : ∃ r b, P' r (t ++ b)) : SQ P' m a (thenQ t m k) := by
  unfold thenQ
  by_cases h : t.isPrefixOf m = true
  · rw [if_pos h]
    obtain ⟨m', rfl⟩ := List.isPrefixOf_iff_prefix.1 h
    rw [List.drop_left]
    exact (hk m').pre t f rfl
  · rw [if_neg h]
    unfold misQ
    by_cases g : m.isPrefixOf t = true
    · rw [if_pos g]
      obtain ⟨r, b, hb⟩ := hx
      exact Or.inr (Or.inl ⟨rfl, r, _, hb, cut_more (cut_of g h) _⟩)
    · rw [if_neg g]
      exact Or.inr (Or.inr rfl)
def QE (sz : Nat) (r r' : Rp) (b : List UInt8) : Prop := ∃ s : List UInt8, s.length = sz ∧ r' = { r with body := s } ∧ b = endT r.close ++ s
theorem end_inv (a sz : Nat) (r : Rp) (m : List UInt8) : SQ (QE sz r) m a (endQ a sz r m) := by
  unfold endQ
  refine then_inv (P := fun r' b => b.length = sz ∧ r' = { r with body := b }) (fun m' => ?_) (fun r' b hb => ⟨b, hb.1, hb.2, rfl⟩) ⟨_, _, List.replicate sz 0, by simp, rfl, rfl⟩
  by_cases h : m'.length < sz
  · rw [if_pos h]
    exact Or.inr (Or.inl ⟨rfl, _, m' ++ List.replicate (sz - m'.length) 0, ⟨by simp; omega, rfl⟩, List.prefix_append _ _, by simp; omega⟩)
  · rw [if_neg h]
    exact Or.inl ⟨rfl, m'.take sz, m'.drop sz, ⟨by rw [List.length_take]; omega, rfl⟩, (List.take_append_drop _ _).symm, by rw [List.length_take, Nat.min_eq_left (by omega)]⟩
theorem end_len (cl : Bool) (s : List UInt8) : endT cl ++ s = clP cl ++ (crlf.data.toList ++ s) := by unfold endT; rw [List.append_assoc]
theorem QE.any (sz : Nat) (r : Rp) : QE sz r { r with body := List.replicate sz 0 } (endT r.close ++ List.replicate sz 0) := ⟨_, by simp, rfl, rfl⟩
def QC (sz : Nat) (r r' : Rp) (b : List UInt8) : Prop := ∃ k s : List UInt8, k ≠ [] ∧ inC k = k.length ∧ k.length ≤ 256 ∧ s.length = sz ∧ r' = { r with body := s, cookie := k } ∧ b = k ++ (crlf.data.toList ++ (endT r.close ++ s))
theorem ck_inv (a sz : Nat) (r : Rp) (m : List UInt8) : SQ (QC sz r) m a (ckQ a sz r m) := by
  unfold ckQ
  by_cases h1 : 256 < inC m
  · rw [if_pos h1]; exact Or.inr (Or.inr rfl)
  rw [if_neg h1]
  have hle := inC_le m
  have hself := inC_self m
  have hlen : (m.take (inC m)).length = inC m := by rw [List.length_take]; omega
  by_cases h2 : inC m = m.length
  · rw [if_pos h2]
    refine Or.inr (Or.inl ⟨rfl, ?_⟩)
    by_cases h3 : m = []
    · subst h3
      exact ⟨_, _, ⟨[65], List.replicate sz 0, by simp, by decide, by decide, by simp, rfl, rfl⟩, List.nil_prefix, by simp⟩
    · exact ⟨_, _, ⟨m, List.replicate sz 0, h3, h2, by omega, by simp, rfl, rfl⟩, List.prefix_append _ _, by simp [crlf]⟩
  rw [if_neg h2]
  by_cases h3 : inC m = 0
  · rw [if_pos h3]; exact Or.inr (Or.inr rfl)
  rw [if_neg h3]
  have hne : m.take (inC m) ≠ [] := fun c => by
    have := congrArg List.length c
    rw [hlen] at this
    exact h3 this
  have := then_inv (P := QE sz { r with cookie := m.take (inC m) }) (P' := fun r' b => QC sz r r' (m.take (inC m) ++ b)) (t := crlf.data.toList) (m := m.drop (inC m)) (a := a + inC m) (fun m' => end_inv (a + inC m + 2) sz { r with cookie := m.take (inC m) } m') (fun r' b hb => by
    obtain ⟨s, q1, rfl, rfl⟩ := hb
    exact ⟨m.take (inC m), s, hne, by rw [hself, hlen], by rw [hlen]; omega, q1, rfl, rfl⟩) ⟨_, _, m.take (inC m), List.replicate sz 0, hne, by rw [hself, hlen], by rw [hlen]; omega, by simp, rfl, rfl⟩
  have h4 := this.pre (P' := QC sz r) (m.take (inC m)) (fun r' b hb => hb) (by rw [hlen])
  rw [List.take_append_drop] at h4
  exact h4
theorem cokQ_inv (a sz : Nat) (r : Rp) (hk0 : r.cookie = []) (cook : Bool) (m : List UInt8) : SQ (P2 sz { r with close := false }) m a (cokQ a sz r cook m) := by
  unfold cokQ
  cases cook with
  | true =>
    rw [if_pos rfl]
    refine then_inv (P := QC sz r) (fun m' => ck_inv _ _ _ _) (fun r' b hb => ?_) ⟨_, _, List.replicate sz 0, r.close, [65], by simp, by decide, by decide, rfl, by rw [ckP_ne (by simp), List.append_assoc]⟩
    obtain ⟨k, s, g1, g2, g3, g4, rfl, rfl⟩ := hb
    exact ⟨s, r.close, k, g4, g2, g3, rfl, by rw [ckP_ne g1, end_len]; simp only [List.append_assoc]⟩
  | false =>
    rw [if_neg (by decide)]
    have := (end_inv a sz r m).pre (P' := P2 sz { r with close := false }) (a' := a) [] (fun r' b hb => ?_) rfl
    · exact this
    · obtain ⟨s, g1, rfl, rfl⟩ := hb
      exact ⟨s, r.close, [], g1, rfl, by simp, by rw [hk0], by rw [end_len]; rfl⟩
theorem numG_on : ∀ (cs : List UInt8) (n k : Nat), ∃ j, j ≤ cs.length ∧ (numG cs n k).2 = k + j ∧ (j = 0 → (numG cs n k).1 = n) ∧ (1 ≤ n → 1 ≤ (numG cs n k).1 ∧ Lib.decDigits (numG cs n k).1 = Lib.decDigits n ++ cs.take j)
  | [], n, k => ⟨0, by simp, rfl, fun _ => rfl, fun h => ⟨h, by simp [numG]⟩⟩
  | c :: cs, n, k => by
    rw [numG]
    by_cases h : k < 6 ∧ 48 ≤ c.toNat ∧ c.toNat ≤ 57
    · rw [if_pos h]
      obtain ⟨d, hd⟩ : ∃ d, c.toNat - 48 = d := ⟨_, rfl⟩
      have hce : c = UInt8.ofNat (48 + d) := by
        rw [show 48 + d = c.toNat by omega]
        exact UInt8.ofNat_toNat.symm
      rw [hd]
      obtain ⟨j, h1, h2, h3, h4⟩ := numG_on cs (10 * n + d) (k + 1)
      refine ⟨j + 1, by simp; omega, by omega, fun q => by omega, fun q => ?_⟩
      obtain ⟨g1, g2⟩ := h4 (by omega)
      refine ⟨g1, ?_⟩
      rw [g2, dec_more q (by omega), List.take_succ_cons, hce, List.append_assoc]
      rfl
    · rw [if_neg h]
      exact ⟨0, by simp, rfl, fun _ => rfl, fun q => ⟨q, by simp⟩⟩
inductive NumI (m : List UInt8) (R : Nat × Nat) : Prop
  | none (h : R.2 = 0)
  | long (h : m.head? = some 48) (h1 : 1 < R.2)
  | some (h : 1 ≤ R.2) (hl : R.2 ≤ m.length) (q : m.take R.2 = Lib.decDigits R.1)
theorem num_inv (m : List UInt8) : NumI m (numG m 0 0) := by
  cases m with
  | nil => exact .none rfl
  | cons c cs =>
    rw [numG]
    by_cases h : 0 < 6 ∧ 48 ≤ c.toNat ∧ c.toNat ≤ 57
    · rw [if_pos h, Nat.mul_zero, Nat.zero_add, Nat.zero_add]
      obtain ⟨d, hd⟩ : ∃ d, c.toNat - 48 = d := ⟨_, rfl⟩
      have hce : c = UInt8.ofNat (48 + d) := by
        rw [show 48 + d = c.toNat by omega]
        exact UInt8.ofNat_toNat.symm
      rw [hd]
      have e1 : Lib.decDigits d = [UInt8.ofNat (48 + d)] := Lib.decDigits_one (by omega)
      obtain ⟨j, h1, h2, h3, h4⟩ := numG_on cs d 1
      by_cases hz : d = 0
      · subst hz
        by_cases hj : j = 0
        · subst hj
          refine .some (by omega) (by rw [h2]; simp) ?_
          rw [h2, h3 rfl, e1, hce]
          rfl
        · exact .long (by rw [hce]; rfl) (by omega)
      · obtain ⟨g1, g2⟩ := h4 (by omega)
        refine .some (by omega) (by rw [h2, List.length_cons]; omega) ?_
        rw [g2, h2, Nat.add_comm 1 j, List.take_succ_cons, e1, hce]
        rfl
    · rw [if_neg h]
      exact .none rfl
def QS (body : Bool) (r r' : Rp) (b : List UInt8) : Prop := ∃ (sz : Nat) (X : List UInt8), sz ≤ 65536 ∧ body = !decide (sz = 0) ∧ P2 sz { r with close := false } r' X ∧ b = Lib.decDigits sz ++ (crlf.data.toList ++ X)
theorem QS.any (body : Bool) (r : Rp) : ∃ r' b, QS body r r' b ∧ 0 < b.length := by
  cases body with
  | true => exact ⟨_, _, ⟨1, _, by decide, rfl, P2.any 1 _ false [] rfl (by simp), rfl⟩, by simp [crlf]; omega⟩
  | false => exact ⟨_, _, ⟨0, _, by decide, rfl, P2.any 0 _ false [] rfl (by simp), rfl⟩, by simp [crlf]; omega⟩
theorem sizQ_inv (a : Nat) (r : Rp) (hk0 : r.cookie = []) (body cook : Bool) (m : List UInt8) : SQ (QS body r) m a (sizQ a r body cook m) := by
  unfold sizQ
  have hN := num_inv m
  obtain ⟨⟨n, k⟩, hR⟩ : ∃ R, numG m 0 0 = R := ⟨_, rfl⟩
  rw [hR] at hN ⊢
  simp only
  by_cases hb : badN body n k m.head? = true
  · rw [if_pos hb]
    by_cases hz : k = 0 ∧ m = []
    · rw [if_pos hz]
      obtain ⟨r', b, h1, h2⟩ := QS.any body r
      refine Or.inr (Or.inl ⟨rfl, r', b, h1, ?_⟩)
      rw [hz.2]
      exact ⟨List.nil_prefix, h2⟩
    · rw [if_neg hz]
      exact Or.inr (Or.inr rfl)
  · rw [if_neg hb]
    unfold badN at hb
    simp only [Bool.or_eq_true, Bool.and_eq_true, decide_eq_true_eq, beq_iff_eq, not_or, not_and] at hb
    obtain ⟨⟨⟨⟨b1, b2⟩, b3⟩, b4⟩, b5⟩ := hb
    have b6 : body = !decide (n = 0) := by
      cases body <;> cases hx : decide (n = 0) <;> simp_all
    cases hN with
    | none h => exact absurd h b1
    | long h h1 => exact absurd h (b3 h1)
    | some h hl q =>
      simp only at h hl q
      have hlen : (Lib.decDigits n).length = k := by rw [← q, List.length_take]; omega
      by_cases hk : k = m.length
      · rw [if_pos hk]
        rw [hk, List.take_length] at q
        refine Or.inr (Or.inl ⟨rfl, _, _, ⟨n, _, by omega, b6, P2.any n _ false [] rfl (by simp), rfl⟩, ?_⟩)
        rw [q]
        exact ⟨List.prefix_append _ _, by simp [crlf]⟩
      · rw [if_neg hk]
        have := then_inv (P := P2 n { r with close := false }) (P' := fun r' b => QS body r r' (Lib.decDigits n ++ b)) (t := crlf.data.toList) (m := m.drop k) (a := a + k) (fun m' => cokQ_inv (a + k + 2) n r hk0 cook m') (fun r' b hb => ⟨n, b, by omega, b6, hb, rfl⟩) ⟨_, _, n, _, by omega, b6, P2.any n _ false [] rfl (by simp), rfl⟩
        have h4 := this.pre (P' := QS body r) (a' := a) (m.take k) (fun r' b hb => by rw [q]; exact hb) (by rw [q, hlen])
        rw [List.take_append_drop] at h4
        exact h4
theorem hed_204 : hedQ 204 false = (lnS 204 (wordsR 204)).data.toList := by unfold hedQ; simp
theorem QS.up {body : Bool} {z : Int} {cl : Bool} (hz : z ∈ sts) (hn : ¬ z = 204) {r' : Rp} {b : List UInt8} (h : QS body ⟨z, [], [], cl⟩ r' b) : PW r' (hedQ z body ++ b) := by
  obtain ⟨sz, X, h1, h2, h3, rfl⟩ := h
  have hp : PS body (rpl0 z) r' (lnP sz ++ X) := ⟨sz, X, h1, h2, h3, rfl⟩
  unfold hedQ
  rw [if_neg hn]
  cases body with
  | true =>
    have := PW.of0 hz hn (P0.of_true hp)
    unfold lnP at this
    simp only [List.append_assoc] at this ⊢
    exact this
  | false =>
    have := PW.of0 hz hn (P0.of_false hp)
    unfold lnP at this
    simp only [List.append_assoc] at this ⊢
    exact this
theorem rdQ_inv {z : Int} (hz : z ∈ sts) (body cook cl : Bool) (l : List UInt8) : SQ PW l 0 (rdQ z body cook cl l) := by
  unfold rdQ
  by_cases h0 : z = 204 ∧ body = true
  · rw [if_pos h0]; exact Or.inr (Or.inr rfl)
  rw [if_neg h0]
  by_cases hn : z = 204
  · subst hn
    have hb : body = false := by cases body <;> simp_all
    subst hb
    rw [hed_204]
    simp only [if_true]
    refine then_inv (P := P2 0 (rpl0 204)) (fun m => ?_) (fun r b hb => PW.of2 hb) ⟨_, _, PW.of2 (P2.any 0 (rpl0 204) false [] rfl (by simp))⟩
    rw [Nat.zero_add]
    exact cokQ_inv _ 0 ⟨204, [], [], cl⟩ rfl cook m
  · simp only [if_neg hn]
    obtain ⟨r', b, h1, _⟩ := QS.any body ⟨z, [], [], cl⟩
    refine then_inv (P := QS body ⟨z, [], [], cl⟩) (fun m => ?_) (fun r b hb => QS.up hz hn hb) ⟨_, _, QS.up hz hn h1⟩
    rw [Nat.zero_add]
    exact sizQ_inv _ ⟨z, [], [], cl⟩ rfl body cook m
end Go.Proofs.YtdkbgbhcnbmlfaaDoor
