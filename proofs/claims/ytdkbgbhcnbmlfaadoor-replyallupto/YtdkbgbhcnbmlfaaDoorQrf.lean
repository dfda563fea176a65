/-
  What is written is read by the twin in its own form, and what is cut off is told to be: the pure side.
-/
import Derived.Test.YtdkbgbhcnbmlfaaDoorQrd
namespace Go.Proofs.YtdkbgbhcnbmlfaaDoor
open Go.RowKit
theorem then_full (t m : List UInt8) (k : List UInt8 → RQ) : thenQ t (t ++ m) k = k m := by
  unfold thenQ
  rw [if_pos (List.isPrefixOf_iff_prefix.2 (List.prefix_append _ _)), List.drop_left]
theorem then_cut {t X l : List UInt8} {k : List UInt8 → RQ} (hc : Cut l (t ++ X)) (h : ∀ m, Cut m X → (k m).2.2 = 20) : (thenQ t l k).2.2 = 20 := by
  rcases cut_app hc with g | ⟨m, rfl, hm⟩
  · unfold thenQ
    rw [if_neg (fun q => by have := (List.isPrefixOf_iff_prefix.1 q).length_le; have := g.2; omega)]
    unfold misQ
    rw [if_pos (List.isPrefixOf_iff_prefix.2 g.1)]
    rfl
  · rw [then_full]
    exact h m hm
theorem end_full (a : Nat) (r : Rp) (s q : List UInt8) : endQ a s.length r (endT r.close ++ (s ++ q)) = ({ r with body := s }, a + (endT r.close ++ s).length, 0) := by
  unfold endQ
  rw [then_full, if_neg (by rw [List.length_append]; omega), List.take_left, List.length_append, Nat.add_assoc]
theorem end_cut (a : Nat) (r : Rp) {s l : List UInt8} (h : Cut l (endT r.close ++ s)) : (endQ a s.length r l).2.2 = 20 := by
  unfold endQ
  refine then_cut h (fun m hm => ?_)
  rw [if_pos hm.2]
  rfl
theorem crlf_13 (Y : List UInt8) : crlf.data.toList ++ Y = 13 :: 10 :: Y := rfl
theorem ck_full (a : Nat) (r : Rp) {k : List UInt8} (hn : k ≠ []) (hk : inC k = k.length) (hl : k.length ≤ 256) (s q : List UInt8) : ckQ a s.length r (k ++ (crlf.data.toList ++ (endT r.close ++ (s ++ q)))) = ({ r with body := s, cookie := k }, a + (k ++ (crlf.data.toList ++ (endT r.close ++ s))).length, 0) := by
  have h1 : inC (k ++ (crlf.data.toList ++ (endT r.close ++ (s ++ q)))) = k.length := by rw [crlf_13]; exact inC_app k _ hk
  have hp := List.length_pos_iff.2 hn
  unfold ckQ
  rw [h1, if_neg (by omega), if_neg (by simp [crlf]), if_neg (by omega), List.drop_left, then_full, List.take_left]
  rw [end_full (a + k.length + 2) { r with cookie := k } s q]
  simp only [List.length_append]
  have : crlf.data.toList.length = 2 := rfl
  rw [this]
  refine congrArg (Prod.mk _) (congrArg (fun x => (x, (0 : Int))) ?_)
  omega
theorem ck_cut (a : Nat) (r : Rp) {k : List UInt8} (hn : k ≠ []) (hk : inC k = k.length) (hl : k.length ≤ 256) {s l : List UInt8} (h : Cut l (k ++ (crlf.data.toList ++ (endT r.close ++ s)))) : (ckQ a s.length r l).2.2 = 20 := by
  have hp := List.length_pos_iff.2 hn
  rcases cut_app h with g | ⟨m, rfl, hm⟩
  · have h1 := inC_pre l k g.1 hk
    unfold ckQ
    have := g.2
    rw [if_neg (by omega), if_pos h1]
    rfl
  · cases m with
    | nil =>
      rw [List.append_nil]
      unfold ckQ
      rw [if_neg (by omega), if_pos hk]
      rfl
    | cons c m =>
      have hc : c = 13 := by
        have := hm.1
        rw [crlf_13, List.cons_prefix_cons] at this
        exact this.1
      subst hc
      have h1 : inC (k ++ 13 :: m) = k.length := inC_app k _ hk
      unfold ckQ
      rw [h1, if_neg (by omega), if_neg (by simp), if_neg (by omega), List.drop_left, List.take_left]
      exact then_cut hm (fun m' h' => end_cut _ { r with cookie := k } h')
theorem cokQ_full (a : Nat) (r : Rp) (hk0 : r.cookie = []) {k : List UInt8} (hk : inC k = k.length) (hl : k.length ≤ 256) (s q : List UInt8) : cokQ a s.length r (!k.isEmpty) (ckP k ++ (endT r.close ++ (s ++ q))) = ({ r with body := s, cookie := k }, a + (ckP k ++ (endT r.close ++ s)).length, 0) := by
  cases k with
  | nil =>
    show endQ a s.length r (endT r.close ++ (s ++ q)) = _
    rw [end_full]
    refine congrArg (fun x => (x, _)) ?_
    rw [← hk0]
  | cons c k =>
    have hn : c :: k ≠ [] := by simp
    rw [ckP_ne hn, List.append_assoc, List.append_assoc]
    unfold cokQ
    rw [if_pos (show (!(c :: k).isEmpty) = true from rfl), then_full, ck_full _ _ hn hk hl]
    simp only [List.length_append]
    have : (opn 2).data.toList.length = 12 := rfl
    rw [this]
    refine congrArg (Prod.mk _) (congrArg (fun x => (x, (0 : Int))) ?_)
    omega
theorem cokQ_cut (a : Nat) (r : Rp) {k : List UInt8} (hk : inC k = k.length) (hl : k.length ≤ 256) {s l : List UInt8} (h : Cut l (ckP k ++ (endT r.close ++ s))) : (cokQ a s.length r (!k.isEmpty) l).2.2 = 20 := by
  cases k with
  | nil => exact end_cut a r h
  | cons c k =>
    have hn : c :: k ≠ [] := by simp
    rw [ckP_ne hn, List.append_assoc, List.append_assoc] at h
    exact then_cut h (fun m hm => ck_cut _ _ hn hk hl hm)
theorem numG_dec : ∀ (n u : Nat), u ≤ n → ∀ (Z : List UInt8) (i : Nat), i + (Lib.decDigits u).length ≤ 6 → numG (Lib.decDigits u ++ Z) 0 i = numG Z u (i + (Lib.decDigits u).length)
  | 0, u, h, Z, i, hi => by
    obtain rfl : u = 0 := by omega
    rw [Lib.decDigits_one (by omega)] at hi ⊢
    simp only [List.length_cons, List.length_nil] at hi
    show numG (UInt8.ofNat (48 + 0) :: Z) 0 i = _
    rw [numG, if_pos ⟨by omega, by decide, by decide⟩]
    rfl
  | n + 1, u, h, Z, i, hi => by
    by_cases g : u < 10
    · rw [Lib.decDigits_one g] at hi ⊢
      simp only [List.length_cons, List.length_nil] at hi
      have hd := digit_nat g
      show numG (UInt8.ofNat (48 + u) :: Z) 0 i = _
      rw [numG, if_pos ⟨by omega, by omega, by omega⟩, hd, show 10 * 0 + (48 + u - 48) = u by omega]
      rfl
    · have e : Lib.decDigits u = Lib.decDigits (u / 10) ++ [UInt8.ofNat (48 + u % 10)] := by rw [Lib.decDigits, dif_neg g]
      rw [e, List.length_append] at hi
      simp only [List.length_cons, List.length_nil] at hi
      rw [e, List.append_assoc, numG_dec n (u / 10) (by omega) _ i (by omega)]
      have hd := digit_nat (u := u % 10) (by omega)
      show numG (UInt8.ofNat (48 + u % 10) :: Z) _ _ = _
      rw [numG, if_pos ⟨by omega, by omega, by omega⟩, hd, List.length_append]
      show numG Z _ _ = numG Z u _
      rw [show 10 * (u / 10) + (48 + u % 10 - 48) = u by omega]
      rfl
theorem dec_len : ∀ (j u : Nat), 1 ≤ j → u < 10 ^ j → (Lib.decDigits u).length ≤ j
  | 0, u, h, _ => by omega
  | j + 1, u, h, hu => by
    by_cases g : u < 10
    · rw [Lib.decDigits_one g]; simp
    · have e : Lib.decDigits u = Lib.decDigits (u / 10) ++ [UInt8.ofNat (48 + u % 10)] := by rw [Lib.decDigits, dif_neg g]
      have hj : 1 ≤ j := by
        rcases Nat.eq_zero_or_pos j with q | q
        · subst q; simp at hu; omega
        · exact q
      have := dec_len j (u / 10) hj (by rw [Nat.pow_succ] at hu; omega)
      rw [e, List.length_append]
      simp only [List.length_cons, List.length_nil]
      omega
theorem dec_head : ∀ (n u : Nat), u ≤ n → 1 ≤ u → ∀ Z : List UInt8, (Lib.decDigits u ++ Z).head? ≠ some 48
  | 0, u, h, h1, Z => by omega
  | n + 1, u, h, h1, Z => by
    by_cases g : u < 10
    · rw [Lib.decDigits_one g]
      intro q
      have q2 : UInt8.ofNat (48 + u) = 48 := by simpa using q
      have := congrArg UInt8.toNat q2
      rw [digit_nat g] at this
      have h48 : (48 : UInt8).toNat = 48 := rfl
      omega
    · have e : Lib.decDigits u = Lib.decDigits (u / 10) ++ [UInt8.ofNat (48 + u % 10)] := by rw [Lib.decDigits, dif_neg g]
      rw [e, List.append_assoc]
      exact dec_head n (u / 10) (by omega) (by omega) _
theorem badN_dec {u : Nat} (h : u ≤ 65536) (Z : List UInt8) : badN (!decide (u = 0)) u (Lib.decDigits u).length (Lib.decDigits u ++ Z).head? = false := by
  have h1 := dec_len 5 u (by omega) (by omega)
  have h0 := List.length_pos_iff.2 (dec_ne u)
  have h2 : ¬ (1 < (Lib.decDigits u).length ∧ (Lib.decDigits u ++ Z).head? = some 48) := by
    rintro ⟨q1, q2⟩
    by_cases g : u = 0
    · subst g
      rw [Lib.decDigits_one (by omega)] at q1
      simp at q1
    · exact dec_head u u (Nat.le_refl _) (by omega) Z q2
  unfold badN
  rw [Bool.eq_false_iff]
  intro q
  simp only [Bool.or_eq_true, Bool.and_eq_true, decide_eq_true_eq, beq_iff_eq] at q
  rcases q with (((q | q) | q) | q) | q
  · omega
  · omega
  · exact h2 q
  · omega
  · cases hx : decide (u = 0) <;> simp [hx] at q
theorem sizQ_full (a : Nat) (r : Rp) (hk0 : r.cookie = []) {k : List UInt8} (hk : inC k = k.length) (hl : k.length ≤ 256) {s : List UInt8} (hs : s.length ≤ 65536) (q : List UInt8) : sizQ a r (!decide (s.length = 0)) (!k.isEmpty) (Lib.decDigits s.length ++ (crlf.data.toList ++ (ckP k ++ (endT r.close ++ (s ++ q))))) = ({ r with body := s, cookie := k }, a + (Lib.decDigits s.length ++ (crlf.data.toList ++ (ckP k ++ (endT r.close ++ s)))).length, 0) := by
  have h1 := dec_len 5 s.length (by omega) (by omega)
  have hN : numG (Lib.decDigits s.length ++ (crlf.data.toList ++ (ckP k ++ (endT r.close ++ (s ++ q))))) 0 0 = (s.length, (Lib.decDigits s.length).length) := by
    rw [numG_dec s.length s.length (Nat.le_refl _) _ 0 (by omega), crlf_13, numG, if_neg (fun c => by have := c.2.1; simp at this), Nat.zero_add]
  unfold sizQ
  rw [hN]
  simp only
  rw [if_neg (by rw [badN_dec hs]; decide), if_neg (by simp [crlf]), List.drop_left, then_full, cokQ_full _ _ hk0 hk hl]
  simp only [List.length_append]
  have : crlf.data.toList.length = 2 := rfl
  rw [this]
  refine congrArg (Prod.mk _) (congrArg (fun x => (x, (0 : Int))) ?_)
  omega
theorem sizQ_cut (a : Nat) (r : Rp) {k : List UInt8} (hk : inC k = k.length) (hl : k.length ≤ 256) {s : List UInt8} (hs : s.length ≤ 65536) {l : List UInt8} (h : Cut l (Lib.decDigits s.length ++ (crlf.data.toList ++ (ckP k ++ (endT r.close ++ s))))) : (sizQ a r (!decide (s.length = 0)) (!k.isEmpty) l).2.2 = 20 := by
  have emp : ∀ b : Bool, (sizQ a r b (!k.isEmpty) []).2.2 = 20 := fun b => by
    unfold sizQ
    have : numG [] 0 0 = (0, 0) := rfl
    rw [this]
    simp only
    rw [if_pos (by simp [badN]), if_pos (by simp)]
    rfl
  have all : ∀ u : Nat, u ≤ 65536 → (sizQ a r (!decide (u = 0)) (!k.isEmpty) (Lib.decDigits u)).2.2 = 20 := fun u hu => by
    have h1 := dec_len 5 u (by omega) (by omega)
    have hN : numG (Lib.decDigits u) 0 0 = (u, (Lib.decDigits u).length) := by
      have := numG_dec u u (Nat.le_refl _) [] 0 (by omega)
      rw [List.append_nil, Nat.zero_add] at this
      exact this
    have hb := badN_dec hu []
    rw [List.append_nil] at hb
    unfold sizQ
    rw [hN]
    simp only
    rw [if_neg (by rw [hb]; decide), if_pos trivial]
    rfl
  rcases cut_app h with g | ⟨m, rfl, hm⟩
  · by_cases hz : s.length = 0
    · rw [hz, Lib.decDigits_one (by omega)] at g
      have : l = [] := by
        have := g.2
        simp only [List.length_cons, List.length_nil] at this
        exact List.eq_nil_of_length_eq_zero (by omega)
      subst this
      exact emp _
    · rcases pre_dec s.length s.length (Nat.le_refl _) (by omega) l g.1 with rfl | ⟨v, v1, v2, rfl⟩
      · exact emp _
      · have := all v (by omega)
        rw [show decide (v = 0) = decide (s.length = 0) by rw [decide_eq_decide]; omega] at this
        exact this
  · cases m with
    | nil => rw [List.append_nil]; exact all _ hs
    | cons c m =>
      have hc : c = 13 := by
        have := hm.1
        rw [crlf_13, List.cons_prefix_cons] at this
        exact this.1
      subst hc
      have h1 := dec_len 5 s.length (by omega) (by omega)
      have hN : numG (Lib.decDigits s.length ++ 13 :: m) 0 0 = (s.length, (Lib.decDigits s.length).length) := by
        rw [numG_dec s.length s.length (Nat.le_refl _) _ 0 (by omega), numG, if_neg (fun c => by have := c.2.1; simp at this), Nat.zero_add]
      unfold sizQ
      rw [hN]
      simp only
      rw [if_neg (by rw [badN_dec hs]; decide), if_neg (by simp), List.drop_left]
      exact then_cut hm (fun m' h' => cokQ_cut _ _ hk hl h')
/-- A reply's bytes, in the twin's parts. -/
theorem wr_tw {r : Rp} (h : okR r = true) : wrL r = hedQ r.status (!r.body.isEmpty) ++ ((if r.status = 204 then [] else Lib.decDigits r.body.length ++ crlf.data.toList) ++ (ckP r.cookie ++ (endT r.close ++ r.body))) := by
  rw [wr_eq h, end_len]
  unfold hedQ hdP
  by_cases hz : r.status = 204
  · have hb : r.body = [] := List.isEmpty_iff.1 ((ok_parts h).2.2.1 hz)
    rw [if_pos hz, if_pos hz, if_pos hz, hb]
    simp
  · rw [if_neg hz, if_neg hz, if_neg hz]
    unfold tyP lnP
    cases r.body.isEmpty <;> simp [List.append_assoc]
def frm (r : Rp) (l : List UInt8) : RQ := rdQ r.status (!r.body.isEmpty) (!r.cookie.isEmpty) r.close l
theorem emp_len (s : List UInt8) : (!s.isEmpty) = !decide (s.length = 0) := by cases s <;> rfl
theorem rd_wr {r : Rp} (h : okR r = true) (q : List UInt8) : (frm r (wrL r ++ q)).2.2 = 0 := by
  obtain ⟨o1, o2, o3, o4, o5⟩ := ok_parts h
  rw [wr_tw h]
  unfold frm rdQ
  rw [if_neg (fun c => by have := o3 c.1; rw [this] at c; exact absurd c.2 (by decide)), List.append_assoc, then_full]
  by_cases hz : r.status = 204
  · have hb : r.body = [] := List.isEmpty_iff.1 (o3 hz)
    rw [if_pos hz, if_pos hz, List.nil_append, List.append_assoc, List.append_assoc, hb]
    have := cokQ_full (hedQ r.status (!([] : List UInt8).isEmpty)).length ⟨r.status, [], [], r.close⟩ rfl o5 o4 [] q
    exact congrArg (fun x : RQ => x.2.2) this
  · rw [if_neg hz, if_neg hz, emp_len]
    have := sizQ_full (hedQ r.status (!decide (r.body.length = 0))).length ⟨r.status, [], [], r.close⟩ rfl o5 o4 o2 q
    simp only [List.append_assoc] at this ⊢
    rw [this]
theorem rd_cut {r : Rp} (h : okR r = true) {l : List UInt8} (hc : Cut l (wrL r)) : (frm r l).2.2 = 20 := by
  obtain ⟨o1, o2, o3, o4, o5⟩ := ok_parts h
  rw [wr_tw h] at hc
  unfold frm rdQ
  rw [if_neg (fun c => by have := o3 c.1; rw [this] at c; exact absurd c.2 (by decide))]
  refine then_cut hc (fun m hm => ?_)
  by_cases hz : r.status = 204
  · have hb : r.body = [] := List.isEmpty_iff.1 (o3 hz)
    rw [if_pos hz, List.nil_append] at hm
    rw [if_pos hz]
    have := cokQ_cut (hedQ r.status (!r.body.isEmpty)).length ⟨r.status, [], [], r.close⟩ o5 o4 hm
    rw [hb] at this ⊢
    exact this
  · rw [if_neg hz] at hm
    rw [if_neg hz, emp_len]
    rw [List.append_assoc] at hm
    exact sizQ_cut _ ⟨r.status, [], [], r.close⟩ o5 o4 o2 hm
end Go.Proofs.YtdkbgbhcnbmlfaaDoor
