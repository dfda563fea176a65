/-
  What is written is read back, whatever stands behind: the pure side.
-/
import Derived.Test.YtdkbgbhcnbmlfaaDoorWrt
namespace Go.Proofs.YtdkbgbhcnbmlfaaDoor
open Go.RowKit
/-- Neither text begins the other one. -/
def apt (a b : List UInt8) : Bool := !a.isPrefixOf b && !b.isPrefixOf a
theorem pre_app (p q : List UInt8) : Lib.hasPrefix (p ++ q) p = true := by
  unfold Lib.hasPrefix
  rw [List.isPrefixOf_iff_prefix]
  exact List.prefix_append p q
theorem trim_app (p q : List UInt8) : Lib.trimPrefix (p ++ q) p = q := by
  unfold Lib.trimPrefix
  rw [if_pos (pre_app p q)]
  simp
theorem apt_not {a b : List UInt8} (h : apt a b = true) (q : List UInt8) : Lib.hasPrefix (b ++ q) a = false := by
  unfold apt at h
  simp only [Bool.and_eq_true, Bool.not_eq_true'] at h
  unfold Lib.hasPrefix
  cases hq : a.isPrefixOf (b ++ q) with
  | false => rfl
  | true =>
    have h1 := List.isPrefixOf_iff_prefix.1 hq
    have h2 := List.prefix_append b q
    rcases List.prefix_or_prefix_of_prefix h1 h2 with r | r
    · have := List.isPrefixOf_iff_prefix.2 r; rw [h.1] at this; cases this
    · have := List.isPrefixOf_iff_prefix.2 r; rw [h.2] at this; cases this
theorem chsG_app (q : List UInt8) (e : Int) {t : ByteArray} : ∀ (l : List ByteArray) (i k : Nat) (x : Int), l[i]? = some t → (∀ j u, j < i → l[j]? = some u → apt u.data.toList t.data.toList = true) → chsG (t.data.toList ++ q) e l k x = (k + i, q, e)
  | [], i, k, x, h, _ => by simp at h
  | u :: ts, 0, k, x, h, _ => by
    simp only [List.getElem?_cons_zero, Option.some.injEq] at h
    subst h
    rw [chsG, if_pos (pre_app _ _), trim_app, Nat.add_zero]
  | u :: ts, i + 1, k, x, h, ha => by
    have h1 := apt_not (ha 0 u (by omega) rfl) q
    rw [chsG, if_neg (by rw [h1]; decide), chsG_app q e ts i (k + 1) _ h (fun j v hj hv => ha (j + 1) v (by omega) hv)]
    congr 1
    omega
theorem chs_app {l : List ByteArray} {i : Nat} {t : ByteArray} (h : l[i]? = some t) (ha : ∀ j u, j < i → l[j]? = some u → apt u.data.toList t.data.toList = true) (q : List UInt8) (e : Int) : chs l (t.data.toList ++ q) e = (i, q, e) := by
  unfold chs
  rw [chsG_app q e l i 0 180 h ha, Nat.zero_add]
def aptAll (l : List ByteArray) : Bool := (List.range l.length).all fun i => (List.range i).all fun j => apt (l.getD j ⟨#[]⟩).data.toList (l.getD i ⟨#[]⟩).data.toList
theorem aptAll_at {l : List ByteArray} (h : aptAll l = true) {i j : Nat} {t u : ByteArray} (hi : l[i]? = some t) (hj : j < i) (hu : l[j]? = some u) : apt u.data.toList t.data.toList = true := by
  have h1 := List.all_eq_true.1 h i (List.mem_range.2 (List.getElem?_eq_some_iff.1 hi).1)
  have h2 := List.all_eq_true.1 h1 j (List.mem_range.2 hj)
  rw [List.getD_eq_getElem?_getD, List.getD_eq_getElem?_getD, hi, hu] at h2
  exact h2
theorem stL_apt : aptAll stL = true := by decide +kernel
theorem kTx_apt : ∀ f : Fin 5, aptAll (kTx f.val) = true := by decide +kernel
theorem chs_st {i : Nat} {z : Int} (h : sts[i]? = some z) (q : List UInt8) (e : Int) : chs stL ((lnS z (wordsR z)).data.toList ++ q) e = (i, q, e) := by
  have h1 : stL[i]? = some (lnS z (wordsR z)) := by unfold stL; rw [List.getElem?_map, h]; rfl
  exact chs_app h1 (fun j u hj hu => aptAll_at stL_apt h1 hj hu) q e
theorem sta_app {z : Int} (h : z ∈ sts) (q : List UInt8) : staR ((lnS z (wordsR z)).data.toList ++ q) 0 = (z, q, 0) := by
  obtain ⟨i, hi, e⟩ := List.getElem_of_mem h
  have h1 : sts[i]? = some z := by rw [List.getElem?_eq_getElem hi, e]
  unfold staR
  rw [chs_st h1, List.getD_eq_getElem?_getD, h1]
  rfl
theorem knd_app {f m : Nat} (hf : f ≤ 4) (h : f ≤ m) (hm : m ≤ kTo f) (q : List UInt8) (e : Int) : kndR f ((opn m).data.toList ++ q) e = (m, q, e) := by
  have h1 : (kTx f)[m - f]? = some (opn m) := by
    unfold kTx
    rw [List.getElem?_map, List.getElem?_range (by omega)]
    show some (opn (f + (m - f))) = _
    congr 2
    omega
  unfold kndR
  rw [chs_app h1 (fun j u hj hu => aptAll_at (kTx_apt ⟨f, by omega⟩) h1 hj hu)]
  show (f + (m - f), q, e) = _
  congr 1
  omega
theorem crlf_app (q : List UInt8) (e : Int) : chs [crlf] (crlf.data.toList ++ q) e = (0, q, e) := chs_app (i := 0) rfl (fun j u hj _ => by omega) q e
theorem line_app {s : List UInt8} (h : s ≠ []) (q : List UInt8) (e : Int) : lineR s.length (s ++ (crlf.data.toList ++ q)) e = (q, e) := by
  unfold lineR lineE
  rw [if_neg (fun r => h (List.eq_nil_of_length_eq_zero r.1)), List.drop_left, crlf_app]
theorem inC_app : ∀ (s Y : List UInt8), inC s = s.length → inC (s ++ 13 :: Y) = s.length
  | [], Y, _ => rfl
  | c :: cs, Y, h => by
    rw [inC] at h
    rw [List.cons_append, inC]
    split at h
    · rename_i hp
      rw [if_pos hp, inC_app cs Y (by rw [List.length_cons] at h; omega)]
      rfl
    · cases h
theorem inC_take {s : List UInt8} (Y : List UInt8) (h : inC s = s.length) (hl : s.length ≤ 256) : inC ((s ++ 13 :: Y).take 256) = s.length := by
  rw [List.take_append]
  rcases Nat.lt_or_eq_of_le hl with g | g
  · obtain ⟨n, hn⟩ : ∃ n, 256 - s.length = n + 1 := ⟨255 - s.length, by omega⟩
    rw [List.take_of_length_le (by omega), hn, List.take_succ_cons]
    exact inC_app s _ h
  · rw [List.take_of_length_le (by omega), g, Nat.sub_self, List.take_zero, List.append_nil]
    omega
theorem cook_app {s : List UInt8} (hs : s ≠ []) (h : inC s = s.length) (hl : s.length ≤ 256) (q : List UInt8) (e : Int) : cookR (s ++ (crlf.data.toList ++ q)) e = (s, q, e) := by
  have h1 : inC ((s ++ (crlf.data.toList ++ q)).take 256) = s.length := inC_take (10 :: q) h hl
  unfold cookR
  rw [h1, line_app hs, List.take_left]
theorem bytes_app (s q : List UInt8) (e : Int) : bytesR s.length (s ++ q) e = (s, q, e) := by
  unfold bytesR
  rw [if_neg (by simp), List.take_left, List.drop_left]
/-! ### A length -/
theorem digit_nat {u : Nat} (h : u < 10) : (UInt8.ofNat (48 + u)).toNat = 48 + u := by rw [UInt8.toNat_ofNat_of_lt' (by show 48 + u < 256; omega)]
theorem siz_dec (rest : List UInt8) (e : Int) : ∀ (n u : Nat), u ≤ n → 1 ≤ u → u ≤ 65536 → ∀ (Z : List UInt8) (i : Nat), sizG true rest e (Lib.decDigits u ++ Z) i 0 = sizG true rest e Z (i + (Lib.decDigits u).length) u
  | n, u, hn, h1, h2, Z, i => by
    by_cases h : u < 10
    · rw [Lib.decDigits_one h, List.singleton_append, sizG, digit_nat h, if_pos ⟨by omega, by omega⟩, if_neg (by simp; omega)]
      congr 1
      omega
    · match n, hn with
      | 0, hn => omega
      | n + 1, hn =>
        have e1 : Lib.decDigits u = Lib.decDigits (u / 10) ++ [UInt8.ofNat (48 + u % 10)] := by rw [Lib.decDigits, dif_neg h]
        rw [e1, List.append_assoc, siz_dec rest e n (u / 10) (by omega) (by omega) (by omega), List.singleton_append, sizG, digit_nat (by omega), if_pos ⟨by omega, by omega⟩, if_neg (by simp; omega), List.length_append]
        congr 1
        omega
theorem dec_ne (u : Nat) : Lib.decDigits u ≠ [] := fun h => by
  have h1 := Lib.decDigits_length u
  have h2 := Lib.nDigits_pos u
  rw [h] at h1
  simp only [List.length_nil] at h1
  omega
theorem siz_app {u : Nat} (h2 : u ≤ 65536) (q : List UInt8) (e : Int) : sizR (!decide (u = 0)) (Lib.decDigits u ++ (crlf.data.toList ++ q)) e = (u, q, e) := by
  unfold sizR
  have hend : ∀ (ty : Bool) (rest : List UInt8) (i n : Nat), sizG ty rest e (crlf.data.toList ++ q) i n = (n, lineR i rest e) := fun ty rest i n => by
    show sizG ty rest e (13 :: 10 :: q) i n = _
    rw [sizG, if_neg (by decide)]
  rcases Nat.eq_zero_or_pos u with g | g
  · subst g
    rw [show (!decide (0 = 0)) = false from rfl, Lib.decDigits_one (by omega), List.singleton_append, sizG, digit_nat (by omega), if_pos ⟨by omega, by omega⟩, if_neg (by simp), hend]
    have := line_app (s := [UInt8.ofNat (48 + 0)]) (by simp) q e
    rw [List.singleton_append] at this
    show (0, lineR 1 _ e) = _
    rw [show (1 : Nat) = ([UInt8.ofNat (48 + 0)] : List UInt8).length from rfl, this]
  · rw [show (!decide (u = 0)) = true by simp; omega, siz_dec _ e u u (Nat.le_refl _) g h2, hend, Nat.zero_add, line_app (dec_ne u)]
/-! ### The lines behind -/
def ckP (s : List UInt8) : List UInt8 := if s.isEmpty = true then [] else (opn 2).data.toList ++ (s ++ crlf.data.toList)
def clP (b : Bool) : List UInt8 := if b = true then (opn 3).data.toList else []
theorem opn4 : (opn 4).data.toList = crlf.data.toList := rfl
theorem rep4_app (s q : List UInt8) (r : Rp) : rep4 s.length r (crlf.data.toList ++ (s ++ q)) 0 = ({ r with body := s }, q, 0) := by
  unfold rep4 bodK
  rw [if_pos rfl, ← opn4, knd_app (f := 4) (m := 4) (by omega) (by omega) (by decide), bytes_app]
theorem rep3_app (s q : List UInt8) (b : Bool) (r : Rp) (hr : r.close = false) : rep3 s.length r (clP b ++ (crlf.data.toList ++ (s ++ q))) 0 = ({ r with body := s, close := b }, q, 0) := by
  unfold rep3
  rw [if_pos rfl]
  cases b with
  | true =>
    rw [show clP true = (opn 3).data.toList from rfl, knd_app (f := 3) (m := 3) (by omega) (by omega) (by decide), if_pos rfl]
    exact rep4_app s q _
  | false =>
    rw [show clP false = [] from rfl, List.nil_append, ← opn4, knd_app (f := 3) (m := 4) (by omega) (by omega) (by decide), if_neg (by simp)]
    unfold bodK
    rw [bytes_app, ← hr]
theorem rep2_app (s q ck : List UInt8) (b : Bool) (r : Rp) (hr : r.close = false) (hk : r.cookie = []) (hc : inC ck = ck.length) (hl : ck.length ≤ 256) : rep2 s.length r (ckP ck ++ (clP b ++ (crlf.data.toList ++ (s ++ q)))) 0 = ({ r with body := s, close := b, cookie := ck }, q, 0) := by
  unfold rep2
  rw [if_pos rfl]
  cases hck : ck.isEmpty with
  | false =>
    have hne : ck ≠ [] := fun q => by rw [q] at hck; cases hck
    have e1 : ckP ck = (opn 2).data.toList ++ (ck ++ crlf.data.toList) := by unfold ckP; rw [hck]; rfl
    rw [e1, List.append_assoc, List.append_assoc, knd_app (f := 2) (m := 2) (by omega) (by omega) (by decide), if_pos rfl]
    unfold cokK
    rw [cook_app hne hc hl]
    exact rep3_app s q b _ hr
  | true =>
    obtain rfl : ck = [] := List.isEmpty_iff.1 hck
    rw [show ckP [] = [] from rfl, List.nil_append]
    cases b with
    | true =>
      rw [show clP true = (opn 3).data.toList from rfl, knd_app (f := 2) (m := 3) (by omega) (by omega) (by decide), if_neg (by simp), if_pos rfl]
      show rep4 s.length _ _ 0 = _
      rw [rep4_app, ← hk]
    | false =>
      rw [show clP false = [] from rfl, List.nil_append, ← opn4, knd_app (f := 2) (m := 4) (by omega) (by omega) (by decide), if_neg (by simp), if_neg (by simp)]
      unfold bodK
      rw [bytes_app, ← hr, ← hk]
def lnP (n : Nat) : List UInt8 := (opn 1).data.toList ++ (Lib.decDigits n ++ crlf.data.toList)
def tyP (s : List UInt8) : List UInt8 := if s.isEmpty = true then [] else (opn 0).data.toList
theorem rep0_app (s X : List UInt8) (r : Rp) (hs : s.length ≤ 65536) : rep0 false r (tyP s ++ (lnP s.length ++ X)) 0 = rep2 s.length r X 0 := by
  unfold rep0
  rw [if_pos rfl]
  cases hse : s.isEmpty with
  | false =>
    have hne : ¬ s.length = 0 := fun q => by rw [List.eq_nil_of_length_eq_zero q] at hse; cases hse
    have e1 : tyP s = (opn 0).data.toList := by unfold tyP; rw [hse]; rfl
    rw [e1, knd_app (f := 0) (m := 0) (by omega) (by omega) (by decide), if_pos rfl]
    unfold rep1 lnP
    rw [if_pos rfl, List.append_assoc, List.append_assoc, knd_app (f := 1) (m := 1) (by omega) (by omega) (by decide)]
    unfold sizK
    have := siz_app (u := s.length) hs X 0
    rw [show (!decide (s.length = 0)) = true by simp; exact fun q => hne (by rw [q]; rfl)] at this
    rw [this]
  | true =>
    obtain rfl : s = [] := List.isEmpty_iff.1 hse
    rw [show tyP [] = [] from rfl, List.nil_append]
    unfold lnP
    rw [List.append_assoc, List.append_assoc, knd_app (f := 0) (m := 1) (by omega) (by omega) (by decide), if_neg (by simp)]
    unfold sizK
    have := siz_app (u := 0) (by omega) X 0
    rw [show (!decide (0 = 0)) = false from rfl] at this
    show rep2 (sizR false (Lib.decDigits 0 ++ (crlf.data.toList ++ X)) 0).1 r (sizR false (Lib.decDigits 0 ++ (crlf.data.toList ++ X)) 0).2.1 (sizR false (Lib.decDigits 0 ++ (crlf.data.toList ++ X)) 0).2.2 = _
    rw [this]
    rfl
def hdP (r : Rp) : List UInt8 := if r.status = 204 then [] else tyP r.body ++ lnP r.body.length
theorem wr_parts {r : Rp} (h : okR r = true) (q : List UInt8) : wrL r ++ q = (lnS r.status (wordsR r.status)).data.toList ++ (hdP r ++ (ckP r.cookie ++ (clP r.close ++ (crlf.data.toList ++ (r.body ++ q))))) := by
  obtain ⟨_, _, o3, _, _⟩ := ok_parts h
  have e1 : (bCk r).data.toList = (opn 2).data.toList ++ (r.cookie ++ crlf.data.toList) := by
    unfold bCk
    rw [show ((_ : ByteArray) ++ mkB r.cookie ++ ⟨#[13, 10]⟩).data.toList = _ from rfl]
    simp [opn, crlf, mkB]
  have e2 : (bLn r).data.toList = lnP r.body.length := by
    unfold bLn lnP
    simp [opn, crlf, itB, Lib.itoa]
  unfold wrL hdP ckP clP
  rw [e1, e2]
  by_cases hz : r.status = 204
  · rw [if_pos hz, if_pos hz, o3 hz]
    simp [bSt]
  · rw [if_neg hz, if_neg hz]
    simp [bSt, tyP]
theorem parse_wr {r : Rp} (h : okR r = true) (q : List UInt8) : repR (wrL r ++ q) = (r, q, 0) := by
  obtain ⟨o1, o2, o3, o4, o5⟩ := ok_parts h
  rw [wr_parts h]
  unfold repR
  rw [sta_app (ok_sts o1)]
  show repK (if r.status = 204 then 2 else 0) 0 false (rpl0 r.status) _ 0 = _
  by_cases hz : r.status = 204
  · rw [if_pos hz, show hdP r = [] by unfold hdP; rw [if_pos hz], List.nil_append]
    have hb : r.body = [] := List.isEmpty_iff.1 (o3 hz)
    have := rep2_app r.body q r.cookie r.close (rpl0 r.status) rfl rfl o5 o4
    rw [hb] at this
    show rep2 0 _ _ 0 = _
    rw [hb]
    rw [show ([] : List UInt8).length = 0 from rfl] at this
    rw [this]
    obtain ⟨a, b, c, d⟩ := r
    simp only at hb
    rw [hb]
    rfl
  · rw [if_neg hz, show hdP r = tyP r.body ++ lnP r.body.length by unfold hdP; rw [if_neg hz], List.append_assoc]
    show rep0 false _ _ 0 = _
    rw [rep0_app _ _ _ o2, rep2_app r.body q r.cookie r.close (rpl0 r.status) rfl rfl o5 o4]
    rfl
theorem par_wr {r : Rp} (h : okR r = true) (q : List UInt8) : parR (wrL r ++ q) = (r, (wrL r).length, 0) := by
  unfold parR
  rw [parse_wr h, if_pos rfl, List.length_append, Nat.add_sub_cancel]
theorem wr_inj {a b : Rp} (ha : okR a = true) (hb : okR b = true) {q : List UInt8} (h : wrL b = wrL a ++ q) : a = b := by
  have h1 := par_wr ha q
  have h2 := par_wr hb []
  rw [List.append_nil, h, h1] at h2
  exact congrArg Prod.fst h2
end Go.Proofs.YtdkbgbhcnbmlfaaDoor
