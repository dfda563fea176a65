/-
  The contract of the twin's Query.
-/
import Derived.Test.YtbpfggpljfpfcaaDoorQsp
namespace Go.Proofs.YtbpfggpljfpfcaaDoor
open Go.RowKit
def fdOf (x : List UInt8 × List UInt8) : Fd := ⟨bOf x.1, bOf x.2⟩
theorem flF_snoc (l : List Fd) (x : Fd) : flF (l ++ [x]) = flF l ++ [.string x.name, .string x.val] := by simp [flF, fdL]
/-- What Query tells. -/
def QryP (w : World) (r : Option (List (List UInt8 × List UInt8))) (e : Ending) (w' : World) : Prop :=
  Below w.heap.size w w' ∧ ((r = none ∧ e = .returned (.tuple #[.slice none 0 0, .int .i64 150])) ∨ (∃ l a cp, r = some l ∧ e = .returned (.tuple #[.slice a l.length cp, .int .i64 0]) ∧ w'.ownsRow w.heap.size 38 2 (.slice a l.length cp) l.length (flF (l.map fdOf))))
theorem pairs_snoc : ∀ {P : List (List UInt8)} {k : Nat} {l : List (List UInt8 × List UInt8)} {p : List UInt8} {x : List UInt8 × List UInt8}, pairsL (P.take k) = some l → P[k]? = some p → pairL p = some x → pairsL (P.take (k + 1)) = some (l ++ [x])
  | [], k, l, p, x, _, h, _ => by simp at h
  | a :: P, 0, l, p, x, h0, h, hx => by
    simp only [List.getElem?_cons_zero, Option.some.injEq] at h
    subst h
    rw [List.take_zero, pairsL] at h0
    cases h0
    rw [List.take_succ_cons, List.take_zero, pairsL, hx, pairsL]
    rfl
  | a :: P, k + 1, l, p, x, h0, h, hx => by
    rw [List.getElem?_cons_succ] at h
    rw [List.take_succ_cons, pairsL] at h0
    rw [List.take_succ_cons, pairsL]
    cases ha : pairL a with
    | none => rw [ha] at h0; cases h0
    | some y =>
      rw [ha] at h0
      cases hb : pairsL (P.take k) with
      | none => rw [hb] at h0; cases h0
      | some m =>
        rw [hb] at h0
        cases h0
        rw [pairs_snoc hb h hx]
        rfl
theorem pairs_none : ∀ {P : List (List UInt8)} {k : Nat} {p : List UInt8}, P[k]? = some p → pairL p = none → pairsL P = none
  | [], k, p, h, _ => by simp at h
  | a :: P, 0, p, h, hx => by
    simp only [List.getElem?_cons_zero, Option.some.injEq] at h
    subst h
    rw [pairsL, hx]
  | a :: P, k + 1, p, h, hx => by
    rw [List.getElem?_cons_succ] at h
    rw [pairsL, pairs_none h hx]
    cases pairL a <;> rfl
theorem pair_no {p : List UInt8} (h : (61 : UInt8) ∉ p) : pairL p = none := by
  unfold pairL
  rw [(ahd_none h).2.2]
  rfl
theorem pair_at {a t : List UInt8} (h : (61 : UInt8) ∉ a) : pairL (a ++ 61 :: t) = match unesc a, unesc t with
  | some x, some y => some (x, y)
  | _, _ => none := by
  obtain ⟨h1, h2, h3⟩ := ahd_hit (t := t) h
  unfold pairL
  rw [h1, h2, h3, if_pos rfl]
  cases unesc a <;> cases unesc t <;> rfl
theorem pairs_len : ∀ {P : List (List UInt8)} {l : List (List UInt8 × List UInt8)}, pairsL P = some l → l.length = P.length
  | [], l, h => by
    rw [pairsL] at h
    cases h
    rfl
  | a :: P, l, h => by
    rw [pairsL] at h
    cases ha : pairL a with
    | none => rw [ha] at h; cases h
    | some y =>
      rw [ha] at h
      cases hb : pairsL P with
      | none => rw [hb] at h; cases h
      | some m =>
        rw [hb] at h
        cases h
        rw [List.length_cons, List.length_cons, pairs_len hb]
theorem fd_snoc (l : List (List UInt8 × List UInt8)) (x y : List UInt8) : flF ((l ++ [(x, y)]).map fdOf) = flF (l.map fdOf) ++ [.string (bOf x), .string (bOf y)] := by
  rw [List.map_append]
  exact flF_snoc _ _
set_option maxRecDepth 20000 in
set_option maxHeartbeats 16000000 in
theorem qquery_any (s : ByteArray) (hs : s.size ≤ 1000000000) (w : World) : Calls Tryd.prog 17 #[.string s] w (QryP w (qryR s.data.toList)) := by
  obtain ⟨i0, hi, hz⟩ := Option.map_eq_some_iff.1 info53
  simp only [Prod.mk.injEq] at hz
  obtain ⟨hz0, hz1, hz2⟩ := hz
  have hlen := size_list' s
  by_cases h2 : s.data.toList = []
  · have h2e : s.toList.isEmpty = true := by rw [ByteArray.toList_eq, h2]; rfl
    have HQ : Hid (qryR s.data.toList = some []) := by rw [Hid, h2]; rfl
    rw [HQ.out]
    clear hlen h2
    go_enter Tryd.func17, Tryd.ntmps17
    go_wp2_with fail
    go_ret2
    exact ⟨Below.refl _ _, Or.inr ⟨[], none, 0, rfl, rfl, World.ownsRow_nil _ _ _ _⟩⟩
  have h2e : s.toList.isEmpty = false := by
    rw [ByteArray.toList_eq]
    cases h : s.data.toList with
    | nil => exact absurd h h2
    | cons _ _ => rfl
  have H1 : Hid (∀ W : World, Calls Tryd.prog 34 #[.string s, .int .u8 38] W _) := fun W => qcut_any s 38 hs W
  have hql : qryR s.data.toList = pairsL (cutL 38 s.data.toList) := by unfold qryR; rw [if_neg h2]
  have hcl := cutL_len 38 s.data.toList
  have HM : Hid (∀ p ∈ cutL 38 s.data.toList, p.length ≤ s.data.toList.length) := fun p hp => cutL_mem 38 _ p hp
  rw [hql]
  rw [hlen] at hcl HM
  obtain ⟨P, hP⟩ : ∃ P, cutL 38 s.data.toList = P := ⟨_, rfl⟩
  rw [hP] at H1 hcl HM ⊢
  obtain ⟨n, hn⟩ : ∃ n, P.length = n := ⟨_, rfl⟩
  rw [hn] at H1 hcl
  have HN : Hid (P.length = n) := hn
  have hn2 : n ≤ 1000000001 := by omega
  clear hP hn hql hcl hlen h2
  obtain ⟨R, hR⟩ : ∃ R, pairsL P = R := ⟨_, rfl⟩
  have HNO : Hid (∀ (k : Nat) (p : List UInt8), P[k]? = some p → pairL p = none → R = none) := by rw [Hid, ← hR]; exact fun k p a b => pairs_none a b
  have HOK : Hid (∀ l, pairsL P = some l → R = some l) := by rw [Hid, ← hR]; exact fun l h => h
  rw [hR]
  clear hR
  go_enter Tryd.func17, Tryd.ntmps17
  go_wp2_with fail
  refine (H1.out _).mono ?_
  rintro e w1 ⟨a, cp, rfl, how, b1⟩
  have HB1 : Hid (Below w.heap.size w w1) := b1
  have HTX : Hid (TextsAt w1 a (P.map bOf)) := row_texts how
  clear how b1 H1
  go_wp2_with fail
  go_loopw [4, 17] (fun v i wr => ∃ (k : Nat) (l : List (List UInt8 × List UInt8)), k ≤ n ∧ i = .int .i64 (k : Nat) ∧ wr.ownsRow w1.heap.size 38 2 v k (flF (l.map fdOf)) ∧ Hid (pairsL (P.take k) = some l) ∧ Hid (Below w1.heap.size w1 wr)) (fun _ i _ => n - (intOf i).toNat)
  case atStart => exact ⟨0, [], by omega, rfl, World.ownsRow_nil _ _ _ _, by rw [Hid, List.take_zero]; rfl, Below.refl _ _⟩
  case round =>
    obtain ⟨k, l, hk, rfl, how, HE, HB⟩ := hrel
    obtain ⟨va, vc, rfl⟩ := row_form how
    have HOW : Hid _ := how
    clear how
    have HBW : Hid (Below w.heap.size w wr) := HB1.out.trans (HB.out.mono HB1.out.size)
    by_cases hlt : k < n
    · have hlz : (k : Int) < (n : Int) := by omega
      obtain ⟨p, hp⟩ : ∃ p, P[k]? = some p := ⟨_, List.getElem?_eq_getElem (by rw [HN.out]; exact hlt)⟩
      obtain ⟨gb, off, ea, _, c0⟩ := (HTX.out.below HB.out) k (bOf p) (by rw [List.getElem?_map, hp]; rfl)
      subst ea
      have hpl := HM.out p (List.mem_of_getElem? hp)
      have H2 : Hid (∀ W : World, Calls Tryd.prog 35 #[.string (bOf p), .int .u8 61] W _) := fun W => qfind_any (bOf p) 61 (by rw [bOf_size]; omega) W
      rw [show (bOf p).data.toList = p from rfl] at H2
      have hpz : (bOf p).size = p.length := bOf_size p
      by_cases hm : (61 : UInt8) ∈ p
      · obtain ⟨x, t, rfl, hx⟩ := split_first hm
        rw [(ahd_hit (t := t) hx).1] at H2
        have hx1 := sub_left x (61 :: t)
        have hx2 := sub_right x t 61
        have hpz2 : (bOf (x ++ 61 :: t)).size = x.length + 1 + t.length := by rw [hpz, List.length_append, List.length_cons]; omega
        have HPA : Hid _ := pair_at (t := t) hx
        have hpl2 : x.length + 1 + t.length ≤ s.size := by rw [List.length_append, List.length_cons] at hpl; omega
        have H3 : Hid (∀ W : World, _) := fun W => runescape_any (bOf x) W (by rw [bOf_size]; omega)
        have H4 : Hid (∀ W : World, _) := fun W => runescape_any (bOf t) W (by rw [bOf_size]; omega)
        rw [show (bOf x).data.toList = x from rfl] at H3
        rw [show (bOf t).data.toList = t from rfl] at H4
        have HSN : Hid (∀ y, pairL (x ++ 61 :: t) = some y → pairsL (P.take (k + 1)) = some (l ++ [y])) := fun y h => pairs_snoc HE.out hp h
        have HNN : Hid (pairL (x ++ 61 :: t) = none → R = none) := fun h => HNO.out k _ hp h
        obtain ⟨S, hS⟩ : ∃ S, bOf (x ++ 61 :: t) = S := ⟨_, rfl⟩
        rw [hS] at H2 hx1 hx2 hpz2 c0
        obtain ⟨at1, ha1⟩ : ∃ at1, x.length = at1 := ⟨_, rfl⟩
        rw [ha1] at H2 hx1 hx2 hpz2
        have hiz : ((at1 : Int) == (S.size : Int)) = false := by rw [beq_eq_false_iff_ne]; omega
        have hle1 : at1 ≤ S.size := by omega
        have hle2 : at1 + 1 ≤ S.size := by omega
        have hslz : (at1 : Int) + 1 ≤ (S.size : Int) := by omega
        have hsm : S.size ≤ 1000000000 := by rw [ha1] at hpl2; omega
        clear hp hpl hpl2 hpz hS ha1 hx hm
        have HPZ : Hid _ := hpz2
        clear hpz2
        obtain ⟨uo, huo⟩ : ∃ uo, unesc x = uo := ⟨_, rfl⟩
        obtain ⟨vo, hvo⟩ : ∃ vo, unesc t = vo := ⟨_, rfl⟩
        unfold unescV at H3 H4
        rw [Hid, huo, hvo] at HPA
        rw [huo] at H3
        rw [hvo] at H4
        clear huo hvo
        go_wp2_with fail
        refine (H2.out _).mono ?_
        rintro e w2 ⟨rfl, hw2⟩
        rw [hw2]
        clear hw2 w2 H2
        cases uo with
        | none =>
          dsimp only at H3 HPA
          have HR : Hid (R = none) := HNN.out HPA
          clear HPA HNN HSN
          go_wp2_with fail
          refine (H3.out _).mono ?_
          rintro e w3 ⟨rfl, b3⟩
          have HB3 : Hid (Below w.heap.size w w3) := HBW.out.trans (b3.mono HBW.out.size)
          clear b3 H3
          cases vo with
          | none =>
            dsimp only at H4
            go_wp2_with fail
            refine (H4.out _).mono ?_
            rintro e w4 ⟨rfl, b4⟩
            have HB4 : Hid (Below w.heap.size w w4) := HB3.out.trans (b4.mono HB3.out.size)
            clear b4 H4
            go_wp2_with fail
            go_ret2
            exact ⟨HB4.out, Or.inl ⟨HR.out, rfl⟩⟩
          | some v =>
            dsimp only at H4
            go_wp2_with fail
            refine (H4.out _).mono ?_
            rintro e w4 ⟨rfl, b4⟩
            have HB4 : Hid (Below w.heap.size w w4) := HB3.out.trans (b4.mono HB3.out.size)
            clear b4 H4
            go_wp2_with fail
            go_ret2
            exact ⟨HB4.out, Or.inl ⟨HR.out, rfl⟩⟩
        | some u =>
          dsimp only at H3
          go_wp2_with fail
          refine (H3.out _).mono ?_
          rintro e w3 ⟨rfl, b3⟩
          have HB3 : Hid (Below w1.heap.size w1 w3) := HB.out.trans (b3.mono HB.out.size)
          have HOW3 : Hid _ := owns_on2 HOW.out b3
          clear b3 H3
          cases vo with
          | none =>
            dsimp only at H4 HPA
            have HR : Hid (R = none) := HNN.out HPA
            clear HPA HNN HSN
            go_wp2_with fail
            refine (H4.out _).mono ?_
            rintro e w4 ⟨rfl, b4⟩
            have HB4 : Hid (Below w1.heap.size w1 w4) := HB3.out.trans (b4.mono HB3.out.size)
            clear b4 H4
            go_wp2_with fail
            go_ret2
            exact ⟨HB1.out.trans (HB4.out.mono HB1.out.size), Or.inl ⟨HR.out, rfl⟩⟩
          | some v =>
            dsimp only at H4 HPA
            have HS : Hid _ := HSN.out _ HPA
            clear HPA HNN HSN
            go_wp2_with fail
            refine (H4.out _).mono ?_
            rintro e w4 ⟨rfl, b4⟩
            have HB4 : Hid (Below w1.heap.size w1 w4) := HB3.out.trans (b4.mono HB3.out.size)
            have HOW4 : Hid (w4.ownsRow w1.heap.size 38 2 (.slice va k vc) k (flF (l.map fdOf))) := owns_on2 HOW3.out b4
            have hra : Hid (∀ o, (w4.alloc o).ownsRow w1.heap.size 38 2 (.slice va k vc) k (flF (l.map fdOf))) := fun o => World.ownsRow.alloc HOW4.out o
            have hsz4 := HB4.out.size
            clear b4 H4
            go_wp2_with (at_builtin; go_loud (refine wpList_append_own _ rfl (.tmp 48) (.tmp 52) 34 rfl w1.heap.size 38 i0 (.agg #[.string ByteArray.empty, .string ByteArray.empty]) 2 32 Tryd.underlying34 hi hz0 hz1 hz2 rfl (by decide) _ _ _ rfl (hra.out _) ⟨_, 0, none⟩ 1 1 [.string (bOf u), .string (bOf v)] rfl rfl (new_cells _ [.string (bOf u), .string (bOf v)] _) (fdL_one ⟨bOf u, bOf v⟩) (by unfold maxLen; omega) (by omega) (by simp; omega) ?_))
            intro v1 w5 hown1 hgrow _
            obtain ⟨a1, cap1, rfl⟩ := row_form hown1
            have HR5 : Hid (w5.ownsRow w1.heap.size 38 2 (.slice a1 (k + 1) cap1) (k + 1) (flF ((l ++ [(u, v)]).map fdOf))) := by
              rw [Hid, fd_snoc]
              exact hown1
            have HB5 : Hid (Below w1.heap.size w1 w5) := (HB4.out.alloc hsz4 _).grown hgrow (by simp; omega) (fun i hi => (World.ownsRow.lt HOW4.out i hi).1)
            clear hown1 hgrow
            go_wp2_with fail
            go_roundw
            case rel => exact ⟨k + 1, l ++ [(u, v)], by omega, by go_num, HR5.out, HS.out, HB5.out⟩
            case measure => simp [intOf]; omega
      · have HR : Hid (R = none) := HNO.out k p hp (pair_no hm)
        rw [(ahd_none hm).1] at H2
        obtain ⟨pz, hpz'⟩ : ∃ pz, p.length = pz := ⟨_, rfl⟩
        rw [hpz'] at H2 hpz hpl
        have hiz : ((pz : Int) == ((bOf p).size : Int)) = true := by rw [beq_iff_eq]; omega
        clear hp hpl hm hpz hpz'
        go_wp2_with fail
        refine (H2.out _).mono ?_
        rintro e w2 ⟨rfl, hw2⟩
        rw [hw2]
        clear hw2 w2 H2
        go_wp2_with fail
        go_ret2
        exact ⟨HBW.out, Or.inl ⟨HR.out, rfl⟩⟩
    · obtain rfl : k = n := by omega
      have hlz : ¬ (k : Int) < (k : Int) := by omega
      have he := HE.out
      rw [List.take_of_length_le (by rw [HN.out]; omega)] at he
      have HR : Hid (R = some l) := HOK.out l he
      have HQ : Hid _ := owns_down2 HOW.out HB1.out.size
      have HML : Hid (l.length = k) := by rw [Hid, pairs_len he, HN.out]
      clear he
      go_wp2_with fail
      go_ret2
      exact ⟨HBW.out, Or.inr ⟨l, va, vc, HR.out, by rw [HML.out]; rfl, by rw [HML.out]; exact HQ.out⟩⟩
end Go.Proofs.YtbpfggpljfpfcaaDoor
