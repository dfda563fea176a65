/-
  The contract of the twin's Split.
-/
import Derived.Test.YtbpfggpljfpfcaaDoorQrw
namespace Go.Proofs.YtbpfggpljfpfcaaDoor
open Go.RowKit
theorem owns_down2 {w : World} {B B' e z n : Nat} {v : Value} {xs : List Value} (h : w.ownsRow B e z v n xs) (hB : B' ≤ B) : w.ownsRow B' e z v n xs := by
  refine ⟨h.1, ?_⟩
  rcases h.2 with q | ⟨g, cp, cur, hv, hg, rr⟩
  · exact Or.inl q
  · exact Or.inr ⟨g, cp, cur, hv, Nat.le_trans hB hg, rr⟩
/-- A piece, unescaped. -/
def ufp (p : List UInt8) : List UInt8 := (unesc p).getD []
theorem pcs_map (t : List UInt8) : pcsL t = (rawL t).map ufp := rfl
theorem spl_zero {t : List UInt8} (h : splE t = 0) : t.length ≤ 1024 ∧ t.head? = some 47 ∧ ∀ p ∈ rawL t, (unesc p).isSome = true := by
  unfold splE at h
  by_cases h1 : 1024 < t.length
  · rw [if_pos h1] at h; cases h
  rw [if_neg h1] at h
  by_cases h2 : t.head? = some 47
  · rw [if_pos h2] at h
    by_cases h3 : (rawL t).all (fun p => (unesc p).isSome) = true
    · exact ⟨by omega, h2, List.all_eq_true.1 h3⟩
    · rw [if_neg h3] at h; cases h
  · rw [if_neg h2] at h; cases h
theorem ahd_len (c : UInt8) (l : List UInt8) : (ahd c l).length ≤ l.length := (List.takeWhile_prefix _).length_le
theorem path_len (t : List UInt8) : (pathL t).length ≤ t.length := by
  have h1 := ahd_len 63 t.tail
  have h2 : t.tail.length ≤ t.length := by rw [List.length_tail]; omega
  show (ahd 63 t.tail).length ≤ _
  omega
theorem raw_len (t : List UInt8) : (rawL t).length ≤ t.length + 1 := by
  have h1 := cutL_len 47 (pathL t)
  have h2 := path_len t
  show (cutL 47 (pathL t)).length ≤ _
  omega
theorem raw_mem {t p : List UInt8} (h : p ∈ rawL t) : p.length ≤ t.length := by
  have h1 := cutL_mem 47 (pathL t) p h
  have h2 := path_len t
  omega
theorem unesc_len : ∀ (n : Nat) (l u : List UInt8), l.length ≤ n → unesc l = some u → u.length ≤ l.length
  | n, [], u, _, h => by
    rw [unesc] at h
    cases h
    exact Nat.le_refl _
  | 0, _ :: _, _, hn, _ => by simp at hn
  | n + 1, c :: l, u, hn, h => by
    have hn' : l.length ≤ n := by rw [List.length_cons] at hn; omega
    by_cases hc : c.toNat = 37
    · match l, hn' with
      | [], _ => rw [unesc_short hc (by simp)] at h; cases h
      | [a], _ => rw [unesc_short hc (by simp)] at h; cases h
      | a :: b :: r, hn' =>
        rw [unesc_two hc] at h
        by_cases hq : hexV a.toNat < 0 ∨ hexV b.toNat < 0
        · rw [if_pos hq] at h; cases h
        · rw [if_neg hq] at h
          cases hr : unesc r with
          | none => rw [hr] at h; cases h
          | some v =>
            rw [hr] at h
            cases h
            have := unesc_len n r v (by simp at hn'; omega) hr
            simp only [List.length_cons]
            omega
    · rw [unesc_plain hc] at h
      cases hr : unesc l with
      | none => rw [hr] at h; cases h
      | some v =>
        rw [hr] at h
        cases h
        have := unesc_len n l v hn' hr
        simp only [List.length_cons]
        omega
theorem ufp_len (p : List UInt8) : (ufp p).length ≤ p.length := by
  unfold ufp
  cases h : unesc p with
  | none => exact Nat.zero_le _
  | some u => exact unesc_len p.length p u (Nat.le_refl _) h
theorem ufp_some {p u : List UInt8} (h : unesc p = some u) : ufp p = u := by unfold ufp; rw [h]; rfl
theorem take_snoc {L : List (List UInt8)} {k : Nat} {p : List UInt8} (hp : L[k]? = some p) : ((L.take (k + 1)).map ufp).map bOf = ((L.take k).map ufp).map bOf ++ [bOf (ufp p)] := by
  rw [List.take_add_one, hp]
  simp
set_option maxRecDepth 20000 in
set_option maxHeartbeats 8000000 in
theorem qsplit_any (s : ByteArray) (hs : s.size ≤ 140737488355328) (w : World) : Calls Tryd.prog 15 #[.string s] w (RawP w (pcsL s.data.toList) (qryL s.data.toList) (hasQ s.data.toList) (splE s.data.toList)) := by
  obtain ⟨i0, hi, hz⟩ := Option.map_eq_some_iff.1 info9
  simp only [Prod.mk.injEq] at hz
  obtain ⟨hz0, hz1, hz2⟩ := hz
  have H1 : Hid (∀ W : World, _) := fun W => qraw_any s hs W
  rw [pcs_map]
  have HZ : Hid (splE s.data.toList = 0 → _) := spl_zero
  have hl := raw_len s.data.toList
  have HM : Hid (∀ p ∈ rawL s.data.toList, p.length ≤ s.data.toList.length) := fun p hp => raw_mem hp
  obtain ⟨t, ht⟩ : ∃ t, s.data.toList = t := ⟨_, rfl⟩
  rw [ht] at H1 HZ hl HM ⊢
  clear ht
  obtain ⟨L, hL⟩ : ∃ L, rawL t = L := ⟨_, rfl⟩
  rw [hL] at H1 HZ HM hl ⊢
  obtain ⟨er, her⟩ : ∃ er, splE t = er := ⟨_, rfl⟩
  rw [her] at H1 HZ ⊢
  obtain ⟨q, hq⟩ : ∃ q, qryL t = q := ⟨_, rfl⟩
  obtain ⟨hs', hh⟩ : ∃ hs', hasQ t = hs' := ⟨_, rfl⟩
  rw [hq, hh] at H1 ⊢
  obtain ⟨n, hn⟩ : ∃ n, L.length = n := ⟨_, rfl⟩
  unfold RawP at H1
  rw [hn] at H1 hl
  have HN : Hid (L.length = n) := hn
  obtain ⟨tl, htl⟩ : ∃ tl, t.length = tl := ⟨_, rfl⟩
  rw [htl] at HZ HM hl
  clear hL her hq hh hn htl
  go_enter Tryd.func15, Tryd.ntmps15
  go_wp2_with fail
  refine (H1.out _).mono ?_
  rintro e w1 ⟨b1, (⟨hne, rfl⟩ | ⟨h0, a, cp, rfl, how⟩)⟩
  · have hnz : (er != 0) = true := by simpa using hne
    have HB1 : Hid (Below w.heap.size w w1) := b1
    clear b1
    go_wp2_with fail
    refine bodyPost_ret (results_tmp4 rfl _ _ _) rfl ?_
    exact ⟨HB1.out, Or.inl ⟨hne, rfl⟩⟩
  · subst h0
    obtain ⟨z1, _, z3⟩ := HZ.out rfl
    have HB1 : Hid (Below w.heap.size w w1) := b1
    have HTX : Hid (TextsAt w1 a (L.map bOf)) := row_texts how
    have HU : Hid (∀ p ∈ L, (unesc p).isSome = true) := z3
    have hn2 : n ≤ 1025 := by omega
    clear how b1 z3 H1 HZ hl
    go_wp2_with fail
    go_loopw [10, 27] (fun v i wr => ∃ k : Nat, k ≤ n ∧ i = .int .i64 (k : Nat) ∧ wr.ownsRow w1.heap.size 9 1 v k (strV (((L.take k).map ufp).map bOf)) ∧ Hid (Below w1.heap.size w1 wr)) (fun _ i _ => n - (intOf i).toNat)
    case atStart => exact ⟨0, by omega, rfl, by rw [List.take_zero]; exact World.ownsRow_nil _ _ _ _, Below.refl _ _⟩
    case round =>
      obtain ⟨k, hk, rfl, how, HB⟩ := hrel
      obtain ⟨va, vc, rfl⟩ := row_form how
      have HOW : Hid _ := how
      clear how
      by_cases hlt : k < n
      · have hlz : (k : Int) < (n : Int) := by omega
        obtain ⟨p, hp⟩ : ∃ p, L[k]? = some p := ⟨_, List.getElem?_eq_getElem (by rw [HN.out]; exact hlt)⟩
        obtain ⟨gb, off, ea, _, c0⟩ := (HTX.out.below HB.out) k (bOf p) (by rw [List.getElem?_map, hp]; rfl)
        subst ea
        have hpm := List.mem_of_getElem? hp
        have hpl := HM.out p hpm
        obtain ⟨u, hu⟩ : ∃ u, unesc p = some u := Option.isSome_iff_exists.1 (HU.out p hpm)
        have H3 : Hid (∀ W : World, _) := fun W => runescape_any (bOf p) W (by rw [bOf_size]; omega)
        rw [show (bOf p).data.toList = p from rfl] at H3
        unfold unescV at H3
        rw [hu] at H3
        dsimp only at H3
        have HTK : Hid _ := take_snoc hp
        rw [ufp_some hu] at HTK
        clear hu hp hpm hpl
        go_wp2_with fail
        refine (H3.out _).mono ?_
        rintro e w2 ⟨rfl, b2⟩
        have HB2 : Hid (Below w1.heap.size w1 w2) := HB.out.trans (b2.mono HB.out.size)
        have HOW2 : Hid (w2.ownsRow w1.heap.size 9 1 (.slice va k vc) k (strV (((L.take k).map ufp).map bOf))) := owns_on2 HOW.out b2
        have hra : Hid (∀ o, (w2.alloc o).ownsRow w1.heap.size 9 1 (.slice va k vc) k (strV (((L.take k).map ufp).map bOf))) := fun o => World.ownsRow.alloc HOW2.out o
        have hsz2 := HB2.out.size
        clear b2
        go_wp2_with (at_builtin; go_loud (refine wpList_append_own _ rfl (.tmp 36) (.tmp 38) 28 rfl w1.heap.size 9 i0 (.string ⟨#[]⟩) 1 16 Tryd.underlying28 hi hz0 hz1 hz2 rfl (by decide) _ _ _ rfl (hra.out _) ⟨_, 0, none⟩ 1 1 [.string (bOf u)] rfl rfl (new_cells _ [.string (bOf u)] _) (strV_one [bOf u]) (by unfold maxLen; omega) (by omega) (by simp; omega) ?_))
        intro v1 w5 hown1 hgrow _
        obtain ⟨a1, cap1, rfl⟩ := row_form hown1
        have HR5 : Hid (w5.ownsRow w1.heap.size 9 1 (.slice a1 (k + 1) cap1) (k + 1) (strV (((L.take (k + 1)).map ufp).map bOf))) := by
          rw [Hid, HTK.out]
          have e : strV (((L.take k).map ufp).map bOf ++ [bOf u]) = strV (((L.take k).map ufp).map bOf) ++ [.string (bOf u)] := by simp [strV]
          rw [e]
          simp only [List.map_take, List.map_map] at hown1 ⊢
          exact hown1
        have HB5 : Hid (Below w1.heap.size w1 w5) := (HB2.out.alloc hsz2 _).grown hgrow (by simp; omega) (fun i hi => (World.ownsRow.lt HOW2.out i hi).1)
        clear hown1 hgrow
        go_wp2_with fail
        go_roundw
        case rel => exact ⟨k + 1, by omega, by go_num, HR5.out, HB5.out⟩
        case measure => simp [intOf]; omega
      · obtain rfl : k = n := by omega
        have hlz : ¬ (k : Int) < (k : Int) := by omega
        have hq := HOW.out
        rw [List.take_of_length_le (by rw [HN.out]; omega)] at hq
        have HQ : Hid _ := owns_down2 hq HB1.out.size
        have HML : Hid ((L.map ufp).length = k) := by rw [Hid, List.length_map, HN.out]
        have HBW : Hid (Below w.heap.size w wr) := HB1.out.trans (HB.out.mono HB1.out.size)
        clear hq
        go_wp2_with fail
        refine bodyPost_ret (results_tmp4 rfl _ _ _) rfl ?_
        refine ⟨HBW.out, Or.inr ⟨rfl, va, vc, by rw [HML.out]; rfl, by rw [HML.out]; exact HQ.out⟩⟩
end Go.Proofs.YtbpfggpljfpfcaaDoor
