/-
  The contract of the twin's raw.
-/
import Derived.Test.YtbpfggpljfpfcaaDoorQct
import Derived.Test.YtbpfggpljfpfcaaDoorRUnesc
namespace Go.Proofs.YtbpfggpljfpfcaaDoor
open Go.RowKit
theorem split_first : ∀ {c : UInt8} {l : List UInt8}, c ∈ l → ∃ a t, l = a ++ c :: t ∧ c ∉ a
  | c, [], h => absurd h List.not_mem_nil
  | c, x :: l, h => by
    by_cases hx : x = c
    · exact ⟨[], l, by rw [hx]; rfl, List.not_mem_nil⟩
    · rcases List.mem_cons.1 h with e | h
      · exact absurd e.symm hx
      · obtain ⟨a, t, h1, h2⟩ := split_first h
        refine ⟨x :: a, t, by rw [h1]; rfl, fun q => ?_⟩
        rcases List.mem_cons.1 q with e | q
        · exact hx e.symm
        · exact h2 q
theorem results_tmp4 {fn : Func} {t u v x : Tmp} (h : fn.results = #[.tmp t, .tmp u, .tmp v, .tmp x]) (tmps : Array Value) (P : Program) (w : World) :
    (results fn tmps).run P w = .ok (.tuple #[tmps.getD t undef, tmps.getD u undef, tmps.getD v undef, tmps.getD x undef]) w := by
  simp [results, h, go_sem]
/-- What raw and Split tell: the pieces l, and the query; or an error. -/
def RawP (w : World) (l : List (List UInt8)) (q : List UInt8) (has : Bool) (er : Int) (e : Ending) (w' : World) : Prop :=
  Below w.heap.size w w' ∧ ((er ≠ 0 ∧ e = .returned (.tuple #[.slice none 0 0, .string ⟨#[]⟩, .bool false, .int .i64 er])) ∨ (er = 0 ∧ ∃ a cp, e = .returned (.tuple #[.slice a l.length cp, .string (bOf q), .bool has, .int .i64 0]) ∧ w'.ownsRow w.heap.size 9 1 (.slice a l.length cp) l.length (strV (l.map bOf))))
/-- A target that begins as one does: where its path ends, and what is behind. -/
theorem tgt_parts {r : List UInt8} : (63 ∉ r ∧ pathL (47 :: r) = r ∧ qryL (47 :: r) = [] ∧ hasQ (47 :: r) = false) ∨ (∃ a t, r = a ++ 63 :: t ∧ pathL (47 :: r) = a ∧ qryL (47 :: r) = t ∧ hasQ (47 :: r) = true) := by
  by_cases h : (63 : UInt8) ∈ r
  · obtain ⟨a, t, rfl, h2⟩ := split_first h
    obtain ⟨e1, e2, e3⟩ := ahd_hit (t := t) h2
    exact Or.inr ⟨a, t, rfl, e1, e2, e3⟩
  · obtain ⟨e1, e2, e3⟩ := ahd_none h
    exact Or.inl ⟨h, e1, e2, e3⟩
theorem ahd_47 (r : List UInt8) : (ahd 63 (47 :: r)).length = 1 + (pathL (47 :: r)).length := by
  rw [ahd_step (by decide), List.length_cons]
  show (ahd 63 r).length + 1 = 1 + (ahd 63 r).length
  omega
theorem below_drewN' {w W : World} {b : Nat} (h : Below b w W) (n : Nat) : Below b w (W.drewN n) := ⟨h.1, h.2, h.3, h.4, h.5⟩
theorem spl_long {t : List UInt8} (h : 1024 < t.length) : splE t = 3 := by unfold splE; rw [if_pos h]
theorem spl_head {t : List UInt8} (h : ¬ 1024 < t.length) (h2 : ¬ t.head? = some 47) : splE t = 150 := by unfold splE; rw [if_neg h, if_neg h2]
theorem spl_bad {t : List UInt8} (h : ¬ 1024 < t.length) (h2 : t.head? = some 47) {p : List UInt8} (hp : p ∈ rawL t) (hn : unesc p = none) : splE t = 150 := by
  unfold splE
  rw [if_neg h, if_pos h2, if_neg]
  intro q
  have := List.all_eq_true.1 q p hp
  rw [hn] at this
  cases this
theorem spl_ok {t : List UInt8} (h : ¬ 1024 < t.length) (h2 : t.head? = some 47) (hp : ∀ p ∈ rawL t, (unesc p).isSome = true) : splE t = 0 := by
  unfold splE
  rw [if_neg h, if_pos h2, if_pos (List.all_eq_true.2 hp)]
theorem cutL_len : ∀ (c : UInt8) (l : List UInt8), (cutL c l).length ≤ l.length + 1
  | c, [] => Nat.le_refl _
  | c, x :: l => by
    have ih := cutL_len c l
    rw [cutL]
    by_cases h : x = c
    · rw [if_pos h, List.length_cons, List.length_cons]; omega
    · rw [if_neg h, List.length_cons, List.length_cons, List.length_tail]; omega
theorem cutL_head_mem (c : UInt8) (l : List UInt8) : (cutL c l).headD [] ∈ cutL c l := by
  cases h : cutL c l with
  | nil => rw [cutL_cons] at h; cases h
  | cons a b => exact List.mem_cons_self ..
theorem path_pre (r : List UInt8) : r.take (pathL (47 :: r)).length = pathL (47 :: r) := by
  obtain ⟨q, hq⟩ : ahd 63 r <+: r := List.takeWhile_prefix _
  show r.take (ahd 63 r).length = ahd 63 r
  have h := List.take_left (l₁ := ahd 63 r) (l₂ := q)
  rw [hq] at h
  exact h
theorem cutL_mem : ∀ (c : UInt8) (l p : List UInt8), p ∈ cutL c l → p.length ≤ l.length
  | c, [], p, h => by
    have : p = [] := by simpa [cutL] using h
    rw [this]
    exact Nat.le_refl _
  | c, x :: l, p, h => by
    rw [cutL] at h
    by_cases hx : x = c
    · rw [if_pos hx] at h
      rcases List.mem_cons.1 h with rfl | h
      · exact Nat.zero_le _
      · have := cutL_mem c l p h
        rw [List.length_cons]; omega
    · rw [if_neg hx] at h
      rcases List.mem_cons.1 h with rfl | h
      · have := cutL_mem c l ((cutL c l).headD []) (cutL_head_mem c l)
        rw [List.length_cons, List.length_cons]; omega
      · have := cutL_mem c l p (List.mem_of_mem_tail h)
        rw [List.length_cons]; omega
set_option maxRecDepth 20000 in
set_option maxHeartbeats 8000000 in
theorem qraw_any (s : ByteArray) (hs : s.size ≤ 140737488355328) (w : World) : Calls Tryd.prog 24 #[.string s] w (RawP w (rawL s.data.toList) (qryL s.data.toList) (hasQ s.data.toList) (splE s.data.toList)) := by
  have hlen := size_list' s
  by_cases h1 : 1024 < s.size
  · have h1z : (1024 : Int) < (s.size : Int) := by omega
    have HQ : Hid (splE s.data.toList = 3) := spl_long (by rw [hlen]; exact h1)
    rw [HQ.out]
    clear hlen
    go_enter Tryd.func24, Tryd.ntmps24
    go_wp2_with fail
    refine bodyPost_ret (results_tmp4 rfl _ _ _) rfl ?_
    exact ⟨Below.refl _ _, Or.inl ⟨by decide, rfl⟩⟩
  have h1z : ¬ (1024 : Int) < (s.size : Int) := by omega
  have hn1 : ¬ 1024 < s.data.toList.length := by rw [hlen]; exact h1
  by_cases h2 : s.size = 0
  · have h2e : s.toList.isEmpty = true := by
      have e : s.toList = [] := by rw [ByteArray.toList_eq]; exact List.eq_nil_of_length_eq_zero (by rw [hlen]; exact h2)
      rw [e]; rfl
    have HQ : Hid (splE s.data.toList = 150) := spl_head hn1 (by rw [List.eq_nil_of_length_eq_zero (hlen.trans h2)]; decide)
    rw [HQ.out]
    clear hlen hn1 h2
    go_enter Tryd.func24, Tryd.ntmps24
    go_wp2_with fail
    refine bodyPost_ret (results_tmp4 rfl _ _ _) rfl ?_
    exact ⟨Below.refl _ _, Or.inl ⟨by decide, rfl⟩⟩
  have hpos : 0 < s.size := by omega
  have h2e : s.toList.isEmpty = false := by
    have e : s.toList ≠ [] := by
      rw [ByteArray.toList_eq]
      intro c
      have := congrArg List.length c
      rw [hlen] at this
      exact h2 this
    cases h : s.toList with
    | nil => exact absurd h e
    | cons _ _ => rfl
  have r0 := fun W => run_byte s (i := 0) (z := 0) rfl hpos W
  have hb0 := byteAt_lt s 0
  have hd0 := drop_at (s := s) (k := 0) hpos rfl
  rw [List.drop_zero] at hd0
  obtain ⟨x, hx⟩ : ∃ x, byteAt s 0 = x := ⟨_, rfl⟩
  rw [hx] at r0 hb0 hd0
  clear hx
  by_cases h3 : x = 47
  · subst h3
    obtain ⟨r, hr⟩ : ∃ r, s.data.toList.drop (0 + 1) = r := ⟨_, rfl⟩
    rw [hr] at hd0
    have hd1 : s.data.toList = 47 :: r := hd0
    have hhead : s.data.toList.head? = some 47 := by rw [hd1]; rfl
    have hrl : 1 + r.length = s.size := by rw [← hlen, hd1, List.length_cons]; omega
    have hpp := path_pre r
    have htp := tgt_parts (r := r)
    have hfl := ahd_47 r
    have HOK : Hid ((∀ p ∈ rawL s.data.toList, (unesc p).isSome = true) → splE s.data.toList = 0) := fun q => spl_ok hn1 hhead q
    have HNO : Hid (∀ p ∈ rawL s.data.toList, unesc p = none → splE s.data.toList = 150) := fun p q1 q2 => spl_bad hn1 hhead q1 q2
    have H1 : Hid (∀ W : World, Calls Tryd.prog 35 #[.string s, .int .u8 63] W _) := fun W => qfind_any s 63 hs W
    rw [hd1] at HOK HNO H1 ⊢
    rw [hfl] at H1
    obtain ⟨P, hP⟩ : ∃ P, pathL (47 :: r) = P := ⟨_, rfl⟩
    have hL : rawL (47 :: r) = cutL 47 P := by rw [← hP]; rfl
    rw [hP] at H1 hpp htp
    rw [hL] at HOK HNO ⊢
    obtain ⟨n1, hn1'⟩ : ∃ n1, P.length = n1 := ⟨_, rfl⟩
    have hext : s.extract 1 (1 + n1) = bOf P := by
      rw [sub_take, show s.data.toList.drop 1 = r from hr, show 1 + n1 - 1 = n1 by omega, ← hn1', hpp]
    have hnr : n1 ≤ r.length := by
      rw [← hn1', ← hpp, List.length_take]
      omega
    rw [hn1'] at H1
    have H2 : Hid (∀ W : World, Calls Tryd.prog 34 #[.string (bOf P), .int .u8 47] W _) := fun W => qcut_any (bOf P) 47 (by rw [bOf_size]; omega) W
    rw [show (bOf P).data.toList = P from rfl] at H2
    have hcl := cutL_len 47 P
    have HCM : Hid (∀ p ∈ cutL 47 P, p.length ≤ n1) := by rw [Hid, ← hn1']; exact fun p hp => cutL_mem 47 P p hp
    obtain ⟨C, hC⟩ : ∃ C, cutL 47 P = C := ⟨_, rfl⟩
    rw [hC] at HOK HNO H2 HCM hcl ⊢
    obtain ⟨cl, hcl'⟩ : ∃ cl, C.length = cl := ⟨_, rfl⟩
    have HCL : Hid (C.length = cl) := hcl'
    rw [hcl'] at H2 hcl
    have HTP : Hid _ := htp
    have h3z : ((47 : Int) != 47) = false := by decide
    have hatz : (1 : Int) + (n1 : Int) = ((1 + n1 : Nat) : Int) := by omega
    obtain ⟨at1, hat⟩ : ∃ at1, 1 + n1 = at1 := ⟨_, rfl⟩
    rw [hat] at H1 hext
    have ha1 : 1 ≤ at1 ∧ at1 ≤ s.size := by omega
    have hal := ha1.1
    have har := ha1.2
    have hcz : cl ≤ 2000 := by omega
    have HAT : Hid (at1 = 1 + n1) := hat.symm
    have HRL : Hid (1 + r.length = s.size) := hrl
    have HN1 : Hid (P.length = n1) := hn1'
    have HPP : Hid (r.take P.length = P) := hpp
    have HD1 : Hid (s.data.toList = 47 :: r) := hd1
    clear hlen hn1 hd0 hd1 hhead hrl hpp htp hfl hP hL hn1' hnr hC hcl' hatz hat ha1 hcl hr h2
    obtain ⟨EP, hEP⟩ : ∃ EP, splE (47 :: r) = EP := ⟨_, rfl⟩
    rw [hEP] at HOK HNO ⊢
    clear hEP
    go_enter Tryd.func24, Tryd.ntmps24
    go_upto_region 6 with (go_at_call 35; refine (H1.out _).mono ?_; rintro e w1 ⟨rfl, rfl⟩)
    go_upto_region 7 with (go_at_call 34; refine (H2.out _).mono ?_; rintro e w2 ⟨va, vc, rfl, how, b2⟩)
    have HOW : Hid (w2.ownsRow w1.heap.size 9 1 (.slice va cl vc) cl (strV (C.map bOf))) := how
    have HB2 : Hid (Below w1.heap.size w1 w2) := b2
    have HTX : Hid (∀ W, Below w2.heap.size w2 W → TextsAt W va (C.map bOf)) := fun W q => (row_texts HOW.out).below q
    clear how b2
    go_upto_region 8 with fail
    go_loopw [30] (fun i wr => ∃ k : Nat, k ≤ cl ∧ i = .int .i64 (k : Nat) ∧ Hid (∀ p ∈ C.take k, (unesc p).isSome = true) ∧ Hid (Below w2.heap.size w2 wr)) (fun i _ => cl - (intOf i).toNat)
    case atStart => exact ⟨0, by omega, rfl, fun p hp => by simp at hp, Below.refl _ _⟩
    case round =>
      obtain ⟨k, hk, rfl, HA, HB⟩ := hrel
      by_cases hlt : k < cl
      · have hlz : (k : Int) < (cl : Int) := by omega
        obtain ⟨p, hp⟩ : ∃ p, C[k]? = some p := ⟨_, List.getElem?_eq_getElem (by rw [HCL.out]; exact hlt)⟩
        obtain ⟨gb, off, ea, _, c0⟩ := HTX.out wr HB.out k (bOf p) (by rw [List.getElem?_map, hp]; rfl)
        subst ea
        have hpm := List.mem_of_getElem? hp
        have H3 : Hid (∀ W : World, _) := fun W => runescape_any (bOf p) W (by have := HCM.out p hpm; have := HAT.out; rw [bOf_size]; omega)
        rw [show (bOf p).data.toList = p from rfl] at H3
        unfold unescV at H3
        cases hu : unesc p with
        | none =>
          rw [hu] at H3
          dsimp only at H3
          have HE : Hid (EP = 150) := HNO.out p hpm hu
          clear hu hp hpm
          go_wp2_with (go_at_call 26; refine (H3.out _).mono ?_; rintro e w3 ⟨rfl, b3⟩; have HB3 : Hid (Below w1.heap.size w1 w3) := HB2.out.trans ((HB.out.trans (b3.mono HB.out.size)).mono HB2.out.size); clear b3)
          refine bodyPost_ret (results_tmp4 rfl _ _ _) rfl ?_
          exact ⟨HB3.out, Or.inl ⟨by rw [HE.out]; decide, by rw [HE.out]; rfl⟩⟩
        | some u =>
          rw [hu] at H3
          dsimp only at H3
          have HA2 : Hid (∀ p ∈ C.take (k + 1), (unesc p).isSome = true) := by
            rw [Hid, List.take_add_one, hp]
            intro q hq
            rcases List.mem_append.1 hq with hq | hq
            · exact HA.out q hq
            · have : q = p := by simpa using hq
              rw [this, hu]
              rfl
          clear hu hp hpm
          go_wp2_with (go_at_call 26; refine (H3.out _).mono ?_; rintro e w3 ⟨rfl, b3⟩; have HB3 : Hid (Below w2.heap.size w2 w3) := HB.out.trans (b3.mono HB.out.size); clear b3)
          go_roundw
          case rel => exact ⟨k + 1, by omega, by go_num, HA2.out, HB3.out⟩
          case measure => simp [intOf]; omega
      · have hlz : ¬ (k : Int) < (cl : Int) := by omega
        have HE : Hid (EP = 0) := HOK.out (fun p hp => HA.out p (by rw [List.take_of_length_le (by rw [HCL.out]; omega)]; exact hp))
        have HOW2 : Hid (wr.ownsRow w1.heap.size 9 1 (.slice va cl vc) cl (strV (C.map bOf))) := owns_on2 HOW.out HB.out
        have HB3 : Hid (Below w1.heap.size w1 wr) := HB2.out.trans (HB.out.mono HB2.out.size)
        have HPO : Hid (∀ (v : Value) (W : World), W = wr ∨ (∃ n, W = wr.drewN n) → W.ownsRow w1.heap.size 9 1 (.slice va C.length vc) C.length (strV (C.map bOf))) := by
          rw [Hid]
          rintro v W (rfl | ⟨n, rfl⟩)
          · rw [HCL.out]; exact HOW2.out
          · rw [HCL.out]; exact HOW2.out
        rcases HTP.out with ⟨_, g1, g2, g3⟩ | ⟨a, t, g0, g1, g2, g3⟩
        · have hiz : ((at1 : Int) == (s.size : Int)) = true := by
            have h1 := HN1.out
            rw [g1] at h1
            have h2 := HAT.out
            have h3 := HRL.out
            rw [beq_iff_eq]
            omega
          rw [g2, g3]
          go_wp2_with fail
          refine bodyPost_ret (results_tmp4 rfl _ _ _) rfl ?_
          exact ⟨HB3.out, Or.inr ⟨HE.out, va, vc, by rw [HCL.out]; rfl, HPO.out .nilIface _ (Or.inl rfl)⟩⟩
        · have hsl : s.size = at1 + 1 + t.length := by
            have h1 := HN1.out
            have h2 := HAT.out
            have h3 := HRL.out
            rw [g0, List.length_append, List.length_cons] at h3
            rw [g1] at h1
            omega
          have hiz : ((at1 : Int) == (s.size : Int)) = false := by rw [beq_eq_false_iff_ne]; omega
          have hex2 : s.extract (at1 + 1) s.size = bOf t := by
            have h1 := HN1.out
            have h2 := HAT.out
            rw [g1] at h1
            have e : s = bOf ((47 :: a) ++ 63 :: t) := by
              rw [← bOf_self s, HD1.out, g0]
              rfl
            have q := sub_right (47 :: a) t 63
            rw [← e, List.length_cons, h1, show n1 + 1 = at1 by omega] at q
            exact q
          have hslz : (at1 : Int) + 1 ≤ (s.size : Int) := by omega
          have hle2 : at1 + 1 ≤ s.size := by omega
          have HSL : Hid _ := hsl
          rw [g2, g3]
          clear hsl g0 g1
          go_upto_region 16 with fail
          go_quiet (fail)
          go_wp2_with fail
          refine bodyPost_ret (results_tmp4 rfl _ _ _) rfl ?_
          exact ⟨below_drewN' HB3.out _, Or.inr ⟨HE.out, va, vc, by rw [HCL.out, ← hex2]; rfl, HPO.out .nilIface _ (Or.inr ⟨_, rfl⟩)⟩⟩
  · have h3z : ((x : Int) != 47) = true := by simp; omega
    have HQ : Hid (splE s.data.toList = 150) := spl_head hn1 (by rw [hd0]; intro e; simp at e; exact h3 (by have := congrArg UInt8.toNat e; rw [UInt8.toNat_ofNat_of_lt' hb0] at this; exact this))
    rw [HQ.out]
    clear hlen hn1 hd0
    go_enter Tryd.func24, Tryd.ntmps24
    go_wp2_with fail
    refine bodyPost_ret (results_tmp4 rfl _ _ _) rfl ?_
    exact ⟨Below.refl _ _, Or.inl ⟨by decide, rfl⟩⟩
end Go.Proofs.YtbpfggpljfpfcaaDoor
