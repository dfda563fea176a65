/-
  Goes, over an iterator of a list of cells.
-/
import Derived.Test.YtdgmjmohfpjlnaaGob
namespace Go.Proofs.Ytdgmjmohfpjlnaa
open Go.RowKit Go.Shelf
attribute [local go_sem] Oper.semAt_some
set_option maxRecDepth 100000 in
set_option maxHeartbeats 8000000 in
theorem goes_gen (gf : Nat) (lb : Array Value) (L : List Cl) (ob : Nat → Prop) (N : Nat) (xa : Option Addr) (n xc : Nat) (st : Int) (w : World) (eg : ∀ args w, (callFunc gf args).run Try.prog w = .ok (.enter gf args) w)
    (hsq : ∀ W, Below w.heap.size w W → SeqM Fence.wide (8 - 1) Try.prog gf lb (fun c : Cl => #[clV c]) ob (fun xs => xs = L) (fun pre => pre <+: L) N W) (hob : ∀ q, ob q → q < w.heap.size) (hca : CA w.heap.size w xa L) (hl : L.length = n) (hn : n < 1000000000000) :
    Calls Try.prog 24 #[.func (.func gf) #[] lb, .slice xa n xc, .int .i64 st] w fun r w' => r = .returned (.bool true) ∧ Below w.heap.size w w' := by
  obtain ⟨s, hs⟩ : ∃ s, w.heap.size = s := ⟨_, rfl⟩
  have HSS : Hid (w.heap.size = s) := hs
  have HCA : Hid (∀ V, Below s w V → CA V.heap.size V xa L) := fun V hV => (CA.below hca (fun b hb => hV.block b (by omega))).up (by have := hV.size; omega)
  have HLN : Hid (L.length = n) := hl
  rw [hs] at hsq hob
  have HSQ : Hid _ := hsq
  have HOB : Hid (∀ q, ob q → q < s) := hob
  have hnil := feq gf lb
  obtain ⟨W3, hW3⟩ : ∃ W3, W3 = ((w.alloc (.cells #[.slice xa n xc] 27)).alloc (.cells #[.int .i64 st] 3)).alloc (.cells #[.bool false] 4) := ⟨_, rfl⟩
  have hB3 : Below s w W3 := by rw [hW3, ← hs]; exact (((Below.refl _ w).alloc (Nat.le_refl _) _).alloc (by simp) _).alloc (by simp; omega) _
  have hZ3 : W3.heap.size = s + 3 := by rw [hW3]; simp; omega
  have p4 : Boxed W3 s 27 (.slice xa n xc) := by
    show _ = _
    rw [hW3, Below.heap_alloc _ _ _ (by simp; omega), Below.heap_alloc _ _ _ (by simp; omega), ← hs]
    exact World.alloc_heap_new _ _
  have p5 : Boxed W3 (s + 1) 3 (.int .i64 st) := by
    have := World.alloc_heap_new (w.alloc (.cells #[.slice xa n xc] 27)) (.cells #[.int .i64 st] 3)
    rw [World.size_alloc, hs] at this
    show _ = _
    rw [hW3, Below.heap_alloc _ _ _ (by simp; omega)]
    exact this
  have p6 : Boxed W3 (s + 2) 4 (.bool false) := by
    have := World.alloc_heap_new ((w.alloc (.cells #[.slice xa n xc] 27)).alloc (.cells #[.int .i64 st] 3)) (.cells #[.bool false] 4)
    rw [World.size_alloc, World.size_alloc, hs] at this
    rw [hW3]
    exact this
  have HP : Hid (Boxed W3 s 27 (.slice xa n xc) ∧ Boxed W3 (s + 1) 3 (.int .i64 st) ∧ Boxed W3 (s + 2) 4 (.bool false) ∧ Below s w W3) := ⟨p4, p5, p6, hB3⟩
  have HW3 : Hid (W3 = ((w.alloc (.cells #[.slice xa n xc] 27)).alloc (.cells #[.int .i64 st] 3)).alloc (.cells #[.bool false] 4)) := hW3
  clear hca hl hsq hob hW3 hB3 p4 p5 p6
  refine callsIn_wide.1 (callsIn_of_wp_marks (F := Fence.wide) (n := 8) Try.func24 rfl trivial ?_ rfl)
  refine wpIn_wide.2 ?_
  simp only [Try.ntmps24, List.size_toArray, List.length_cons, List.length_nil, Nat.reduceAdd, Nat.reduceSub, Array.replicate_succ, Array.replicate_zero, List.push_toArray, List.append_toArray, List.nil_append, List.cons_append]
  go_wp2_with fail
  rw [← HW3.out]
  refine wp_loop_rounds 3 ?_
  rw [rounds_succ]
  have k7 : (W3.alloc (.cells #[.int .i64 0] 3)).cell? ⟨s + 3, 0, none⟩ = some (.int .i64 0) := by
    have := World.alloc_heap_new W3 (.cells #[.int .i64 0] 3)
    rw [hZ3] at this
    exact boxed_cell this
  go_wp2_with fail
  obtain ⟨X, hX⟩ : ∃ X, (W3.alloc (.cells #[.int .i64 0] 3)).alloc (.cells #[.int .i64 0] 3) = X := ⟨_, rfl⟩
  rw [hX]
  have bX : Below (s + 3) W3 X := by rw [← hX, ← hZ3]; exact ((Below.refl _ W3).alloc (Nat.le_refl _) _).alloc (by simp) _
  have hXs : X.heap.size = s + 5 := by rw [← hX]; simp; omega
  have LX : GL s (s + 5) (s + 1 + 1 + 1) (s + 3 + 1) := ⟨by omega, by omega, by omega⟩
  have IX : GI w s (s + 5) (s + 1 + 1 + 1) (s + 3 + 1) 0 [] xa n xc st L [] X := by
    obtain ⟨p4, p5, p6, pB⟩ := HP.out
    refine ⟨pB.trans (bX.mono (by omega)), by omega, boxed_below p4 bX (by omega), boxed_below p5 bX (by omega), boxed_below p6 bX (by omega), ?_, ?_, fun D hD => (by cases hD), List.nil_prefix⟩
    · show _ = _
      rw [← hX, Below.heap_alloc _ _ _ (by simp; omega)]
      have := World.alloc_heap_new W3 (.cells #[.int .i64 0] 3)
      rw [hZ3] at this
      exact this
    · have := World.alloc_heap_new (W3.alloc (.cells #[.int .i64 0] 3)) (.cells #[.int .i64 0] 3)
      rw [World.size_alloc, hX, hZ3] at this
      exact this
  clear hX bX HP HW3 k7 hZ3
  refine (wpIn_wide (n := 8)).1 ?_
  refine wpIn_rangeFunc_MB2 (w := X) (w0 := X) rfl (by omega) (gf := gf) (lb := lb) rfl trivial eg (HSQ.out X IX.bel) (fun q hq => by have := HOB.out q hq; have := IX.bel.size; have := HSS.out; omega) (Below.refl _ _) (fun _ => rfl)
    (fun _ pre W => GI w s (s + 5) (s + 1 + 1 + 1) (s + 3 + 1) 0 [] xa n xc st L pre W) (fun _ c pre W => GX w s (s + 5) (s + 1 + 1 + 1) (s + 3 + 1) 0 [] xa n xc st L true c pre W)
    (fun _ => by rw [hXs]; exact gi_own LX) (fun _ c => by rw [hXs]; exact gx_own LX true c)
    (fun W0 hb _ => IX.below (by rw [← hXs]; exact hb) LX) (fun c : Cl => .cells #[.string c.key, .int .u64 ((c.seq : Nat) : Int), .string c.val, .bool c.gone] 33) ?a10 ?assign0 ?body0 ?done0 ?stop0
  case assign0 =>
    intro lp y W A hA K hK
    simp only [clV]
    gi_wp2
    exact hK
  case body0 =>
    rintro lp M pre y A W hzM hMA hA hI hlen'
    obtain ⟨c0, c1, c2, c3⟩ := CB.cells (c := y) hA
    have k4 := boxed_cell hI.q4
    have k5 := boxed_cell hI.q5
    have k6 : W.cell? ⟨s + 1 + 1, 0, none⟩ = _ := boxed_cell hI.q6
    have f6 : W.frozen? ⟨s + 1 + 1, 0, none⟩ = false := boxed_frozen hI.q6
    have k7 : W.cell? ⟨s + 1 + 1 + 1, 0, none⟩ = _ := boxed_cell hI.q7
    have k8 : W.cell? ⟨s + 3 + 1, 0, none⟩ = _ := boxed_cell hI.q8
    have f8 : W.frozen? ⟨s + 3 + 1, 0, none⟩ = false := boxed_frozen hI.q8
    obtain ⟨m, hm⟩ : ∃ m, pre.length = m := ⟨_, rfl⟩
    have HM : Hid (pre.length = m) := hm
    rw [hm] at k8
    have HCW := HCA.out W hI.bel
    by_cases hmn : n ≤ m
    · have HPF : Hid (¬ (pre ++ [y]) <+: L) := fun q => by have := q.length_le; rw [List.length_append, hm, HLN.out] at this; simp at this; omega
      have hmR : ((n : Nat) : Int) ≤ ((m : Nat) : Int) := by omega
      have hmR2 : decide (((n : Nat) : Int) ≤ ((m : Nat) : Int)) = true := decide_eq_true hmR
      have hmR3 : decide (n ≤ m) = true := decide_eq_true hmn
      clear hI hA hm HCW hmn
      gi_wp2
      refine wpIn_region_q_r (fun o ho c => ?nd) rfl (by kernel_rfl) ?_
      case nd => simp only [List.mem_cons, List.not_mem_nil, or_false] at ho; rcases ho with rfl | rfl | rfl | rfl | rfl | rfl | rfl | rfl | rfl | rfl | rfl | rfl <;> simp
      repeat (gi_big_quiet_step (fail))
      refine wpQuietIn_nil ?_
      intro _ hw'
      obtain ⟨nq, hw''⟩ := hw'
      subst hw''
      gi_wp2
      exact ⟨keeps_set W nq ⟨s + 1 + 1, 0, none⟩ _ _, .inr HPF.out⟩
    · have hmn' : m < n := by omega
      obtain ⟨d, hd⟩ : ∃ d, L[m]? = some d := ⟨_, List.getElem?_eq_getElem (by rw [HLN.out]; exact hmn')⟩
      obtain ⟨xb, xo, exa, _, x0, x1, x2, x3⟩ := HCW m d hd
      have hpre := hI.pre
      have hmR : ((m : Nat) : Int) < ((n : Nat) : Int) := by omega
      have hmR2 : decide (((n : Nat) : Int) ≤ ((m : Nat) : Int)) = false := decide_eq_false (by omega)
      have hmR3 : decide (n ≤ m) = false := decide_eq_false (by omega)
      have HDD : Hid (L[m]? = some d) := hd
      have HGI : Hid _ := hI
      rw [exa] at k4
      subst exa
      clear hI hA HCW hd
      by_cases hyd : y = d
      · subst hyd
        have HPF : Hid ((pre ++ [y]) <+: L) := by
          obtain ⟨T, hT⟩ := hpre
          have hLm := HDD.out
          rw [← hT, List.getElem?_append_right (by omega), hm, Nat.sub_self] at hLm
          cases T with
          | nil => cases hLm
          | cons e T => simp at hLm; subst hLm; exact ⟨T, by rw [← hT]; simp⟩
        have HI : Hid (∀ q, _) := fun q => GI.step HGI.out LX y hm HPF.out q
        clear hpre HGI HPF HDD hm hmn
        obtain ⟨yk, ys, yv, yg⟩ := y
        simp only at c0 c1 c2 c3 x0 x1 x2 x3
        by_cases hst : (m : Int) + 1 = st
        · have hst' : ((m : Int) + 1 == st) = true := by simp [hst]
          gi_wp2
          refine wpIn_region_q_r (fun o ho c => ?nd) rfl (by kernel_rfl) ?_
          case nd => simp only [List.mem_cons, List.not_mem_nil, or_false] at ho; rcases ho with rfl | rfl | rfl | rfl | rfl | rfl | rfl | rfl | rfl | rfl | rfl | rfl <;> simp
          repeat (gi_big_quiet_step (fail))
          refine wpQuietIn_nil ?_
          intro _ hw'
          obtain ⟨nq, hw''⟩ := hw'
          subst hw''
          gi_wp2
          exact ⟨keeps_set W nq ⟨s + 3 + 1, 0, none⟩ _ _, .inl ⟨rfl, rfl, by rw [List.length_append, HM.out]; simp; omega, by have h2 := HI.out nq; rw [hst] at h2; exact h2⟩⟩
        · have hst' : ((m : Int) + 1 == st) = false := by simp [hst]
          gi_wp2
          refine wpIn_region_q_r (fun o ho c => ?nd) rfl (by kernel_rfl) ?_
          case nd => simp only [List.mem_cons, List.not_mem_nil, or_false] at ho; rcases ho with rfl | rfl | rfl | rfl | rfl | rfl | rfl | rfl | rfl | rfl | rfl | rfl <;> simp
          repeat (gi_big_quiet_step (fail))
          refine wpQuietIn_nil ?_
          intro _ hw'
          obtain ⟨nq, hw''⟩ := hw'
          subst hw''
          gi_wp2
          refine ⟨keeps_set W nq ⟨s + 3 + 1, 0, none⟩ _ _, ?_, HI.out nq⟩
          rw [hXs]
          exact GI.kp LX HOB.out _ _ _
      · have HPF : Hid (¬ (pre ++ [y]) <+: L) := fun q => hyd (by
          obtain ⟨T, hT⟩ := q
          have hLm := HDD.out
          rw [← hT, List.append_assoc, List.getElem?_append_right (by omega), hm, Nat.sub_self] at hLm
          simpa using hLm)
        have hcne := cne hyd
        clear hpre HGI HDD hm hmn hyd
        gi_wp2
        refine wpIn_region_q_r (fun o ho c => ?nd) rfl (by kernel_rfl) ?_
        case nd => simp only [List.mem_cons, List.not_mem_nil, or_false] at ho; rcases ho with rfl | rfl | rfl | rfl | rfl | rfl | rfl | rfl | rfl | rfl | rfl | rfl <;> simp
        repeat (gi_big_quiet_step (fail))
        refine wpQuietIn_nil ?_
        intro _ hw'
        obtain ⟨nq, hw''⟩ := hw'
        subst hw''
        gi_wp2
        exact ⟨keeps_set W nq ⟨s + 1 + 1, 0, none⟩ _ _, .inr HPF.out⟩
  case done0 =>
    rintro D M0 xs W hD hM0 hS hI hd
    have hlen : xs.length = n := by rw [hS]; exact HLN.out
    have k8 : W.cell? ⟨s + 3 + 1, 0, none⟩ = _ := boxed_cell hI.q8
    have k7 : W.cell? ⟨s + 1 + 1 + 1, 0, none⟩ = _ := boxed_cell hI.q7
    have k4 := boxed_cell hI.q4
    have k5 := boxed_cell hI.q5
    have HI : Hid _ := hI
    have HD : Hid _ := hd
    have HDD : Hid _ := hD
    obtain ⟨y2, hy2⟩ : ∃ y2, W.heap.size = y2 := ⟨_, rfl⟩
    rw [hlen] at k8
    have hne : ((n : Int) != (n : Int)) = false := by simp
    clear hI hd hD hS hlen hM0
    go_wp2_with fail
    rw [rounds_succ]
    have k7b : (W.alloc (.cells #[.int .i64 1] 3)).cell? ⟨y2, 0, none⟩ = some (.int .i64 1) := by
      have := World.alloc_heap_new W (.cells #[.int .i64 1] 3)
      rw [hy2] at this
      exact boxed_cell this
    go_wp2_with fail
    obtain ⟨X1, hX1⟩ : ∃ X1, (W.alloc (.cells #[.int .i64 1] 3)).alloc (.cells #[.int .i64 0] 3) = X1 := ⟨_, rfl⟩
    rw [hX1]
    have bX1 : Below y2 W X1 := by rw [← hX1, ← hy2]; exact ((Below.refl _ W).alloc (Nat.le_refl _) _).alloc (by simp) _
    have hX1s : X1.heap.size = y2 + 2 := by rw [← hX1, ← hy2]; simp
    have hvy : s + 5 ≤ y2 := by rw [← hy2]; exact HI.out.sz
    have hDy : D < y2 := by rw [← hy2]; exact (Array.getElem?_eq_some_iff.1 HD.out).1
    have hDs : s + 5 ≤ D := by rw [← hXs]; exact HDD.out
    have LX1 : GL s (y2 + 2) y2 (y2 + 1) := ⟨by omega, by omega, by omega⟩
    have IX1 : GI w s (y2 + 2) y2 (y2 + 1) 1 [D] xa n xc st L [] X1 := by
      refine ⟨HI.out.bel.trans (bX1.mono (by omega)), by omega, boxed_below HI.out.q4 bX1 (by omega), boxed_below HI.out.q5 bX1 (by omega), boxed_below HI.out.q6 bX1 (by omega), ?_, ?_, fun D' hD' => ?_, List.nil_prefix⟩
      · show _ = _
        rw [← hX1, ← hy2, Below.heap_alloc _ _ _ (by simp)]
        exact World.alloc_heap_new _ _
      · have := World.alloc_heap_new (W.alloc (.cells #[.int .i64 1] 3)) (.cells #[.int .i64 0] 3)
        rw [World.size_alloc, hX1, hy2] at this
        exact this
      · obtain rfl : D' = D := by simpa using hD'
        exact ⟨by omega, hDy, (bX1.block D' hDy).trans HD.out⟩
    clear hX1 bX1 k7b hy2 HI HD HDD
    refine (wpIn_wide (n := 8)).1 ?_
    refine wpIn_rangeFunc_MB2 (w := X1) (w0 := X1) rfl (by omega) (gf := gf) (lb := lb) rfl trivial eg (HSQ.out X1 IX1.bel) (fun q hq => by have := HOB.out q hq; have := IX1.bel.size; have := HSS.out; omega) (Below.refl _ _) (fun _ => rfl)
      (fun _ pre W => GI w s (y2 + 2) (y2) (y2 + 1) 1 [D] xa n xc st L pre W) (fun _ c pre W => GX w s (y2 + 2) (y2) (y2 + 1) 1 [D] xa n xc st L false c pre W)
      (fun _ => by rw [hX1s]; exact gi_own LX1) (fun _ c => by rw [hX1s]; exact gx_own LX1 false c)
      (fun W0 hb _ => IX1.below (by rw [← hX1s]; exact hb) LX1) (fun c : Cl => .cells #[.string c.key, .int .u64 ((c.seq : Nat) : Int), .string c.val, .bool c.gone] 33) ?a11a ?assign1a ?body1a ?done1a ?stop1a
    case assign1a =>
      intro lp y W A hA K hK
      simp only [clV]
      gi_wp2
      exact hK
    case body1a =>
      rintro lp M pre y A W hzM hMA hA hI hlen'
      obtain ⟨c0, c1, c2, c3⟩ := CB.cells (c := y) hA
      have k4 := boxed_cell hI.q4
      have k5 := boxed_cell hI.q5
      have k6 : W.cell? ⟨s + 1 + 1, 0, none⟩ = _ := boxed_cell hI.q6
      have f6 : W.frozen? ⟨s + 1 + 1, 0, none⟩ = false := boxed_frozen hI.q6
      have k7 : W.cell? ⟨y2, 0, none⟩ = _ := boxed_cell hI.q7
      have k8 : W.cell? ⟨y2 + 1, 0, none⟩ = _ := boxed_cell hI.q8
      have f8 : W.frozen? ⟨y2 + 1, 0, none⟩ = false := boxed_frozen hI.q8
      obtain ⟨m, hm⟩ : ∃ m, pre.length = m := ⟨_, rfl⟩
      have HM : Hid (pre.length = m) := hm
      rw [hm] at k8
      have HCW := HCA.out W hI.bel
      by_cases hmn : n ≤ m
      · have HPF : Hid (¬ (pre ++ [y]) <+: L) := fun q => by have := q.length_le; rw [List.length_append, hm, HLN.out] at this; simp at this; omega
        have hmR : ((n : Nat) : Int) ≤ ((m : Nat) : Int) := by omega
        have hmR2 : decide (((n : Nat) : Int) ≤ ((m : Nat) : Int)) = true := decide_eq_true hmR
        have hmR3 : decide (n ≤ m) = true := decide_eq_true hmn
        clear hI hA hm HCW hmn
        gi_wp2
        refine wpIn_region_q_r (fun o ho c => ?nd) rfl (by kernel_rfl) ?_
        case nd => simp only [List.mem_cons, List.not_mem_nil, or_false] at ho; rcases ho with rfl | rfl | rfl | rfl | rfl | rfl | rfl | rfl | rfl | rfl | rfl | rfl <;> simp
        repeat (gi_big_quiet_step (fail))
        refine wpQuietIn_nil ?_
        intro _ hw'
        obtain ⟨nq, hw''⟩ := hw'
        subst hw''
        gi_wp2
        exact ⟨keeps_set W nq ⟨s + 1 + 1, 0, none⟩ _ _, .inr HPF.out⟩
      · have hmn' : m < n := by omega
        obtain ⟨d, hd⟩ : ∃ d, L[m]? = some d := ⟨_, List.getElem?_eq_getElem (by rw [HLN.out]; exact hmn')⟩
        obtain ⟨xb, xo, exa, _, x0, x1, x2, x3⟩ := HCW m d hd
        have hpre := hI.pre
        have hmR : ((m : Nat) : Int) < ((n : Nat) : Int) := by omega
        have hmR2 : decide (((n : Nat) : Int) ≤ ((m : Nat) : Int)) = false := decide_eq_false (by omega)
        have hmR3 : decide (n ≤ m) = false := decide_eq_false (by omega)
        have HDD : Hid (L[m]? = some d) := hd
        have HGI : Hid _ := hI
        rw [exa] at k4
        subst exa
        clear hI hA HCW hd
        by_cases hyd : y = d
        · subst hyd
          have HPF : Hid ((pre ++ [y]) <+: L) := by
            obtain ⟨T, hT⟩ := hpre
            have hLm := HDD.out
            rw [← hT, List.getElem?_append_right (by omega), hm, Nat.sub_self] at hLm
            cases T with
            | nil => cases hLm
            | cons e T => simp at hLm; subst hLm; exact ⟨T, by rw [← hT]; simp⟩
          have HI : Hid (∀ q, _) := fun q => GI.step HGI.out LX1 y hm HPF.out q
          clear hpre HGI HPF HDD hm hmn
          obtain ⟨yk, ys, yv, yg⟩ := y
          simp only at c0 c1 c2 c3 x0 x1 x2 x3
          gi_wp2
          refine wpIn_region_q_r (fun o ho c => ?nd) rfl (by kernel_rfl) ?_
          case nd => simp only [List.mem_cons, List.not_mem_nil, or_false] at ho; rcases ho with rfl | rfl | rfl | rfl | rfl | rfl | rfl | rfl | rfl | rfl | rfl | rfl <;> simp
          repeat (gi_big_quiet_step (fail))
          refine wpQuietIn_nil ?_
          intro _ hw'
          obtain ⟨nq, hw''⟩ := hw'
          subst hw''
          gi_wp2
          refine ⟨keeps_set W nq ⟨y2 + 1, 0, none⟩ _ _, ?_, HI.out nq⟩
          rw [hX1s]
          exact GI.kp LX1 HOB.out _ _ _
        · have HPF : Hid (¬ (pre ++ [y]) <+: L) := fun q => hyd (by
            obtain ⟨T, hT⟩ := q
            have hLm := HDD.out
            rw [← hT, List.append_assoc, List.getElem?_append_right (by omega), hm, Nat.sub_self] at hLm
            simpa using hLm)
          have hcne := cne hyd
          clear hpre HGI HDD hm hmn hyd
          gi_wp2
          refine wpIn_region_q_r (fun o ho c => ?nd) rfl (by kernel_rfl) ?_
          case nd => simp only [List.mem_cons, List.not_mem_nil, or_false] at ho; rcases ho with rfl | rfl | rfl | rfl | rfl | rfl | rfl | rfl | rfl | rfl | rfl | rfl <;> simp
          repeat (gi_big_quiet_step (fail))
          refine wpQuietIn_nil ?_
          intro _ hw'
          obtain ⟨nq, hw''⟩ := hw'
          subst hw''
          gi_wp2
          exact ⟨keeps_set W nq ⟨s + 1 + 1, 0, none⟩ _ _, .inr HPF.out⟩
    case done1a =>
      rintro D1 M1 xs W4 hD hM1 hS hI hd
      have hlen : xs.length = n := by rw [hS]; exact HLN.out
      have k8 := boxed_cell hI.q8
      have k7 := boxed_cell hI.q7
      have k4 := boxed_cell hI.q4
      rw [hlen] at k8
      have hne : ((n : Int) != (n : Int)) = false := by simp
      obtain ⟨y3, hy3⟩ : ∃ y3, W4.heap.size = y3 := ⟨_, rfl⟩
      have HI1 : Hid _ := hI
      have HD1 : Hid _ := hd
      have HDD1 : Hid _ := hD
      clear hI hd hD hS hlen hM1
      go_wp2_with fail
      rw [rounds_succ]
      have k7c : (W4.alloc (.cells #[.int .i64 2] 3)).cell? ⟨y3, 0, none⟩ = some (.int .i64 2) := by
        have := World.alloc_heap_new W4 (.cells #[.int .i64 2] 3)
        rw [hy3] at this
        exact boxed_cell this
      have k6 : (W4.alloc (.cells #[.int .i64 2] 3)).cell? ⟨s + 1 + 1, 0, none⟩ = some (.bool false) := boxed_cell (HI1.out.q6.alloc _)
      have f6 : (W4.alloc (.cells #[.int .i64 2] 3)).frozen? ⟨s + 1 + 1, 0, none⟩ = false := boxed_frozen (HI1.out.q6.alloc _)
      go_wp2_with fail
      obtain ⟨Y, hY⟩ : ∃ Y, (W4.alloc (.cells #[.int .i64 2] 3)).setCell ⟨s + 1 + 1, 0, none⟩ (.bool true) = Y := ⟨_, rfl⟩
      rw [hY]
      have hDD1 := HDD1.out
      rw [hX1s] at hDD1
      have hlt1 : D1 < W4.heap.size := (Array.getElem?_eq_some_iff.1 HD1.out).1
      obtain ⟨e1, e2, e3⟩ := HI1.out.dq D (by simp)
      have hsz4 := HI1.out.sz
      have hD1Y : Y.heap[D1]? = some (.deferred (some [])) := by rw [← hY]; exact (Below.heap_setCell _ _ _ _ (by show D1 ≠ s + 1 + 1; omega)).trans ((Below.heap_alloc _ _ _ hlt1).trans HD1.out)
      have hDY : Y.heap[D]? = some (.deferred (some [])) := by rw [← hY]; exact (Below.heap_setCell _ _ _ _ (by show D ≠ s + 1 + 1; omega)).trans ((Below.heap_alloc _ _ _ (by omega)).trans e3)
      have q6Y : Boxed Y (s + 1 + 1) 4 (.bool true) := by rw [← hY]; exact Boxed.set _ (HI1.out.q6.alloc _)
      have bY : Below s w Y := by
        rw [← hY]
        exact (HI1.out.bel.alloc (by omega) _).setCell (p := ⟨s + 1 + 1, 0, none⟩) (by show s ≤ s + 1 + 1; omega) _
      refine leaves_marks [D1, D] _ (by simp; omega) (fun D' hD' => ?_) (fun w' e0 e1' e2' => ?_)
      · rcases List.mem_cons.1 hD' with rfl | hD'
        · exact hD1Y
        · rw [List.mem_singleton.1 hD']; exact hDY
      · have hb : Boxed w' (s + 1 + 1) 4 (.bool true) := (e2' _ (by simp; omega)).trans q6Y
        have hws := HSS.out
        refine ⟨.bool true, ?_, rfl, ?_⟩
        · have cb := hb.cell
          rw [results_cell1 rfl]
          go_simp
        · rw [hws]
          exact bY.trans ⟨e0.1, e0.2.1, e0.2.2, by omega, fun q hq => e2' q (by simp; omega)⟩
    case stop1a =>
      rintro D1 M1 c pre W4 _ _ hSp (⟨h, _⟩ | h) _
      · cases h
      · exact absurd hSp h
  case stop0 =>
    rintro D M0 c pre W hD hM0 hSp hX hd
    obtain ⟨_, rfl, hst, hI⟩ := hX.resolve_right (fun q => q hSp)
    refine wpIn_wide.2 ?_
    have k8 : W.cell? ⟨s + 3 + 1, 0, none⟩ = _ := boxed_cell hI.q8
    have k7 : W.cell? ⟨s + 1 + 1 + 1, 0, none⟩ = _ := boxed_cell hI.q7
    have k4 := boxed_cell hI.q4
    have k5 := boxed_cell hI.q5
    have HI : Hid _ := hI
    have HD : Hid _ := hd
    have HDD : Hid _ := hD
    obtain ⟨y2, hy2⟩ : ∃ y2, W.heap.size = y2 := ⟨_, rfl⟩
    rw [hst] at k8
    have hpn : (st = (n : Int)) ∨ ((st != (n : Int)) = true ∧ (st != st) = false) := by
      by_cases q : st = (n : Int)
      · exact .inl q
      · exact .inr ⟨by simp [q], by simp⟩
    clear hI hd hD hSp hst hM0
    rcases hpn with hsn | ⟨hne, hse⟩
    · rw [hsn] at k8
      have hne : ((n : Int) != (n : Int)) = false := by simp
      go_wp2_with fail
      rw [rounds_succ]
      have k7b : (W.alloc (.cells #[.int .i64 1] 3)).cell? ⟨y2, 0, none⟩ = some (.int .i64 1) := by
        have := World.alloc_heap_new W (.cells #[.int .i64 1] 3)
        rw [hy2] at this
        exact boxed_cell this
      go_wp2_with fail
      obtain ⟨X1, hX1⟩ : ∃ X1, (W.alloc (.cells #[.int .i64 1] 3)).alloc (.cells #[.int .i64 0] 3) = X1 := ⟨_, rfl⟩
      rw [hX1]
      have bX1 : Below y2 W X1 := by rw [← hX1, ← hy2]; exact ((Below.refl _ W).alloc (Nat.le_refl _) _).alloc (by simp) _
      have hX1s : X1.heap.size = y2 + 2 := by rw [← hX1, ← hy2]; simp
      have hvy : s + 5 ≤ y2 := by rw [← hy2]; exact HI.out.sz
      have hDy : D < y2 := by rw [← hy2]; exact (Array.getElem?_eq_some_iff.1 HD.out).1
      have hDs : s + 5 ≤ D := by rw [← hXs]; exact HDD.out
      have LX1 : GL s (y2 + 2) y2 (y2 + 1) := ⟨by omega, by omega, by omega⟩
      have IX1 : GI w s (y2 + 2) y2 (y2 + 1) 1 [D] xa n xc st L [] X1 := by
        refine ⟨HI.out.bel.trans (bX1.mono (by omega)), by omega, boxed_below HI.out.q4 bX1 (by omega), boxed_below HI.out.q5 bX1 (by omega), boxed_below HI.out.q6 bX1 (by omega), ?_, ?_, fun D' hD' => ?_, List.nil_prefix⟩
        · show _ = _
          rw [← hX1, ← hy2, Below.heap_alloc _ _ _ (by simp)]
          exact World.alloc_heap_new _ _
        · have := World.alloc_heap_new (W.alloc (.cells #[.int .i64 1] 3)) (.cells #[.int .i64 0] 3)
          rw [World.size_alloc, hX1, hy2] at this
          exact this
        · obtain rfl : D' = D := by simpa using hD'
          exact ⟨by omega, hDy, (bX1.block D' hDy).trans HD.out⟩
      clear hX1 bX1 k7b hy2 HI HD HDD
      refine (wpIn_wide (n := 8)).1 ?_
      refine wpIn_rangeFunc_MB2 (w := X1) (w0 := X1) rfl (by omega) (gf := gf) (lb := lb) rfl trivial eg (HSQ.out X1 IX1.bel) (fun q hq => by have := HOB.out q hq; have := IX1.bel.size; have := HSS.out; omega) (Below.refl _ _) (fun _ => rfl)
        (fun _ pre W => GI w s (y2 + 2) (y2) (y2 + 1) 1 [D] xa n xc st L pre W) (fun _ c pre W => GX w s (y2 + 2) (y2) (y2 + 1) 1 [D] xa n xc st L false c pre W)
        (fun _ => by rw [hX1s]; exact gi_own LX1) (fun _ c => by rw [hX1s]; exact gx_own LX1 false c)
        (fun W0 hb _ => IX1.below (by rw [← hX1s]; exact hb) LX1) (fun c : Cl => .cells #[.string c.key, .int .u64 ((c.seq : Nat) : Int), .string c.val, .bool c.gone] 33) ?a11b ?assign1b ?body1b ?done1b ?stop1b
      case assign1b =>
        intro lp y W A hA K hK
        simp only [clV]
        gi_wp2
        exact hK
      case body1b =>
        rintro lp M pre y A W hzM hMA hA hI hlen'
        obtain ⟨c0, c1, c2, c3⟩ := CB.cells (c := y) hA
        have k4 := boxed_cell hI.q4
        have k5 := boxed_cell hI.q5
        have k6 : W.cell? ⟨s + 1 + 1, 0, none⟩ = _ := boxed_cell hI.q6
        have f6 : W.frozen? ⟨s + 1 + 1, 0, none⟩ = false := boxed_frozen hI.q6
        have k7 : W.cell? ⟨y2, 0, none⟩ = _ := boxed_cell hI.q7
        have k8 : W.cell? ⟨y2 + 1, 0, none⟩ = _ := boxed_cell hI.q8
        have f8 : W.frozen? ⟨y2 + 1, 0, none⟩ = false := boxed_frozen hI.q8
        obtain ⟨m, hm⟩ : ∃ m, pre.length = m := ⟨_, rfl⟩
        have HM : Hid (pre.length = m) := hm
        rw [hm] at k8
        have HCW := HCA.out W hI.bel
        by_cases hmn : n ≤ m
        · have HPF : Hid (¬ (pre ++ [y]) <+: L) := fun q => by have := q.length_le; rw [List.length_append, hm, HLN.out] at this; simp at this; omega
          have hmR : ((n : Nat) : Int) ≤ ((m : Nat) : Int) := by omega
          have hmR2 : decide (((n : Nat) : Int) ≤ ((m : Nat) : Int)) = true := decide_eq_true hmR
          have hmR3 : decide (n ≤ m) = true := decide_eq_true hmn
          clear hI hA hm HCW hmn
          gi_wp2
          refine wpIn_region_q_r (fun o ho c => ?nd) rfl (by kernel_rfl) ?_
          case nd => simp only [List.mem_cons, List.not_mem_nil, or_false] at ho; rcases ho with rfl | rfl | rfl | rfl | rfl | rfl | rfl | rfl | rfl | rfl | rfl | rfl <;> simp
          repeat (gi_big_quiet_step (fail))
          refine wpQuietIn_nil ?_
          intro _ hw'
          obtain ⟨nq, hw''⟩ := hw'
          subst hw''
          gi_wp2
          exact ⟨keeps_set W nq ⟨s + 1 + 1, 0, none⟩ _ _, .inr HPF.out⟩
        · have hmn' : m < n := by omega
          obtain ⟨d, hd⟩ : ∃ d, L[m]? = some d := ⟨_, List.getElem?_eq_getElem (by rw [HLN.out]; exact hmn')⟩
          obtain ⟨xb, xo, exa, _, x0, x1, x2, x3⟩ := HCW m d hd
          have hpre := hI.pre
          have hmR : ((m : Nat) : Int) < ((n : Nat) : Int) := by omega
          have hmR2 : decide (((n : Nat) : Int) ≤ ((m : Nat) : Int)) = false := decide_eq_false (by omega)
          have hmR3 : decide (n ≤ m) = false := decide_eq_false (by omega)
          have HDD : Hid (L[m]? = some d) := hd
          have HGI : Hid _ := hI
          rw [exa] at k4
          subst exa
          clear hI hA HCW hd
          by_cases hyd : y = d
          · subst hyd
            have HPF : Hid ((pre ++ [y]) <+: L) := by
              obtain ⟨T, hT⟩ := hpre
              have hLm := HDD.out
              rw [← hT, List.getElem?_append_right (by omega), hm, Nat.sub_self] at hLm
              cases T with
              | nil => cases hLm
              | cons e T => simp at hLm; subst hLm; exact ⟨T, by rw [← hT]; simp⟩
            have HI : Hid (∀ q, _) := fun q => GI.step HGI.out LX1 y hm HPF.out q
            clear hpre HGI HPF HDD hm hmn
            obtain ⟨yk, ys, yv, yg⟩ := y
            simp only at c0 c1 c2 c3 x0 x1 x2 x3
            gi_wp2
            refine wpIn_region_q_r (fun o ho c => ?nd) rfl (by kernel_rfl) ?_
            case nd => simp only [List.mem_cons, List.not_mem_nil, or_false] at ho; rcases ho with rfl | rfl | rfl | rfl | rfl | rfl | rfl | rfl | rfl | rfl | rfl | rfl <;> simp
            repeat (gi_big_quiet_step (fail))
            refine wpQuietIn_nil ?_
            intro _ hw'
            obtain ⟨nq, hw''⟩ := hw'
            subst hw''
            gi_wp2
            refine ⟨keeps_set W nq ⟨y2 + 1, 0, none⟩ _ _, ?_, HI.out nq⟩
            rw [hX1s]
            exact GI.kp LX1 HOB.out _ _ _
          · have HPF : Hid (¬ (pre ++ [y]) <+: L) := fun q => hyd (by
              obtain ⟨T, hT⟩ := q
              have hLm := HDD.out
              rw [← hT, List.append_assoc, List.getElem?_append_right (by omega), hm, Nat.sub_self] at hLm
              simpa using hLm)
            have hcne := cne hyd
            clear hpre HGI HDD hm hmn hyd
            gi_wp2
            refine wpIn_region_q_r (fun o ho c => ?nd) rfl (by kernel_rfl) ?_
            case nd => simp only [List.mem_cons, List.not_mem_nil, or_false] at ho; rcases ho with rfl | rfl | rfl | rfl | rfl | rfl | rfl | rfl | rfl | rfl | rfl | rfl <;> simp
            repeat (gi_big_quiet_step (fail))
            refine wpQuietIn_nil ?_
            intro _ hw'
            obtain ⟨nq, hw''⟩ := hw'
            subst hw''
            gi_wp2
            exact ⟨keeps_set W nq ⟨s + 1 + 1, 0, none⟩ _ _, .inr HPF.out⟩
      case done1b =>
        rintro D1 M1 xs W4 hD hM1 hS hI hd
        have hlen : xs.length = n := by rw [hS]; exact HLN.out
        have k8 := boxed_cell hI.q8
        have k7 := boxed_cell hI.q7
        have k4 := boxed_cell hI.q4
        rw [hlen] at k8
        have hne : ((n : Int) != (n : Int)) = false := by simp
        obtain ⟨y3, hy3⟩ : ∃ y3, W4.heap.size = y3 := ⟨_, rfl⟩
        have HI1 : Hid _ := hI
        have HD1 : Hid _ := hd
        have HDD1 : Hid _ := hD
        clear hI hd hD hS hlen hM1
        go_wp2_with fail
        rw [rounds_succ]
        have k7c : (W4.alloc (.cells #[.int .i64 2] 3)).cell? ⟨y3, 0, none⟩ = some (.int .i64 2) := by
          have := World.alloc_heap_new W4 (.cells #[.int .i64 2] 3)
          rw [hy3] at this
          exact boxed_cell this
        have k6 : (W4.alloc (.cells #[.int .i64 2] 3)).cell? ⟨s + 1 + 1, 0, none⟩ = some (.bool false) := boxed_cell (HI1.out.q6.alloc _)
        have f6 : (W4.alloc (.cells #[.int .i64 2] 3)).frozen? ⟨s + 1 + 1, 0, none⟩ = false := boxed_frozen (HI1.out.q6.alloc _)
        go_wp2_with fail
        obtain ⟨Y, hY⟩ : ∃ Y, (W4.alloc (.cells #[.int .i64 2] 3)).setCell ⟨s + 1 + 1, 0, none⟩ (.bool true) = Y := ⟨_, rfl⟩
        rw [hY]
        have hDD1 := HDD1.out
        rw [hX1s] at hDD1
        have hlt1 : D1 < W4.heap.size := (Array.getElem?_eq_some_iff.1 HD1.out).1
        obtain ⟨e1, e2, e3⟩ := HI1.out.dq D (by simp)
        have hsz4 := HI1.out.sz
        have hD1Y : Y.heap[D1]? = some (.deferred (some [])) := by rw [← hY]; exact (Below.heap_setCell _ _ _ _ (by show D1 ≠ s + 1 + 1; omega)).trans ((Below.heap_alloc _ _ _ hlt1).trans HD1.out)
        have hDY : Y.heap[D]? = some (.deferred (some [])) := by rw [← hY]; exact (Below.heap_setCell _ _ _ _ (by show D ≠ s + 1 + 1; omega)).trans ((Below.heap_alloc _ _ _ (by omega)).trans e3)
        have q6Y : Boxed Y (s + 1 + 1) 4 (.bool true) := by rw [← hY]; exact Boxed.set _ (HI1.out.q6.alloc _)
        have bY : Below s w Y := by
          rw [← hY]
          exact (HI1.out.bel.alloc (by omega) _).setCell (p := ⟨s + 1 + 1, 0, none⟩) (by show s ≤ s + 1 + 1; omega) _
        refine leaves_marks [D1, D] _ (by simp; omega) (fun D' hD' => ?_) (fun w' e0 e1' e2' => ?_)
        · rcases List.mem_cons.1 hD' with rfl | hD'
          · exact hD1Y
          · rw [List.mem_singleton.1 hD']; exact hDY
        · have hb : Boxed w' (s + 1 + 1) 4 (.bool true) := (e2' _ (by simp; omega)).trans q6Y
          have hws := HSS.out
          refine ⟨.bool true, ?_, rfl, ?_⟩
          · have cb := hb.cell
            rw [results_cell1 rfl]
            go_simp
          · rw [hws]
            exact bY.trans ⟨e0.1, e0.2.1, e0.2.2, by omega, fun q hq => e2' q (by simp; omega)⟩
      case stop1b =>
        rintro D1 M1 c pre W4 _ _ hSp (⟨h, _⟩ | h) _
        · cases h
        · exact absurd hSp h
    · go_wp2_with fail
      rw [rounds_succ]
      have k7b : (W.alloc (.cells #[.int .i64 1] 3)).cell? ⟨y2, 0, none⟩ = some (.int .i64 1) := by
        have := World.alloc_heap_new W (.cells #[.int .i64 1] 3)
        rw [hy2] at this
        exact boxed_cell this
      go_wp2_with fail
      obtain ⟨X1, hX1⟩ : ∃ X1, (W.alloc (.cells #[.int .i64 1] 3)).alloc (.cells #[.int .i64 0] 3) = X1 := ⟨_, rfl⟩
      rw [hX1]
      have bX1 : Below y2 W X1 := by rw [← hX1, ← hy2]; exact ((Below.refl _ W).alloc (Nat.le_refl _) _).alloc (by simp) _
      have hX1s : X1.heap.size = y2 + 2 := by rw [← hX1, ← hy2]; simp
      have hvy : s + 5 ≤ y2 := by rw [← hy2]; exact HI.out.sz
      have hDy : D < y2 := by rw [← hy2]; exact (Array.getElem?_eq_some_iff.1 HD.out).1
      have hDs : s + 5 ≤ D := by rw [← hXs]; exact HDD.out
      have LX1 : GL s (y2 + 2) y2 (y2 + 1) := ⟨by omega, by omega, by omega⟩
      have IX1 : GI w s (y2 + 2) y2 (y2 + 1) 1 [D] xa n xc st L [] X1 := by
        refine ⟨HI.out.bel.trans (bX1.mono (by omega)), by omega, boxed_below HI.out.q4 bX1 (by omega), boxed_below HI.out.q5 bX1 (by omega), boxed_below HI.out.q6 bX1 (by omega), ?_, ?_, fun D' hD' => ?_, List.nil_prefix⟩
        · show _ = _
          rw [← hX1, ← hy2, Below.heap_alloc _ _ _ (by simp)]
          exact World.alloc_heap_new _ _
        · have := World.alloc_heap_new (W.alloc (.cells #[.int .i64 1] 3)) (.cells #[.int .i64 0] 3)
          rw [World.size_alloc, hX1, hy2] at this
          exact this
        · obtain rfl : D' = D := by simpa using hD'
          exact ⟨by omega, hDy, (bX1.block D' hDy).trans HD.out⟩
      clear hX1 bX1 k7b hy2 HI HD HDD
      refine (wpIn_wide (n := 8)).1 ?_
      refine wpIn_rangeFunc_MB2 (w := X1) (w0 := X1) rfl (by omega) (gf := gf) (lb := lb) rfl trivial eg (HSQ.out X1 IX1.bel) (fun q hq => by have := HOB.out q hq; have := IX1.bel.size; have := HSS.out; omega) (Below.refl _ _) (fun _ => rfl)
        (fun _ pre W => GI w s (y2 + 2) (y2) (y2 + 1) 1 [D] xa n xc st L pre W) (fun _ c pre W => GX w s (y2 + 2) (y2) (y2 + 1) 1 [D] xa n xc st L false c pre W)
        (fun _ => by rw [hX1s]; exact gi_own LX1) (fun _ c => by rw [hX1s]; exact gx_own LX1 false c)
        (fun W0 hb _ => IX1.below (by rw [← hX1s]; exact hb) LX1) (fun c : Cl => .cells #[.string c.key, .int .u64 ((c.seq : Nat) : Int), .string c.val, .bool c.gone] 33) ?a11c ?assign1c ?body1c ?done1c ?stop1c
      case assign1c =>
        intro lp y W A hA K hK
        simp only [clV]
        gi_wp2
        exact hK
      case body1c =>
        rintro lp M pre y A W hzM hMA hA hI hlen'
        obtain ⟨c0, c1, c2, c3⟩ := CB.cells (c := y) hA
        have k4 := boxed_cell hI.q4
        have k5 := boxed_cell hI.q5
        have k6 : W.cell? ⟨s + 1 + 1, 0, none⟩ = _ := boxed_cell hI.q6
        have f6 : W.frozen? ⟨s + 1 + 1, 0, none⟩ = false := boxed_frozen hI.q6
        have k7 : W.cell? ⟨y2, 0, none⟩ = _ := boxed_cell hI.q7
        have k8 : W.cell? ⟨y2 + 1, 0, none⟩ = _ := boxed_cell hI.q8
        have f8 : W.frozen? ⟨y2 + 1, 0, none⟩ = false := boxed_frozen hI.q8
        obtain ⟨m, hm⟩ : ∃ m, pre.length = m := ⟨_, rfl⟩
        have HM : Hid (pre.length = m) := hm
        rw [hm] at k8
        have HCW := HCA.out W hI.bel
        by_cases hmn : n ≤ m
        · have HPF : Hid (¬ (pre ++ [y]) <+: L) := fun q => by have := q.length_le; rw [List.length_append, hm, HLN.out] at this; simp at this; omega
          have hmR : ((n : Nat) : Int) ≤ ((m : Nat) : Int) := by omega
          have hmR2 : decide (((n : Nat) : Int) ≤ ((m : Nat) : Int)) = true := decide_eq_true hmR
          have hmR3 : decide (n ≤ m) = true := decide_eq_true hmn
          clear hI hA hm HCW hmn
          gi_wp2
          refine wpIn_region_q_r (fun o ho c => ?nd) rfl (by kernel_rfl) ?_
          case nd => simp only [List.mem_cons, List.not_mem_nil, or_false] at ho; rcases ho with rfl | rfl | rfl | rfl | rfl | rfl | rfl | rfl | rfl | rfl | rfl | rfl <;> simp
          repeat (gi_big_quiet_step (fail))
          refine wpQuietIn_nil ?_
          intro _ hw'
          obtain ⟨nq, hw''⟩ := hw'
          subst hw''
          gi_wp2
          exact ⟨keeps_set W nq ⟨s + 1 + 1, 0, none⟩ _ _, .inr HPF.out⟩
        · have hmn' : m < n := by omega
          obtain ⟨d, hd⟩ : ∃ d, L[m]? = some d := ⟨_, List.getElem?_eq_getElem (by rw [HLN.out]; exact hmn')⟩
          obtain ⟨xb, xo, exa, _, x0, x1, x2, x3⟩ := HCW m d hd
          have hpre := hI.pre
          have hmR : ((m : Nat) : Int) < ((n : Nat) : Int) := by omega
          have hmR2 : decide (((n : Nat) : Int) ≤ ((m : Nat) : Int)) = false := decide_eq_false (by omega)
          have hmR3 : decide (n ≤ m) = false := decide_eq_false (by omega)
          have HDD : Hid (L[m]? = some d) := hd
          have HGI : Hid _ := hI
          rw [exa] at k4
          subst exa
          clear hI hA HCW hd
          by_cases hyd : y = d
          · subst hyd
            have HPF : Hid ((pre ++ [y]) <+: L) := by
              obtain ⟨T, hT⟩ := hpre
              have hLm := HDD.out
              rw [← hT, List.getElem?_append_right (by omega), hm, Nat.sub_self] at hLm
              cases T with
              | nil => cases hLm
              | cons e T => simp at hLm; subst hLm; exact ⟨T, by rw [← hT]; simp⟩
            have HI : Hid (∀ q, _) := fun q => GI.step HGI.out LX1 y hm HPF.out q
            clear hpre HGI HPF HDD hm hmn
            obtain ⟨yk, ys, yv, yg⟩ := y
            simp only at c0 c1 c2 c3 x0 x1 x2 x3
            gi_wp2
            refine wpIn_region_q_r (fun o ho c => ?nd) rfl (by kernel_rfl) ?_
            case nd => simp only [List.mem_cons, List.not_mem_nil, or_false] at ho; rcases ho with rfl | rfl | rfl | rfl | rfl | rfl | rfl | rfl | rfl | rfl | rfl | rfl <;> simp
            repeat (gi_big_quiet_step (fail))
            refine wpQuietIn_nil ?_
            intro _ hw'
            obtain ⟨nq, hw''⟩ := hw'
            subst hw''
            gi_wp2
            refine ⟨keeps_set W nq ⟨y2 + 1, 0, none⟩ _ _, ?_, HI.out nq⟩
            rw [hX1s]
            exact GI.kp LX1 HOB.out _ _ _
          · have HPF : Hid (¬ (pre ++ [y]) <+: L) := fun q => hyd (by
              obtain ⟨T, hT⟩ := q
              have hLm := HDD.out
              rw [← hT, List.append_assoc, List.getElem?_append_right (by omega), hm, Nat.sub_self] at hLm
              simpa using hLm)
            have hcne := cne hyd
            clear hpre HGI HDD hm hmn hyd
            gi_wp2
            refine wpIn_region_q_r (fun o ho c => ?nd) rfl (by kernel_rfl) ?_
            case nd => simp only [List.mem_cons, List.not_mem_nil, or_false] at ho; rcases ho with rfl | rfl | rfl | rfl | rfl | rfl | rfl | rfl | rfl | rfl | rfl | rfl <;> simp
            repeat (gi_big_quiet_step (fail))
            refine wpQuietIn_nil ?_
            intro _ hw'
            obtain ⟨nq, hw''⟩ := hw'
            subst hw''
            gi_wp2
            exact ⟨keeps_set W nq ⟨s + 1 + 1, 0, none⟩ _ _, .inr HPF.out⟩
      case done1c =>
        rintro D1 M1 xs W4 hD hM1 hS hI hd
        have hlen : xs.length = n := by rw [hS]; exact HLN.out
        have k8 := boxed_cell hI.q8
        have k7 := boxed_cell hI.q7
        have k4 := boxed_cell hI.q4
        rw [hlen] at k8
        have hne : ((n : Int) != (n : Int)) = false := by simp
        obtain ⟨y3, hy3⟩ : ∃ y3, W4.heap.size = y3 := ⟨_, rfl⟩
        have HI1 : Hid _ := hI
        have HD1 : Hid _ := hd
        have HDD1 : Hid _ := hD
        clear hI hd hD hS hlen hM1
        go_wp2_with fail
        rw [rounds_succ]
        have k7c : (W4.alloc (.cells #[.int .i64 2] 3)).cell? ⟨y3, 0, none⟩ = some (.int .i64 2) := by
          have := World.alloc_heap_new W4 (.cells #[.int .i64 2] 3)
          rw [hy3] at this
          exact boxed_cell this
        have k6 : (W4.alloc (.cells #[.int .i64 2] 3)).cell? ⟨s + 1 + 1, 0, none⟩ = some (.bool false) := boxed_cell (HI1.out.q6.alloc _)
        have f6 : (W4.alloc (.cells #[.int .i64 2] 3)).frozen? ⟨s + 1 + 1, 0, none⟩ = false := boxed_frozen (HI1.out.q6.alloc _)
        go_wp2_with fail
        obtain ⟨Y, hY⟩ : ∃ Y, (W4.alloc (.cells #[.int .i64 2] 3)).setCell ⟨s + 1 + 1, 0, none⟩ (.bool true) = Y := ⟨_, rfl⟩
        rw [hY]
        have hDD1 := HDD1.out
        rw [hX1s] at hDD1
        have hlt1 : D1 < W4.heap.size := (Array.getElem?_eq_some_iff.1 HD1.out).1
        obtain ⟨e1, e2, e3⟩ := HI1.out.dq D (by simp)
        have hsz4 := HI1.out.sz
        have hD1Y : Y.heap[D1]? = some (.deferred (some [])) := by rw [← hY]; exact (Below.heap_setCell _ _ _ _ (by show D1 ≠ s + 1 + 1; omega)).trans ((Below.heap_alloc _ _ _ hlt1).trans HD1.out)
        have hDY : Y.heap[D]? = some (.deferred (some [])) := by rw [← hY]; exact (Below.heap_setCell _ _ _ _ (by show D ≠ s + 1 + 1; omega)).trans ((Below.heap_alloc _ _ _ (by omega)).trans e3)
        have q6Y : Boxed Y (s + 1 + 1) 4 (.bool true) := by rw [← hY]; exact Boxed.set _ (HI1.out.q6.alloc _)
        have bY : Below s w Y := by
          rw [← hY]
          exact (HI1.out.bel.alloc (by omega) _).setCell (p := ⟨s + 1 + 1, 0, none⟩) (by show s ≤ s + 1 + 1; omega) _
        refine leaves_marks [D1, D] _ (by simp; omega) (fun D' hD' => ?_) (fun w' e0 e1' e2' => ?_)
        · rcases List.mem_cons.1 hD' with rfl | hD'
          · exact hD1Y
          · rw [List.mem_singleton.1 hD']; exact hDY
        · have hb : Boxed w' (s + 1 + 1) 4 (.bool true) := (e2' _ (by simp; omega)).trans q6Y
          have hws := HSS.out
          refine ⟨.bool true, ?_, rfl, ?_⟩
          · have cb := hb.cell
            rw [results_cell1 rfl]
            go_simp
          · rw [hws]
            exact bY.trans ⟨e0.1, e0.2.1, e0.2.2, by omega, fun q hq => e2' q (by simp; omega)⟩
      case stop1c =>
        rintro D1 M1 c pre W4 _ _ hSp (⟨h, _⟩ | h) _
        · cases h
        · exact absurd hSp h
end Go.Proofs.Ytdgmjmohfpjlnaa
