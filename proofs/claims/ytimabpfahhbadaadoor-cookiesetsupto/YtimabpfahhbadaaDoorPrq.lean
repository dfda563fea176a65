/-
  The contract of the twin's Print.
-/
import Derived.Test.YtimabpfahhbadaaDoorPrn
namespace Go.Proofs.YtimabpfahhbadaaDoor
open Go.RowKit
/-- What the twin has printed behind k pairs. -/
def jnK (l : List Fd) : ByteArray := jn (l.map prt)
theorem jnK_nil : jnK [] = ⟨#[]⟩ := rfl
theorem jn_snoc : ∀ (t : ByteArray) (ts : List ByteArray) (x : ByteArray), jn ((t :: ts) ++ [x]) = jn (t :: ts) ++ smb ++ x
  | t, [], x => by
    apply ext_list
    rw [List.cons_append, List.nil_append, jn_two, app_list, app_list, jn_one, jn_one, List.append_assoc]
    rfl
  | t, u :: ts, x => by
    apply ext_list
    have ih := jn_snoc u ts x
    rw [List.cons_append] at ih
    rw [List.cons_append, List.cons_append, jn_two, ih, app_list, app_list, app_list, app_list, jn_two]
    simp
theorem jnK_one {l : List Fd} {x : Fd} (h : l[0]? = some x) : jnK (l.take 1) = ⟨#[]⟩ ++ x.name ++ ⟨#[61]⟩ ++ x.val := by
  unfold jnK
  rw [map_take h, List.take_zero, List.map_nil, List.nil_append, jn_one]
  apply ext_list
  rw [prt_list]
  simp only [app_list]
  simp
theorem jnK_more {l : List Fd} {x : Fd} {k : Nat} (h : l[k]? = some x) (h0 : 0 < k) : jnK (l.take (k + 1)) = jnK (l.take k) ++ smb ++ x.name ++ ⟨#[61]⟩ ++ x.val := by
  unfold jnK
  rw [map_take h]
  have hk : k < l.length := (List.getElem?_eq_some_iff.1 h).1
  cases hq : (l.take k).map prt with
  | nil => have := congrArg List.length hq; rw [List.length_map, List.length_take, List.length_nil] at this; omega
  | cons t ts =>
    rw [jn_snoc]
    apply ext_list
    simp only [app_list, prt_list]
    simp
theorem smF_take {N : Nat} {l : List Fd} (h : smF N l) (k : Nat) : smF N (l.take k) := fun c hc => h c (List.mem_of_mem_take hc)
theorem jnK_size {l : List Fd} {N k : Nat} (h : smF N l) (hk : k ≤ 16) : (jnK (l.take k)).size ≤ 16 * (2 * N + 3) := by
  have h1 := jn_small (l.take k) N (smF_take h k)
  rw [List.length_take] at h1
  refine Nat.le_trans h1 (Nat.mul_le_mul_right _ ?_)
  omega
set_option maxRecDepth 20000 in
set_option maxHeartbeats 8000000 in
theorem qprint_any (a : Option Addr) (c B : Nat) (l : List Fd) (w : World) (h : FA B w a l) (hB : B ≤ w.heap.size) (hn : l.length ≤ 1000000000) (hf : smF 1000000000 l) :
    Calls Tryd.prog 13 #[.slice a l.length c] w fun e w' => e = .returned (.tuple #[.string (printR l).1, .int .i64 (printR l).2]) ∧ Below w.heap.size w w' := by
  obtain ⟨n, hl⟩ : ∃ n, l.length = n := ⟨_, rfl⟩
  have HL : Hid _ := hl
  have HC : Hid _ := h
  have HO : Hid _ := hf
  obtain ⟨T, hT⟩ : ∃ T, printR l = T := ⟨_, rfl⟩
  have HT : Hid _ := hT
  rw [hT]
  rw [hl] at hn ⊢
  clear hl h hf hT
  rcases (by omega : n < 1 ∨ 16 < n ∨ (1 ≤ n ∧ n ≤ 16)) with g | g | g
  · have HR : Hid (T = (⟨#[]⟩, 190)) := by rw [Hid, ← HT.out]; exact printR_len (by rw [HL.out]; omega)
    have q0 : (n : Int) < 1 := by omega
    go_enter Tryd.func13, Tryd.ntmps13
    go_wp2_with fail
    go_ret2
    exact ⟨by rw [HR.out]; rfl, Below.refl _ _⟩
  · have HR : Hid (T = (⟨#[]⟩, 190)) := by rw [Hid, ← HT.out]; exact printR_len (by rw [HL.out]; omega)
    have q0 : ¬ (n : Int) < 1 := by omega
    have q1 : (16 : Int) < (n : Int) := by omega
    have q2 : (n : Int) > 16 := by omega
    go_enter Tryd.func13, Tryd.ntmps13
    go_wp2_with fail
    go_ret2
    exact ⟨by rw [HR.out]; rfl, Below.refl _ _⟩
  · have q0 : ¬ (n : Int) < 1 := by omega
    have q1 : ¬ (16 : Int) < (n : Int) := by omega
    have q2 : ¬ (n : Int) > 16 := by omega
    go_enter Tryd.func13, Tryd.ntmps13
    go_wp2_with fail
    go_loopw [4, 5] (fun v i wr => ∃ (k : Nat) (T1 : ByteArray), k ≤ n ∧ i = .int .i64 (k : Nat) ∧ v = .string T1 ∧ Hid (jnK (l.take k) = T1) ∧ Hid ((l.take k).all okP = true) ∧ Hid (Below w.heap.size w wr)) (fun _ i _ => n - (intOf i).toNat)
    case atStart => exact ⟨0, _, by omega, rfl, rfl, by rw [Hid, List.take_zero]; exact jnK_nil, by rw [Hid, List.take_zero]; rfl, Below.refl _ _⟩
    case round =>
      obtain ⟨k, T1, hkn, rfl, rfl, HJ, HE, HB⟩ := hrel
      by_cases hlt : k < n
      · have hlz : (k : Int) < (n : Int) := by omega
        obtain ⟨x, hx⟩ : ∃ x, l[k]? = some x := ⟨l[k]'(by rw [HL.out]; exact hlt), List.getElem?_eq_getElem _⟩
        have HC2 : FA B wr a l := FA.below HC.out (fun b hb => HB.out.block b (by omega))
        obtain ⟨b, off, rfl, _, x0, x1⟩ := HC2 k x hx
        have hxz := HO.out x (List.mem_of_getElem? hx)
        have hbz := bareB_size x.val
        have H1 : Hid (∀ W : World, _) := fun W => rtoken_any x.name (by omega) W
        have H2 : Hid (∀ W : World, _) := fun W => qbare_any x.val (by omega) W
        have H3 : Hid (∀ W : World, _) := fun W => octets_any (bareB x.val) (by omega) W
        have HX : Hid _ := hx
        have HOK := okP_cut x
        have HJ0 : Hid (k = 0 → jnK (l.take (k + 1)) = T1 ++ x.name ++ ⟨#[61]⟩ ++ x.val) := fun h0 => by
          subst h0
          rw [jnK_one HX.out, ← HJ.out, List.take_zero, jnK_nil]
        have HJ1 : Hid (0 < k → jnK (l.take (k + 1)) = T1 ++ smb ++ x.name ++ ⟨#[61]⟩ ++ x.val) := fun h0 => by
          rw [jnK_more HX.out h0, HJ.out]
        have z1 : T1.size ≤ 32000000048 := by rw [← HJ.out]; exact jnK_size HO.out (by omega)
        obtain ⟨bv, hbv⟩ : ∃ bv, bareB x.val = bv := ⟨_, rfl⟩
        rw [hbv] at H2 H3 HOK
        obtain ⟨t, ht⟩ : ∃ t, tokR x.name = t := ⟨_, rfl⟩
        rw [ht] at H1 HOK
        obtain ⟨o, ho⟩ : ∃ o, octR bv = o := ⟨_, rfl⟩
        rw [ho] at H3 HOK
        have HG : Hid (okP x = true → (l.take (k + 1)).all okP = true) := fun hq => allP_take HX.out HE.out hq
        have HF : Hid (okP x = false → T = (⟨#[]⟩, 190)) := fun hq => by rw [← HT.out]; exact printR_bad (allP_at HX.out hq)
        obtain ⟨ok, hok⟩ : ∃ ok, okP x = ok := ⟨_, rfl⟩
        rw [hok] at HOK HG HF
        obtain ⟨xn, xv⟩ := x
        simp only at x0 x1 H1 H2 HJ0 HJ1 hxz
        obtain ⟨z2, z3⟩ := hxz
        clear hx HC2 hbz hbv ht ho hok
        cases t with
        | false =>
          have HR : Hid (T = (⟨#[]⟩, 190)) := HF.out (by rw [HOK]; rfl)
          clear HOK HG HF
          go_wp2_with (first
            | (go_at_call 29; refine (H1.out _).mono ?_; rintro e w' ⟨rfl, rfl⟩))
          go_ret2
          exact ⟨by rw [HR.out]; rfl, HB.out⟩
        | true =>
          cases o with
          | false =>
            have HR : Hid (T = (⟨#[]⟩, 190)) := HF.out (by rw [HOK]; rfl)
            clear HOK HG HF
            go_wp2_with (first
              | (go_at_call 29; refine (H1.out _).mono ?_; rintro e w' ⟨rfl, rfl⟩)
              | (go_at_call 31; refine (H2.out _).mono ?_; rintro e w' ⟨rfl, rfl⟩)
              | (go_at_call 30; refine (H3.out _).mono ?_; rintro e w' ⟨rfl, rfl⟩))
            go_ret2
            exact ⟨by rw [HR.out]; rfl, HB.out⟩
          | true =>
            have HGG : Hid ((l.take (k + 1)).all okP = true) := HG.out (by rw [HOK]; rfl)
            clear HOK HG HF
            by_cases hk0 : k = 0
            · have HJJ := HJ0.out hk0
              have p0 : ¬ (0 : Int) < (k : Int) := by omega
              clear hk0
              have s1 : ¬ 9223372036854775807 < T1.size + xn.size := by omega
              have s2 : ¬ 9223372036854775807 < T1.size + xn.size + 1 := by omega
              have s3 : ¬ 9223372036854775807 < T1.size + xn.size + 1 + xv.size := by omega
              have HJH : Hid _ := HJJ
              clear HJJ HJ0 HJ1
              go_wp2_with (first
                | (go_at_call 29; refine (H1.out _).mono ?_; rintro e w' ⟨rfl, rfl⟩)
                | (go_at_call 31; refine (H2.out _).mono ?_; rintro e w' ⟨rfl, rfl⟩)
                | (go_at_call 30; refine (H3.out _).mono ?_; rintro e w' ⟨rfl, rfl⟩))
              go_quiet (fail)
              go_wp2_with fail
              go_roundw
              case rel => exact ⟨k + 1, _, by omega, by go_num, rfl, HJH.out, HGG.out, below_drewN HB.out _⟩
              case measure => simp [intOf]; omega
            · have HJJ := HJ1.out (by omega)
              rw [show smb = (⟨#[59, 32]⟩ : ByteArray) from rfl] at HJJ
              have p0 : (0 : Int) < (k : Int) := by omega
              clear hk0
              have s0 : ¬ 9223372036854775807 < T1.size + 2 := by omega
              have s1 : ¬ 9223372036854775807 < T1.size + 2 + xn.size := by omega
              have s2 : ¬ 9223372036854775807 < T1.size + 2 + xn.size + 1 := by omega
              have s3 : ¬ 9223372036854775807 < T1.size + 2 + xn.size + 1 + xv.size := by omega
              have HJH : Hid _ := HJJ
              clear HJJ HJ0 HJ1
              go_wp2_with (first
                | (go_at_call 29; refine (H1.out _).mono ?_; rintro e w' ⟨rfl, rfl⟩)
                | (go_at_call 31; refine (H2.out _).mono ?_; rintro e w' ⟨rfl, rfl⟩)
                | (go_at_call 30; refine (H3.out _).mono ?_; rintro e w' ⟨rfl, rfl⟩))
              go_quiet (fail)
              go_wp2_with fail
              go_roundw
              case rel => exact ⟨k + 1, _, by omega, by go_num, rfl, HJH.out, HGG.out, below_drewN HB.out _⟩
              case measure => simp [intOf]; omega
      · obtain rfl : k = n := by omega
        have hlz : ¬ (k : Int) < (k : Int) := by omega
        have HR : Hid (T = (T1, 0)) := by
          have e1 := HE.out
          have e2 := HJ.out
          rw [List.take_of_length_le (by rw [HL.out]; omega)] at e1 e2
          rw [Hid, ← HT.out, printR_good (by rw [HL.out]; omega) (by rw [HL.out]; omega) e1]
          exact congrArg (·, (0 : Int)) e2
        go_wp2_with fail
        go_ret2
        exact ⟨by rw [HR.out]; rfl, HB.out⟩
end Go.Proofs.YtimabpfahhbadaaDoor
