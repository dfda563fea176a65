/-
  The contracts of Print and of the twin's.
-/
import Derived.Test.YtimabpfahhbadaaDoorSpl
namespace Go.Proofs.YtimabpfahhbadaaDoor
open Go.RowKit
theorem allP_at {l : List Fd} {k : Nat} {x : Fd} (h : l[k]? = some x) (hx : okP x = false) : l.all okP = false := by
  cases hq : l.all okP with
  | false => rfl
  | true =>
    have := List.all_eq_true.1 hq x (List.mem_of_getElem? h)
    rw [hx] at this
    cases this
theorem allP_take {l : List Fd} {k : Nat} {x : Fd} (h : l[k]? = some x) (h0 : (l.take k).all okP = true) (hx : okP x = true) : (l.take (k + 1)).all okP = true := by
  rw [List.take_add_one, h, Option.toList, List.all_append, h0, Bool.true_and, List.all_cons, hx]
  rfl
theorem map_take {α β : Type} {f : α → β} {l : List α} {k : Nat} {x : α} (h : l[k]? = some x) : (l.take (k + 1)).map f = (l.take k).map f ++ [f x] := by
  rw [List.take_add_one, h, Option.toList, List.map_append]
  rfl
theorem printR_bad {l : List Fd} (h : l.all okP = false) : printR l = (⟨#[]⟩, 190) := by
  unfold printR
  rw [if_neg (by rintro ⟨_, _, q⟩; rw [h] at q; cases q)]
theorem printR_len {l : List Fd} (h : ¬ (1 ≤ l.length ∧ l.length ≤ 16)) : printR l = (⟨#[]⟩, 190) := by
  unfold printR
  rw [if_neg (by rintro ⟨q1, q2, _⟩; exact h ⟨q1, q2⟩)]
theorem printR_good {l : List Fd} (h1 : 1 ≤ l.length) (h2 : l.length ≤ 16) (h : l.all okP = true) : printR l = (jn (l.map prt), 0) := by
  unfold printR
  rw [if_pos ⟨h1, h2, h⟩]
def smF (N : Nat) (l : List Fd) : Prop := ∀ c ∈ l, c.name.size ≤ N ∧ c.val.size ≤ N
theorem jn_small : ∀ (l : List Fd) (N : Nat), smF N l → (jn (l.map prt)).size ≤ l.length * (2 * N + 3)
  | [], N, _ => by simp [jn, Lib.join_nil, ByteArray.size]
  | [f], N, h => by
    have := h f (List.mem_cons_self ..)
    rw [List.map_cons, List.map_nil, jn_size1, prt_size]
    simp
    omega
  | f :: g :: l, N, h => by
    have := h f (List.mem_cons_self ..)
    have ih := jn_small (g :: l) N (fun c hc => h c (List.mem_cons_of_mem _ hc))
    rw [List.map_cons] at ih
    rw [List.map_cons, List.map_cons, jn_size2, prt_size, List.length_cons, Nat.succ_mul]
    omega
theorem okP_cut (f : Fd) : okP f = (tokR f.name && octR (bareB f.val)) := rfl
set_option maxRecDepth 20000 in
set_option maxHeartbeats 8000000 in
theorem print_any (a : Option Addr) (c B : Nat) (l : List Fd) (w : World) (h : FA B w a l) (hB : B ≤ w.heap.size) (hn : l.length ≤ 1000000000) (hf : smF 1000000000 l) :
    Calls Tryd.prog 12 #[.slice a l.length c] w fun e w' => e = .returned (.tuple #[.string (printR l).1, .int .i64 (printR l).2]) ∧ Below w.heap.size w w' := by
  obtain ⟨i0, hi, hz⟩ := Option.map_eq_some_iff.1 info9
  simp only [Prod.mk.injEq] at hz
  obtain ⟨hz0, hz1, hz2⟩ := hz
  obtain ⟨n, hl⟩ : ∃ n, l.length = n := ⟨_, rfl⟩
  have HL : Hid _ := hl
  have HC : Hid _ := h
  have HO : Hid _ := hf
  obtain ⟨T, hT⟩ : ∃ T, printR l = T := ⟨_, rfl⟩
  have HT : Hid _ := hT
  rw [hT]
  rw [hl] at hn ⊢
  clear hl h hf hT
  rcases (by omega : n < 1 ∨ 16 < n ∨ (1 ≤ n ∧ n ≤ 16)) with g | g | g
  · have HR : Hid (T = (⟨#[]⟩, 190)) := by rw [Hid, ← HT.out]; exact printR_len (by rw [HL.out]; omega)
    have q0 : (n : Int) < 1 := by omega
    go_enter Tryd.func12, Tryd.ntmps12
    go_wp2_with fail
    go_ret2
    exact ⟨by rw [HR.out]; rfl, Below.refl _ _⟩
  · have HR : Hid (T = (⟨#[]⟩, 190)) := by rw [Hid, ← HT.out]; exact printR_len (by rw [HL.out]; omega)
    have q0 : ¬ (n : Int) < 1 := by omega
    have q1 : (16 : Int) < (n : Int) := by omega
    have q2 : (n : Int) > 16 := by omega
    go_enter Tryd.func12, Tryd.ntmps12
    go_wp2_with fail
    go_ret2
    exact ⟨by rw [HR.out]; rfl, Below.refl _ _⟩
  · have q0 : ¬ (n : Int) < 1 := by omega
    have q1 : ¬ (16 : Int) < (n : Int) := by omega
    have q2 : ¬ (n : Int) > 16 := by omega
    go_enter Tryd.func12, Tryd.ntmps12
    go_wp2_with fail
    go_loopw [4, 17] (fun v i wr => ∃ k : Nat, k ≤ n ∧ i = .int .i64 (k : Nat) ∧ wr.ownsRow w.heap.size 9 1 v k (strV ((l.take k).map prt)) ∧ Hid ((l.take k).all okP = true) ∧ Hid (Below w.heap.size w wr)) (fun _ i _ => n - (intOf i).toNat)
    case atStart => exact ⟨0, by omega, rfl, by rw [List.take_zero]; exact World.ownsRow_nil _ _ _ _, by rw [Hid, List.take_zero]; rfl, Below.refl _ _⟩
    case round =>
      obtain ⟨k, hkn, rfl, hown, HE, HB⟩ := hrel
      obtain ⟨va, vc, rfl⟩ := form_of_row hown
      have HOW : Hid _ := hown
      clear hown
      by_cases hlt : k < n
      · obtain ⟨x, hx⟩ : ∃ x, l[k]? = some x := ⟨l[k]'(by rw [HL.out]; exact hlt), List.getElem?_eq_getElem _⟩
        have HC2 : FA B wr a l := FA.below HC.out (fun b hb => HB.out.block b (by omega))
        obtain ⟨b, off, rfl, _, x0, x1⟩ := HC2 k x hx
        have hxz := HO.out x (List.mem_of_getElem? hx)
        have hbz := bareB_size x.val
        have H1 : Hid (∀ W : World, _) := fun W => token_any x.name (by omega) W
        have H2 : Hid (∀ W : World, _) := fun W => unmarked_any x.val (by omega) W
        have H3 : Hid (∀ W : World, _) := fun W => isBare_any (bareB x.val) (by omega) W
        have H4 : Hid (∀ W : World, _) := fun W => printPair_any x.name x.val (by omega) W
        have HX : Hid _ := hx
        have HOK := okP_cut x
        have HTK : Hid ((l.take (k + 1)).map prt = (l.take k).map prt ++ [prt x]) := map_take hx
        rw [show (⟨x.name, x.val⟩ : Fd) = x from rfl] at H4
        obtain ⟨px, hpx⟩ : ∃ px, prt x = px := ⟨_, rfl⟩
        rw [hpx] at H4 HTK
        obtain ⟨bv, hbv⟩ : ∃ bv, bareB x.val = bv := ⟨_, rfl⟩
        rw [hbv] at H2 H3 HOK
        obtain ⟨t, ht⟩ : ∃ t, tokR x.name = t := ⟨_, rfl⟩
        rw [ht] at H1 HOK
        obtain ⟨o, ho⟩ : ∃ o, octR bv = o := ⟨_, rfl⟩
        rw [ho] at H3 HOK
        have HG : Hid (okP x = true → (l.take (k + 1)).all okP = true) := fun hq => allP_take HX.out HE.out hq
        have HF : Hid (okP x = false → T = (⟨#[]⟩, 190)) := fun hq => by rw [← HT.out]; exact printR_bad (allP_at HX.out hq)
        obtain ⟨ok, hok⟩ : ∃ ok, okP x = ok := ⟨_, rfl⟩
        rw [hok] at HOK HG HF
        obtain ⟨xn, xv⟩ := x
        simp only at x0 x1 H1 H2 H4
        clear hx HC2 hxz hbz hpx hbv ht ho hok
        have hsz := HB.out.size
        cases t with
        | false =>
          have HR : Hid (T = (⟨#[]⟩, 190)) := HF.out (by rw [HOK]; rfl)
          clear HOK HG HF
          go_wp2_with (first
            | (go_at_call 24; refine (H1.out _).mono ?_; rintro e w' ⟨rfl, rfl⟩))
          go_ret2
          exact ⟨by rw [HR.out]; rfl, HB.out.alloc hsz _⟩
        | true =>
          cases o with
          | false =>
            have HR : Hid (T = (⟨#[]⟩, 190)) := HF.out (by rw [HOK]; rfl)
            clear HOK HG HF
            go_wp2_with (first
              | (go_at_call 24; refine (H1.out _).mono ?_; rintro e w' ⟨rfl, rfl⟩)
              | (go_at_call 26; refine (H2.out _).mono ?_; rintro e w' ⟨rfl, rfl⟩)
              | (go_at_call 25; refine (H3.out _).mono ?_; rintro e w' ⟨rfl, rfl⟩))
            go_ret2
            exact ⟨by rw [HR.out]; rfl, HB.out.alloc hsz _⟩
          | true =>
            have HGG : Hid ((l.take (k + 1)).all okP = true) := HG.out (by rw [HOK]; rfl)
            have hra : Hid (∀ o1 o2, ((wr.alloc o1).alloc o2).ownsRow w.heap.size 9 1 (.slice va k vc) k (strV ((l.take k).map prt))) := fun o1 o2 => World.ownsRow.alloc (World.ownsRow.alloc HOW.out o1) o2
            have HNC : Hid (∀ j x, (strV [px])[j]? = some x → ((wr.alloc (.cells #[.string xn, .string xv] 44)).alloc (.cells #[.string px] 9)).cell? ((⟨wr.heap.size + 1, 0, none⟩ : Addr).add j) = some x) := by
              have q := new_cells (wr.alloc (.cells #[.string xn, .string xv] 44)) (strV [px]) 9
              have e : (wr.alloc (.cells #[.string xn, .string xv] 44)).heap.size = wr.heap.size + 1 := by simp
              rw [e] at q
              exact q
            clear HOK HG HF
            go_wp2_with (first
              | (go_at_call 24; refine (H1.out _).mono ?_; rintro e w' ⟨rfl, rfl⟩)
              | (go_at_call 26; refine (H2.out _).mono ?_; rintro e w' ⟨rfl, rfl⟩)
              | (go_at_call 25; refine (H3.out _).mono ?_; rintro e w' ⟨rfl, rfl⟩)
              | (go_at_call 27; refine (H4.out _).mono ?_; rintro e w' ⟨rfl, rfl⟩)
              | (at_builtin; refine wpList_append_own _ rfl (.tmp 32) (.tmp 38) 32 rfl w.heap.size 9 i0 (.string ⟨#[]⟩) 1 16 Tryd.underlying32 hi hz0 hz1 hz2 rfl (by decide) _ _ _ rfl (hra.out _ _) ⟨_, 0, none⟩ 1 1 (strV [px]) rfl rfl HNC.out (strV_one _) (by unfold maxLen; omega) (by omega) (by simp; omega) ?_))
            intro v1 w5 hown1 hgrow _
            obtain ⟨a1, cap1, rfl⟩ := form_of_row hown1
            have HR5 : Hid (w5.ownsRow w.heap.size 9 1 (.slice a1 (k + 1) cap1) (k + 1) (strV ((l.take (k + 1)).map prt))) := by
              rw [Hid, HTK.out, strV_snoc, List.map_take]; exact hown1
            have HB5 : Hid (Below w.heap.size w w5) := ((HB.out.alloc hsz _).alloc (by simp; omega) _).grown hgrow (by simp; omega) (fun i hi => (World.ownsRow.lt HOW.out i hi).1)
            clear hown1 hgrow
            go_wp2_with fail
            go_roundw
            case rel => exact ⟨k + 1, by omega, by go_num, HR5.out, HGG.out, HB5.out⟩
            case measure => simp [intOf]; omega
      · obtain rfl : k = n := by omega
        have HA : Hid (l.all okP = true) := by
          have := HE.out
          rw [List.take_of_length_le (by rw [HL.out]; omega)] at this
          exact this
        have hq := HOW.out
        rw [List.take_of_length_le (by rw [HL.out]; omega)] at hq
        have HR : Hid (T = (jn (l.map prt), 0)) := by rw [Hid, ← HT.out]; exact printR_good (by rw [HL.out]; omega) (by rw [HL.out]; omega) HA.out
        have hml : (l.map prt).length = k := by rw [List.length_map, HL.out]
        obtain ⟨t0, ht0⟩ : ∃ t0, (l.map prt)[0]? = some t0 := ⟨(l.map prt)[0]'(by omega), List.getElem?_eq_getElem _⟩
        obtain ⟨gb, rfl, _, hgl, _⟩ := owns_str hq ht0
        have hcap : k ≤ vc := by
          rcases hq.2 with ⟨e, _⟩ | ⟨g2, cap, cur, e, _, _, hn2, _⟩
          · cases e
          · cases e; omega
        have H5 : Hid (Calls Tryd.prog 28 #[.slice (some ⟨gb, 0, none⟩) k vc, .string ⟨#[59, 32]⟩] wr fun e w' => e = .returned (.string (jn (l.map prt))) ∧ Below wr.heap.size wr w') := by
          have := Tryd.strings_Join gb 0 vc (l.map prt) ⟨#[59, 32]⟩ wr (fun j x hj => by obtain ⟨g3, e3, _, _, hc3⟩ := owns_str hq hj; cases e3; rw [Nat.zero_add]; exact hc3) hgl (by omega) (by omega) (by
            have h1 := jn_small l 1000000000 HO.out
            have h2 : (Lib.join ((l.map prt).map (·.data.toList)) [59, 32]).length = (jn (l.map prt)).size := by unfold jn; simp [ByteArray.size]
            show (Lib.join ((l.map prt).map (·.data.toList)) [59, 32]).length ≤ _
            rw [h2]
            have : l.length ≤ 16 := by rw [HL.out]; omega
            have : l.length * (2 * 1000000000 + 3) ≤ 16 * (2 * 1000000000 + 3) := Nat.mul_le_mul_right _ this
            omega)
          rw [hml] at this
          exact this
        clear hq ht0 hml
        go_wp2_with fail
        refine H5.out.mono ?_
        rintro e w2 ⟨rfl, b2⟩
        go_wp2_with fail
        go_ret2
        exact ⟨by rw [HR.out]; rfl, HB.out.trans (b2.mono HB.out.size)⟩
end Go.Proofs.YtimabpfahhbadaaDoor
