/-
  The reader of replies: the contracts of statusLine and status.
-/
import Derived.Test.YtdkbgbhcnbmlfaaDoorKnd
import Derived.Lib.AppendIntMem
namespace Go.Proofs.YtdkbgbhcnbmlfaaDoor
open Go.RowKit Go.Shelf
open Go.Sort (grow)
def TabP (w : World) : Prop := Lib.TabIs Tryd.prog w "internal/strconv.uint64pow10" .u64 Lib.pow10Tab
theorem tab_below {w w' : World} (h : TabP w) (hb : Below w.heap.size w w') : TabP w' := by
  unfold TabP Lib.TabIs World.var? at h ⊢
  cases hgn : Tryd.prog.globalNamed "internal/strconv.uint64pow10" with
  | none => rw [hgn] at h; cases h
  | some g =>
  rw [hgn] at h
  simp only [Option.bind_some] at h ⊢
  have hlt : g < w.heap.size := by
    rcases Nat.lt_or_ge g w.heap.size with h' | h'
    · exact h'
    · rw [Array.getElem?_eq_none h'] at h; cases h
  rw [hb.block g hlt]
  exact h
def itB (n : Int) : ByteArray := ⟨(Lib.itoa n).toArray⟩
theorem itB_size (n : Int) : (itB n).size = (Lib.itoa n).length := by show (Lib.itoa n).toArray.size = _; simp
def lnS (z : Int) (s : ByteArray) : ByteArray := ⟨#[72, 84, 84, 80, 47, 49, 46, 49, 32]⟩ ++ itB z ++ ⟨#[32]⟩ ++ s ++ ⟨#[13, 10]⟩
theorem statusLine_any (z : Int) (h0 : -9223372036854775808 ≤ z) (h1 : z ≤ 9223372036854775807) (hz : (itB z).size ≤ 100) (s : ByteArray) (hs : s.size ≤ 1000000) (w : World) (ht : TabP w) :
    Calls Tryd.prog 25 #[.int .i64 z, .string s] w fun e w' => e = .returned (.string (lnS z s)) ∧ Below w.heap.size w w' := by
  have H1 : Hid (∀ W : World, TabP W → _) := fun W q => Tryd.strconv_Itoa z h0 h1 W q
  have HE : Hid (lnS z s = ⟨#[72, 84, 84, 80, 47, 49, 46, 49, 32]⟩ ++ itB z ++ ⟨#[32]⟩ ++ s ++ ⟨#[13, 10]⟩) := rfl
  rw [show (⟨(Lib.itoa z).toArray⟩ : ByteArray) = itB z from rfl] at H1
  obtain ⟨x, hx⟩ : ∃ x, itB z = x := ⟨_, rfl⟩
  rw [hx] at H1 HE hz
  have s1 : ¬ 9223372036854775807 < 9 + x.size := by omega
  have s2 : ¬ 9223372036854775807 < 9 + x.size + 1 := by omega
  have s3 : ¬ 9223372036854775807 < 9 + x.size + 1 + s.size := by omega
  have s4 : ¬ 9223372036854775807 < 9 + x.size + 1 + s.size + 2 := by omega
  have HT : Hid _ := ht
  clear hx ht
  go_enter Tryd.func25, Tryd.ntmps25
  go_wp2_with fail
  refine (H1.out _ HT.out).mono ?_
  rintro e w1 ⟨rfl, k, os, rfl⟩
  have HB : Hid (Below w.heap.size w (grow (w.drewN k) os)) := Lib.below_grow _ _ (by simp) k os
  obtain ⟨w1, hw1⟩ : ∃ w1, grow (w.drewN k) os = w1 := ⟨_, rfl⟩
  rw [hw1] at HB
  try rw [hw1]
  clear hw1
  go_wp2_with fail
  go_ret
  exact ⟨by rw [HE.out]; rfl, HB.out⟩
theorem own_below {w w' : World} {b n : Nat} {D : DataW Unit} (h : w.ownsMap Tryd.prog 3 phR b n D) (hb : w'.heap[b]? = w.heap[b]?) : w'.ownsMap Tryd.prog 3 phR b n D := by
  obtain ⟨es, clock, h1, Ft, hs, hD⟩ := h
  exact ⟨es, clock, hb.trans h1, Ft, hs, hD⟩
theorem owns_int {w : World} {B n c : Nat} {a : Option Addr} {l : List Int} (h : w.ownsRow B 3 1 (.slice a n c) n (l.map encZ)) {j : Nat} {x : Int} (hj : l[j]? = some x) : ∃ g, a = some ⟨g, 0, none⟩ ∧ B ≤ g ∧ g < w.heap.size ∧ w.cell? ⟨g, j, none⟩ = some (.int .i64 x) := by
  have hl := h.1
  have hjl : j < l.length := (List.getElem?_eq_some_iff.1 hj).1
  simp only [List.length_map] at hl
  rcases h.2 with ⟨_, h0⟩ | ⟨g, cap, cur, e, hB, hh, hn, _, _, ht⟩
  · omega
  · rw [Value.slice.injEq] at e
    refine ⟨g, e.1, hB, (Array.getElem?_eq_some_iff.1 hh).1, ?_⟩
    refine cell_of_block hh ?_
    have h1 : (l.map encZ)[j]? = some (.int .i64 x) := by simp [hj, encZ]
    rw [← ht, List.getElem?_take] at h1
    split at h1
    · simpa using h1
    · cases h1
/-- The first lines of replies. -/
def stL : List ByteArray := sts.map fun z => lnS z (wordsR z)
theorem stL_len : stL.length = 13 := rfl
theorem sts_len : sts.length = 13 := rfl
def staR (rest : List UInt8) (e : Int) : Int × List UInt8 × Int := (sts.getD (chs stL rest e).1 0, (chs stL rest e).2)
theorem sts_mem {z : Int} (h : z ∈ sts) : 200 ≤ z ∧ z ≤ 507 := by
  simp only [sts, List.mem_cons, List.not_mem_nil, or_false] at h
  omega
theorem sts_it : ∀ z ∈ sts, (itB z).size ≤ 100 := by decide +kernel
theorem sts_wd : ∀ z ∈ sts, (wordsR z).size ≤ 1000000 := by decide +kernel
theorem stL_take {k : Nat} {z : Int} (h : sts[k]? = some z) : stL.take (k + 1) = stL.take k ++ [lnS z (wordsR z)] := by
  rw [List.take_add_one]
  congr 1
  unfold stL
  rw [List.getElem?_map, h]
  rfl
set_option maxRecDepth 20000 in
set_option maxHeartbeats 8000000 in
theorem status_any (b : Nat) (S : ByteArray) (e : Int) (w : World) (h : RIs w b S e) (ht : TabP w) :
    Calls Tryd.prog 33 #[.pointer (some ⟨b, 0, none⟩)] w fun r w' => r = .returned (.int .i64 (staR S.data.toList e).1) ∧ RIs w' b (mkB (staR S.data.toList e).2.1) (staR S.data.toList e).2.2 ∧ Keeps (fun k => k = b) w w' := by
  obtain ⟨i0, hi, hz⟩ := Option.map_eq_some_iff.1 info9
  simp only [Prod.mk.injEq] at hz
  obtain ⟨hz0, hz1, hz2⟩ := hz
  have HI : Hid (RIs w b S e) := h
  have hbl := h.lt
  have HTB : Hid (TabP w) := ht
  have H1 : Hid (∀ W : World, _) := fun W => phrases_any W
  have H2 : Hid (∀ mb (W : World), _) := fun mb W => keys_any mb W
  have H3 : Hid (∀ (c : Nat) (W : World), W.ownsMap Tryd.prog 3 phR c 13 (phD phL) → _) := fun c W q => sorted_any c 13 (phD phL) phR W q (by rw [phL_size]; decide) (by rw [phL_size]; decide)
  rw [phL_keys] at H3
  have HL : Hid (∀ (W : World) (c : Nat) (z : Int), z ∈ sts → W.ownsMap Tryd.prog 3 phR c 13 (phD phL) → _) := fun W c z hz q => ph_lookup q (z := z) (by have := sts_mem hz; omega) (by have := sts_mem hz; omega)
  have HS : Hid (∀ (W : World) (z : Int), z ∈ sts → TabP W → _) := fun W z hz q => statusLine_any z (by have := sts_mem hz; omega) (by have := sts_mem hz; omega) (sts_it z hz) (wordsR z) (sts_wd z hz) W q
  have HCH : Hid (∀ (W : World) (a : Option Addr) (c : Nat), RIs W b S e → TextsAt W a stL → _) := fun W a c q1 q2 => choose_any b S e a c stL W q1 q2 (by decide)
  rw [stL_len] at HCH
  have HR : Hid (staR S.data.toList e = (sts.getD (chs stL S.data.toList e).1 0, (chs stL S.data.toList e).2)) := rfl
  have HCL := chs_lt stL S.data.toList e (by decide)
  rw [stL_len] at HCL
  obtain ⟨C, hC⟩ : ∃ C, chs stL S.data.toList e = C := ⟨_, rfl⟩
  rw [hC] at HR HCH HCL
  clear hC h ht
  go_enter Tryd.func33, Tryd.ntmps33
  go_wp2_with fail
  refine (H1.out _).mono ?_
  rintro r w1 ⟨rfl, o1, b1⟩
  have HO1 : Hid (w1.ownsMap Tryd.prog 3 phR w.heap.size 13 (phD phL)) := o1
  have HB1 : Hid (Below w.heap.size w w1) := b1
  clear o1 b1
  go_wp2_with fail
  refine (H2.out _ _).mono ?_
  rintro r w2 ⟨rfl, hw2⟩
  go_wp2_with fail
  try rw [hw2]
  refine (H3.out _ _ HO1.out).mono ?_
  rintro r w3 ⟨v, ss, rfl, hp, hrow, b3⟩
  have hss := sorted_of hp sts_sorted
  have hsl : ss.length = 13 := by rw [hp.length_eq]; rfl
  rw [hss, hsl] at hrow
  obtain ⟨aa, ac, rfl⟩ := row_form hrow
  have HB3 : Hid (Below w.heap.size w w3) := HB1.out.trans (b3.mono HB1.out.size)
  have HZ3 : Hid (w1.heap.size ≤ w3.heap.size) := b3.size
  have HO3 : Hid (w3.ownsMap Tryd.prog 3 phR w.heap.size 13 (phD phL)) := own_below HO1.out (b3.block _ HO1.out.lt)
  have HRW : Hid (∀ j x, sts[j]? = some x → _) := fun j x hj => owns_int hrow (j := j) (x := x) hj
  clear hrow hss hsl hp b3 hw2 w2
  go_wp2_with fail
  go_loopw [5, 14] (fun v i wr => ∃ k : Nat, k ≤ 13 ∧ i = .int .i64 (k : Nat) ∧ wr.ownsRow w3.heap.size 9 1 v k (strV (stL.take k)) ∧ Hid (Below w3.heap.size w3 wr)) (fun _ i _ => 13 - (intOf i).toNat)
  case atStart => exact ⟨0, by omega, rfl, by rw [List.take_zero]; exact World.ownsRow_nil _ _ _ _, Below.refl _ _⟩
  case round =>
    obtain ⟨k, hk, rfl, hown, HB⟩ := hrel
    obtain ⟨va, vc, rfl⟩ := form_of_row hown
    have HOW : Hid (wr.ownsRow w3.heap.size 9 1 (.slice va k vc) k (strV (stL.take k))) := hown
    clear hown
    have hsz := HB.out.size
    by_cases hlt : k < 13
    · obtain ⟨z, hz⟩ : ∃ z, sts[k]? = some z := ⟨sts[k]'(by rw [sts_len]; exact hlt), List.getElem?_eq_getElem _⟩
      obtain ⟨g, rfl, hg1, hg2, x0⟩ := HRW.out k z hz
      have x1 : wr.cell? ⟨g, k, none⟩ = some (.int .i64 z) := (HB.out.cell (p := ⟨g, k, none⟩) hg2).trans x0
      have hzm := List.mem_of_getElem? hz
      have l1 := HL.out wr _ z hzm (own_below HO3.out (HB.out.block _ HO3.out.lt))
      have l2 := field_ph (wordsR z)
      have HSz : Hid (∀ W : World, TabP W → _) := fun W q => HS.out W z hzm q
      have HT1 : Hid (stL.take (k + 1) = stL.take k ++ [lnS z (wordsR z)]) := stL_take hz
      have HTB2 : Hid (TabP wr) := tab_below (tab_below HTB.out HB3.out) HB.out
      obtain ⟨wd, hwd⟩ : ∃ wd, wordsR z = wd := ⟨_, rfl⟩
      rw [hwd] at l1 l2 HSz HT1
      obtain ⟨px, hpx⟩ : ∃ px, lnS z wd = px := ⟨_, rfl⟩
      rw [hpx] at HSz HT1
      clear hwd hpx hz hzm x0
      have hra : Hid (∀ W o1, Below wr.heap.size wr W → (W.alloc o1).ownsRow w3.heap.size 9 1 (.slice va k vc) k (strV (stL.take k))) := fun W o1 b => World.ownsRow.alloc (owns_on HOW.out b) o1
      have HNC : Hid (∀ W : World, ∀ j x, (strV [px])[j]? = some x → (W.alloc (.cells #[.string px] 9)).cell? ((⟨W.heap.size, 0, none⟩ : Addr).add j) = some x) := fun W => new_cells W (strV [px]) 9
      have h3 : Hid (w3.heap.size ≤ wr.heap.size) := hsz
      go_wp2_with (first
        | (go_at_call 25; refine (HSz.out _ HTB2.out).mono ?_; rintro r w5 ⟨rfl, b5⟩; have HB5 : Hid (Below wr.heap.size wr w5) := b5; clear b5)
        | (at_builtin; refine wpList_append_own _ rfl (.tmp 18) (.tmp 25) 81 rfl w3.heap.size 9 i0 (.string ⟨#[]⟩) 1 16 Tryd.underlying81 hi hz0 hz1 hz2 rfl (by decide) _ _ _ rfl (hra.out _ _ HB5.out) ⟨_, 0, none⟩ 1 1 (strV [px]) rfl rfl (HNC.out _) (strV_one _) (by unfold maxLen; omega) (by omega) (by have := h3.out; have := HB5.out.size; simp; omega) ?_))
      intro v1 w6 hown1 hgrow _
      obtain ⟨a1, cap1, rfl⟩ := form_of_row hown1
      have HR6 : Hid (w6.ownsRow w3.heap.size 9 1 (.slice a1 (k + 1) cap1) (k + 1) (strV (stL.take (k + 1)))) := by
        rw [Hid, HT1.out, strV_snoc]; exact hown1
      have HB6 : Hid (Below w3.heap.size w3 w6) := ((HB.out.trans (HB5.out.mono h3.out)).alloc (Nat.le_trans h3.out HB5.out.size) _).grown hgrow (by have := h3.out; have := HB5.out.size; simp; omega) (fun i hi => (World.ownsRow.lt (owns_on HOW.out HB5.out) i hi).1)
      clear hown1 hgrow
      go_wp2_with fail
      go_roundw
      case rel => exact ⟨k + 1, by omega, by go_num, HR6.out, HB6.out⟩
      case measure => simp [intOf]; omega
    · obtain rfl : k = 13 := by omega
      have hq := HOW.out
      rw [List.take_of_length_le (by decide)] at hq
      have HTX : Hid (TextsAt wr va stL) := row_texts hq
      have HBw : Hid (Below w.heap.size w wr) := HB3.out.trans (HB.out.mono HB3.out.size)
      have HI2 : Hid (RIs wr b S e) := HI.out.below HBw.out
      have HK2 : Hid (Keeps (fun k => k = b) w wr) := Keeps.of_below HBw.out
      obtain ⟨z, hz⟩ : ∃ z, sts[C.1]? = some z := ⟨sts[C.1]'(by rw [sts_len]; exact HCL), List.getElem?_eq_getElem _⟩
      obtain ⟨g, rfl, hg1, hg2, x0⟩ := HRW.out C.1 z hz
      have x1 : wr.cell? ⟨g, C.1, none⟩ = some (.int .i64 z) := (HB.out.cell (p := ⟨g, C.1, none⟩) hg2).trans x0
      have HGB : Hid (¬ g = b) := by rw [Hid]; have := HB1.out.size; omega
      have HX1 : Hid _ := x1
      have HZE : Hid (staR S.data.toList e = (z, C.2)) := by rw [Hid, HR.out, List.getD_eq_getElem?_getD, hz]; rfl
      have hcz : ((C.1 : Nat) : Int) < 13 := by omega
      clear hq x0 x1 hz
      go_wp2_with (go_at_call 46; refine (HCH.out _ _ _ HI2.out HTX.out).mono ?_; rintro r w7 ⟨rfl, r1, r2⟩; have x2 := r2.cell HX1.out HGB.out; have R1 : Hid _ := r1; have R2 : Hid (Keeps (fun k => k = b) wr w7) := r2; clear r1 r2)
      go_ret
      exact ⟨by rw [HZE.out]; rfl, by rw [HZE.out]; exact R1.out, HK2.out.trans R2.out⟩
end Go.Proofs.YtdkbgbhcnbmlfaaDoor
