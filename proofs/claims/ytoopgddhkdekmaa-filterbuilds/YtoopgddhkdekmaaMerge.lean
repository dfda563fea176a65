/-
  The contracts of alike, Clone and Merge: a filter that has what either has.
-/
import Derived.Test.YtoopgddhkdekmaaBuild
import Derived.Laws.AppendOwnNone
namespace Go.Proofs.Ytoopgddhkdekmaa
open Go.RowKit
theorem last_eq {es bs : List UInt8} : decide (es.getD (es.length - 1) 0 = bs.getD (bs.length - 1) 0) = decide (lastB es = lastB bs) := by
  by_cases h : es.getD (es.length - 1) 0 = bs.getD (bs.length - 1) 0
  · rw [decide_eq_true h, decide_eq_true (by unfold lastB; rw [h])]
  · rw [decide_eq_false h, decide_eq_false (p := lastB es = lastB bs) (fun e => h (UInt8.toNat_inj.1 e))]
/-- A key has the same places in both. -/
def alikeB (es bs : List UInt8) : Bool := decide (es.length = bs.length) && decide (lastB es = lastB bs)
set_option maxRecDepth 100000 in
set_option maxHeartbeats 2000000 in
theorem alike_any (a b : Option Addr) (ca cb : Nat) (es bs : List UInt8) (w : World) (ha : BytesAt w a es) (hb : BytesAt w b bs) (hla : es.length ≤ 140737488355328) (h1 : 1 ≤ es.length) (h2 : 1 ≤ bs.length) :
    Calls Try.prog 44 #[.slice a es.length ca, .slice b bs.length cb] w fun r w' => r = .returned (.bool (alikeB es bs)) ∧ ∃ n, w' = w.drewN n := by
  obtain ⟨p, op, rfl, _, x0⟩ := ha (es.length - 1) _ (getD_at (by omega))
  obtain ⟨q, oq, rfl, _, y0⟩ := hb (bs.length - 1) _ (getD_at (by omega))
  have he := u8_beq (es.getD (es.length - 1) 0) (bs.getD (bs.length - 1) 0)
  rw [last_eq] at he
  have HA : Hid (alikeB es bs = (decide (es.length = bs.length) && decide (lastB es = lastB bs))) := rfl
  clear ha hb
  by_cases hl : es.length = bs.length
  · have hd : ((es.length : Int) == (bs.length : Int)) = true := by rw [hl]; simp
    rw [decide_eq_true hl, Bool.true_and] at HA
    obtain ⟨m, hm⟩ : ∃ m, bs.length = m + 1 := ⟨bs.length - 1, by omega⟩
    obtain ⟨n, hn⟩ : ∃ n, es.length = n + 1 := ⟨es.length - 1, by omega⟩
    obtain rfl : n = m := by omega
    rw [hn, Nat.add_sub_cancel] at x0
    rw [hm, Nat.add_sub_cancel] at y0
    rw [hn, hm, Nat.add_sub_cancel] at he
    rw [hn] at hla
    rw [hn, hm]
    obtain ⟨x, hx⟩ : ∃ x, (es.getD n 0).toNat = x := ⟨_, rfl⟩
    obtain ⟨y, hy⟩ : ∃ y, (bs.getD n 0).toNat = y := ⟨_, rfl⟩
    rw [hx] at x0 he
    rw [hy] at y0 he
    clear hd hl hx hy hn hm h1 h2
    have hd : (((n + 1 : Nat) : Int) == ((n + 1 : Nat) : Int)) = true := by simp
    have hd2 : ((n : Int) + 1 == (n : Int) + 1) = true := by simp
    cases hz : decide (lastB es = lastB bs) with
    | true =>
      rw [hz] at he HA
      go_enter Try.func44, Try.ntmps44
      go_wp2_with fail
      go_quiet (fail)
      go_wp2_with fail
      go_ret
      exact ⟨by rw [HA.out]; rfl, nq, rfl⟩
    | false =>
      rw [hz] at he HA
      go_enter Try.func44, Try.ntmps44
      go_wp2_with fail
      go_quiet (fail)
      go_wp2_with fail
      go_ret
      exact ⟨by rw [HA.out]; rfl, nq, rfl⟩
  · have hd : ((es.length : Int) == (bs.length : Int)) = false := by simp; omega
    rw [decide_eq_false hl, Bool.false_and] at HA
    clear he x0 y0 hl
    go_enter Try.func44, Try.ntmps44
    go_wp2_with fail
    go_quiet (fail)
    go_wp2_with fail
    go_ret
    exact ⟨by rw [HA.out]; rfl, nq, rfl⟩
theorem lazyNil (W : World) (ad : Addr) (l c : Nat) : (binOp .eql 24 (.slice (some ad) l c) (.slice none 0 0)).run Try.prog W = .ok (.bool false) W := Lib.run_eql_slice_nil W 24 5 (some ad) l c 0 0 Try.underlying24
def bl (bs : List UInt8) : List Value := bs.map fun c => Value.int .u8 (c.toNat : Nat)
theorem bl_len (bs : List UInt8) : (bl bs).length = bs.length := by simp [bl]
theorem bl_one (bs : List UInt8) : ∀ u ∈ bl bs, u.oneCell' = true := by
  intro u hu
  obtain ⟨c, _, rfl⟩ := List.mem_map.1 hu
  rfl
theorem bl_at {bs : List UInt8} {j : Nat} (h : j < bs.length) : (bl bs)[j]? = some (.int .u8 ((bs.getD j 0).toNat : Nat)) := by
  rw [bl, List.getElem?_map, getD_at h]; rfl
theorem addr_add (b off j : Nat) : (⟨b, off, none⟩ : Addr).add j = ⟨b, off + j, none⟩ := by by_cases hi0 : j = 0 <;> simp [Addr.add, hi0]
/-- A row of the call's own, in block g. -/
structure OR (w W : World) (g n cap : Nat) (bs : List UInt8) : Prop where
  row : W.ownsRow w.heap.size 5 1 (.slice (some ⟨g, 0, none⟩) n cap) n (bl bs)
  len : bs.length = n
  bel : Below w.heap.size w W
section
variable {w W W' : World} {g n cap : Nat} {bs : List UInt8}
theorem OR.ge (h : OR w W g n cap bs) : w.heap.size ≤ g := (h.row.lt g rfl).1
theorem OR.cell (h : OR w W g n cap bs) {j : Nat} (hj : j < n) : W.cell? ⟨g, j, none⟩ = some (.int .u8 ((bs.getD j 0).toNat : Nat)) := by
  have h1 := h.row.cells rfl j _ (bl_at (by rw [h.len]; exact hj))
  rw [addr_add, Nat.zero_add] at h1
  exact h1
theorem OR.free (h : OR w W g n cap bs) (j : Nat) : W.frozen? ⟨g, j, none⟩ = false := by
  rcases h.row.2 with ⟨hv, _⟩ | ⟨g', cap', cur, hv, _, hh, _⟩
  · simp at hv
  · simp only [Value.slice.injEq, Option.some.injEq, Addr.mk.injEq, and_true] at hv
    obtain ⟨rfl, _⟩ := hv
    simp [World.frozen?, hh]
theorem OR.set (h : OR w W g n cap bs) (j : Nat) (c : UInt8) : OR w (W.setCell ⟨g, j, none⟩ (.int .u8 (c.toNat : Nat))) g n cap (bs.set j c) := by
  refine ⟨⟨by rw [bl_len, List.length_set, h.len, Nat.mul_one], ?_⟩, by rw [List.length_set, h.len], h.bel.setCell (p := ⟨g, j, none⟩) h.ge _⟩
  rcases h.row.2 with ⟨hv, _⟩ | ⟨g', cap', cur, hv, hB, hh, h1, h2, h3, h4⟩
  · simp at hv
  · simp only [Value.slice.injEq, Option.some.injEq, Addr.mk.injEq, and_true, true_and] at hv
    obtain ⟨rfl, rfl⟩ := hv
    refine Or.inr ⟨g, cap, cur.setIfInBounds j (.int .u8 (c.toNat : Nat)), rfl, hB, block_set hh _ _, h1, h2, by simpa using h3, ?_⟩
    rw [Array.toList_setIfInBounds, List.take_set, h4]
    simp [bl, List.map_set]
theorem OR.bytes (h : OR w W g n cap bs) : BytesAt W (some ⟨g, 0, none⟩) bs := by
  intro j c hj
  have hl := (List.getElem?_eq_some_iff.1 hj).1
  have hc := h.cell (j := j) (by rw [← h.len]; exact hl)
  rw [getD_at hl] at hj
  cases hj
  exact ⟨g, 0, rfl, World.block_lt_of_cell? W _ hc, by rw [Nat.zero_add]; exact hc⟩
end
theorem empty_row5 (w : World) : (w.alloc (.cells #[] 5)).ownsRow w.heap.size 5 1 (.slice (some ⟨w.heap.size, 0, none⟩) 0 0) 0 [] := by
  refine ⟨rfl, Or.inr ⟨w.heap.size, 0, #[], rfl, Nat.le_refl _, World.alloc_heap_new w _, Nat.le_refl _, by unfold maxLen; omega, rfl, ?_⟩⟩
  simp
theorem cells_of_bytes {w : World} {ad : Addr} {bs : List UInt8} (h : BytesAt w (some ad) bs) : ∀ j u, (bl bs)[j]? = some u → w.cell? (ad.add j) = some u := by
  intro j u hu
  have hl : j < bs.length := by have := (List.getElem?_eq_some_iff.1 hu).1; rw [bl_len] at this; exact this
  obtain ⟨b, off, e, _, hc⟩ := h j _ (getD_at hl)
  cases e
  rw [bl_at hl] at hu
  cases hu
  rw [addr_add]
  exact hc
set_option maxRecDepth 100000 in
set_option maxHeartbeats 2000000 in
theorem clone_any (ad : Addr) (ca : Nat) (bs : List UInt8) (w : World) (h : BytesAt w (some ad) bs) (hl : bs.length ≤ 140737488355328) :
    Calls Try.prog 45 #[.slice (some ad) bs.length ca] w fun r w' => ∃ g cap, r = .returned (.slice (some ⟨g, 0, none⟩) bs.length cap) ∧ bs.length ≤ cap ∧ OR w w' g bs.length cap bs := by
  obtain ⟨i0, hi, hz0, hz1, hz2⟩ := info_parts info5
  have hnl := fun W => lazyNil W ad bs.length ca
  have er := empty_row5 w
  have hcs : ∀ o j u, (bl bs)[j]? = some u → (w.alloc o).cell? (ad.add j) = some u := fun o j u hu => cells_of_bytes (h.below (Nat.le_refl _) ((Below.refl _ w).alloc (Nat.le_refl _) o)) j u hu
  have HL : Hid ((bl bs).length = bs.length * 1) := by rw [Hid, bl_len, Nat.mul_one]
  obtain ⟨n, hn⟩ : ∃ n, bs.length = n := ⟨_, rfl⟩
  have HN : Hid _ := hn
  rw [hn] at hl hnl HL
  rw [hn]
  clear hn h
  go_enter Try.func45, Try.ntmps45
  go_wp2_with (at_builtin; refine wpList_append_own _ rfl (.tmp 5) (.tmp 6) 24 rfl w.heap.size 5 i0 (.int .u8 0) 1 1 Try.underlying24 hi hz0 hz1 hz2 rfl (by decide) _ _ _ rfl er ad n ca (bl bs) rfl HL.out (hcs _) (bl_one _) (by unfold maxLen; omega) (by omega) (by simp) ?_)
  intro v2 w2 hown2 hg2 hnn
  try simp only [List.nil_append, Nat.zero_add] at hown2
  have hB : Below w.heap.size w w2 := ((Below.refl _ w).alloc (Nat.le_refl _) _).grown hg2 (by simp) (fun i hi => (er.lt i hi).1)
  rcases hown2.2 with ⟨rfl, _⟩ | ⟨g, cap, cur, rfl, _, _, hc1, _⟩
  · exfalso
    revert hnn
    simp
  · have HO : Hid (OR w w2 g n cap bs) := ⟨hown2, HN.out, hB⟩
    clear hown2 hg2 hcs er hnn
    go_wp2_with fail
    go_ret
    exact ⟨g, cap, rfl, hc1, HO.out⟩
/-- What either has. -/
def orL (es bs : List UInt8) : List UInt8 := List.zipWith (fun x y => UInt8.ofNat (x.toNat ||| y.toNat)) es bs
def mergeErr (es bs : List UInt8) : Bool := isF es && isF bs && alikeB es bs
theorem orL_len (es bs : List UInt8) : (orL es bs).length = min es.length bs.length := by simp [orL]
/-- The first bytes are merged. -/
def orTo (es bs : List UInt8) (j : Nat) : List UInt8 := orL (es.take j) (bs.take j) ++ es.drop j
theorem orTo_len {es bs : List UInt8} (h : es.length = bs.length) {j : Nat} (hj : j ≤ es.length) : (orTo es bs j).length = es.length := by
  simp [orTo, orL_len]; omega
theorem orTo_at {es bs : List UInt8} (h : es.length = bs.length) {j : Nat} (hj : j < es.length) : (orTo es bs j).getD j 0 = es.getD j 0 := by
  have hl : (orL (es.take j) (bs.take j)).length = j := by rw [orL_len, List.length_take, List.length_take]; omega
  simp only [orTo, List.getD_eq_getElem?_getD]
  rw [List.getElem?_append_right (by omega), hl, Nat.sub_self, List.getElem?_drop, Nat.add_zero]
theorem orTo_next {es bs : List UInt8} (h : es.length = bs.length) {j : Nat} (hj : j < es.length) : (orTo es bs j).set j (UInt8.ofNat ((es.getD j 0).toNat ||| (bs.getD j 0).toNat)) = orTo es bs (j + 1) := by
  have hl : (orL (es.take j) (bs.take j)).length = j := by rw [orL_len, List.length_take, List.length_take]; omega
  have h1 : es.take (j + 1) = es.take j ++ [es.getD j 0] := by rw [List.take_add_one, getD_at hj]; rfl
  have h2 : bs.take (j + 1) = bs.take j ++ [bs.getD j 0] := by rw [List.take_add_one, getD_at (by omega)]; rfl
  have h3 : es.drop j = es.getD j 0 :: es.drop (j + 1) := by
    rw [List.drop_eq_getElem_cons hj]
    congr 1
    have := getD_at hj
    rw [List.getElem?_eq_getElem hj] at this
    exact Option.some.inj this
  rw [orTo, orTo, h1, h2, h3, List.set_append_right _ _ (by omega), hl, Nat.sub_self, List.set_cons_zero]
  simp only [orL]
  rw [List.zipWith_append (by rw [List.length_take, List.length_take]; omega)]
  simp
theorem orTo_all {es bs : List UInt8} (h : es.length = bs.length) : orTo es bs es.length = orL es bs := by
  rw [orTo, List.take_of_length_le (Nat.le_refl _), List.take_of_length_le (by omega), List.drop_eq_nil_of_le (Nat.le_refl _), List.append_nil]
set_option maxRecDepth 100000 in
set_option maxHeartbeats 4000000 in
theorem merge_ok (a b : Option Addr) (ca cb : Nat) (es bs : List UInt8) (w : World) (ha : BytesAt w a es) (hb : BytesAt w b bs) (hla : es.length ≤ 140737488355328) (hlb : bs.length ≤ 140737488355328) (hok : mergeErr es bs = true) :
    Calls Try.prog 19 #[.slice a es.length ca, .slice b bs.length cb] w fun r w' => ∃ g cap, r = .returned (.tuple #[.slice (some ⟨g, 0, none⟩) es.length cap, .int .i64 0]) ∧ es.length ≤ cap ∧ OR w w' g es.length cap (orL es bs) := by
  simp only [mergeErr, Bool.and_eq_true] at hok
  obtain ⟨⟨hFa, hFb⟩, hal⟩ := hok
  have h9 : 9 ≤ es.length := by simp [isF] at hFa; omega
  have hlen : es.length = bs.length := by simp [alikeB] at hal; exact hal.1
  have HC1 : Hid (∀ W : World, Below w.heap.size w W → Calls Try.prog 17 #[.slice a es.length ca] W fun r w' => r = .returned (.int .i64 0) ∧ w' = W) := fun W k => by
    have := check_any a ca es W (ha.below (Nat.le_refl _) k) (by omega)
    rw [show checkErr es = 0 from by simp [checkErr, hFa]] at this
    exact this
  have HC2 : Hid (∀ W : World, Below w.heap.size w W → Calls Try.prog 17 #[.slice b bs.length cb] W fun r w' => r = .returned (.int .i64 0) ∧ w' = W) := fun W k => by
    have := check_any b cb bs W (hb.below (Nat.le_refl _) k) (by omega)
    rw [show checkErr bs = 0 from by simp [checkErr, hFb]] at this
    exact this
  have HAL : Hid (∀ W : World, Below w.heap.size w W → Calls Try.prog 44 #[.slice a es.length ca, .slice b bs.length cb] W fun r w' => r = .returned (.bool true) ∧ ∃ n, w' = W.drewN n) := fun W k => by
    have := alike_any a b ca cb es bs W (ha.below (Nat.le_refl _) k) (hb.below (Nat.le_refl _) k) (by omega) (by omega) (by omega)
    rw [hal] at this
    exact this
  obtain ⟨ad, hpa, rfl⟩ : ∃ ad : Addr, ad.spot = none ∧ a = some ad := by
    obtain ⟨x, y, e, _⟩ := ha 0 _ (getD_at (by omega))
    exact ⟨_, rfl, e⟩
  have HCL : Hid (∀ W : World, Below w.heap.size w W → Calls Try.prog 45 #[.slice (some ad) es.length ca] W fun r w' => ∃ g cap, r = .returned (.slice (some ⟨g, 0, none⟩) es.length cap) ∧ es.length ≤ cap ∧ OR W w' g es.length cap es) := fun W k => clone_any ad ca es W (ha.below (Nat.le_refl _) k) hla
  have HB : Hid _ := hb
  have HLN : Hid _ := hlen
  obtain ⟨n, hn⟩ : ∃ n, es.length = n := ⟨_, rfl⟩
  have HN : Hid _ := hn
  obtain ⟨m, hm⟩ : ∃ m, bs.length = m := ⟨_, rfl⟩
  have HM : Hid _ := hm
  have hnm : n = m := by omega
  subst hnm
  rw [hn] at HC1 HAL HCL hla
  rw [hm] at HC2 HAL hlb
  rw [hn, hm]
  clear hFa hFb hal h9 hlen hn hm ha hb hpa
  go_enter Try.func19, Try.ntmps19
  go_wp2_with fail
  refine (HC1.out _ (Below.refl _ _)).mono ?_
  rintro e w1 ⟨rfl, hw⟩
  subst hw
  go_wp2_with fail
  refine (HC2.out _ (Below.refl _ _)).mono ?_
  rintro e w2 ⟨rfl, hw⟩
  subst hw
  go_wp2_with fail
  refine (HAL.out _ (Below.refl _ _)).mono ?_
  rintro e w3 ⟨rfl, q, rfl⟩
  have B3 : Below w2.heap.size w2 (w2.drewN q) := ⟨rfl, rfl, rfl, Nat.le_refl _, fun _ _ => rfl⟩
  go_wp2_with fail
  refine (HCL.out _ B3).mono ?_
  rintro e w4 ⟨g, cap, rfl, hcap, hO⟩
  have hO4 : OR w2 w4 g n cap es := ⟨hO.row, hO.len, B3.trans hO.bel⟩
  clear hO B3
  go_wp2_with fail
  go_loopw [27] (fun i wr => ∃ j : Nat, j ≤ n ∧ i = .int .i64 j ∧ OR w2 wr g n cap (orTo es bs j)) (fun i _ => n - (intOf i).toNat)
  case atStart => exact ⟨0, by omega, rfl, by simpa [orTo, orL] using hO4⟩
  case round =>
    obtain ⟨j, hj, rfl, hR⟩ := hrel
    clear hO4
    by_cases hlt : j < n
    · obtain ⟨b', off, rfl, hb', hc⟩ := HB.out j _ (getD_at (by rw [HM.out]; exact hlt))
      replace hc := (hR.bel.cell (p := ⟨b', off + j, none⟩) hb').trans hc
      have hr := hR.cell hlt
      have hf := hR.free j
      rw [orTo_at HLN.out (by rw [HN.out]; exact hlt)] at hr
      have hxl : (es.getD j 0).toNat < 256 := UInt8.toNat_lt _
      have hyl : (bs.getD j 0).toNat < 256 := UInt8.toNat_lt _
      have hor := u8_or_nat _ _ hxl hyl
      have hol : (es.getD j 0).toNat ||| (bs.getD j 0).toNat < 256 := Nat.or_lt_two_pow (n := 8) hxl hyl
      have HS : Hid _ := hR.set j (UInt8.ofNat ((es.getD j 0).toNat ||| (bs.getD j 0).toNat))
      rw [orTo_next HLN.out (by rw [HN.out]; exact hlt)] at HS
      obtain ⟨x, hx⟩ : ∃ x, (es.getD j 0).toNat = x := ⟨_, rfl⟩
      obtain ⟨y, hy⟩ : ∃ y, (bs.getD j 0).toNat = y := ⟨_, rfl⟩
      rw [hx] at hr hor hxl hol HS
      rw [hy] at hc hor hyl hol HS
      obtain ⟨z, hz⟩ : ∃ z, x ||| y = z := ⟨_, rfl⟩
      rw [hz] at hor hol HS
      rw [show ((UInt8.ofNat z).toNat : Int) = (z : Int) from by have : (UInt8.ofNat z).toNat = z := (by simp; omega); omega] at HS
      clear hx hy hz hR
      go_wp2_with fail
      go_roundw
      case rel => exact ⟨j + 1, by omega, by go_num, HS.out⟩
      case measure => simp [intOf]; omega
    · obtain rfl : j = n := by omega
      have HE : Hid (orTo es bs j = orL es bs) := by rw [Hid, ← HN.out]; exact orTo_all HLN.out
      rw [HE.out] at hR
      go_wp2_with fail
      go_ret2
      exact ⟨g, cap, rfl, hcap, hR⟩
end Go.Proofs.Ytoopgddhkdekmaa
