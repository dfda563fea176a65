/-
  The contracts of samePairs (where both hold the same), of Find and of the twin's.
-/
import Derived.Test.YtimabpfahhbadaaDoorPsq
namespace Go.Proofs.YtimabpfahhbadaaDoor
open Go.RowKit
set_option maxRecDepth 20000 in
set_option maxHeartbeats 4000000 in
theorem samePairs_eq (a b : Option Addr) (ca cb Ba Bb : Nat) (l : List Fd) (w : World) (ha : FA Ba w a l) (hb : FA Bb w b l) (hl : l.length ≤ 1000000000) :
    Calls Tryd.prog 11 #[.slice a l.length ca, .slice b l.length cb] w fun e w' => e = .returned (.bool true) ∧ Below w.heap.size w w' := by
  have hne : ((l.length : Int) != (l.length : Int)) = false := by simp
  have HA : Hid _ := ha
  have HB : Hid _ := hb
  clear ha hb
  go_enter Tryd.func11, Tryd.ntmps11
  go_wp2_with fail
  go_loopw [5] (fun i wr => ∃ k n : Nat, k ≤ l.length ∧ i = .int .i64 (k : Int) ∧ wr = w.drewN n) (fun i _ => l.length - (intOf i).toNat)
  case atStart => exact ⟨0, 0, by omega, rfl, rfl⟩
  case round =>
    obtain ⟨k, n, hk, rfl, rfl⟩ := hrel
    by_cases hlt : k < l.length
    · have hz : l[k]? = some l[k] := List.getElem?_eq_getElem hlt
      obtain ⟨z, hzz⟩ : ∃ z, l[k] = z := ⟨_, rfl⟩
      rw [hzz] at hz
      obtain ⟨p, off, rfl, _, x0, x1⟩ := HA.out k z hz
      obtain ⟨q, of2, rfl, _, y0, y1⟩ := HB.out k z hz
      have x0' : (w.drewN n).cell? ⟨p, off + k * 2, none⟩ = some (.string z.name) := x0
      have x1' : (w.drewN n).cell? ⟨p, off + k * 2 + 1, none⟩ = some (.string z.val) := x1
      have y0' : (w.drewN n).cell? ⟨q, of2 + k * 2, none⟩ = some (.string z.name) := y0
      have y1' : (w.drewN n).cell? ⟨q, of2 + k * 2 + 1, none⟩ = some (.string z.val) := y1
      have hlz : (k : Int) < (l.length : Int) := by omega
      obtain ⟨zn, zv⟩ := z
      simp only at x0' x1' y0' y1'
      have e1 : (zn.toList == zn.toList) = true := by simp
      have e2 : (zv.toList == zv.toList) = true := by simp
      obtain ⟨W, hW⟩ : ∃ W, w.drewN n = W := ⟨_, rfl⟩
      have HW : Hid _ := hW
      rw [hW] at x0' x1' y0' y1' ⊢
      clear hz hzz hW x0 x1 y0 y1 HA HB
      go_wp2_with fail
      go_quiet (fail)
      go_wp2_with fail
      go_roundw
      case rel => exact ⟨k + 1, n + nq, by omega, by go_num, by rw [← HW.out]; first | rfl | (simp [World.drewN, Nat.add_assoc])⟩
      case measure => simp [intOf]; omega
    · obtain rfl : k = l.length := by omega
      go_wp2_with fail
      go_ret
      exact ⟨rfl, ⟨rfl, rfl, rfl, Nat.le_refl _, fun _ _ => rfl⟩⟩
/-- The first pair of a name. -/
def findF (name : ByteArray) : List Fd → Option ByteArray
  | [] => none
  | f :: l => if f.name = name then some (bareB f.val) else findF name l
/-- What Find tells. -/
def findR (name : ByteArray) : List ByteArray → ByteArray × Bool
  | [] => (⟨#[]⟩, false)
  | v :: l => match findF name (parseR v).1 with
    | some x => (x, true)
    | none => findR name l
theorem findR_hit {name v x : ByteArray} {l : List ByteArray} (h : findF name (parseR v).1 = some x) : findR name (v :: l) = (x, true) := by rw [findR, h]
theorem findR_miss {name v : ByteArray} {l : List ByteArray} (h : findF name (parseR v).1 = none) : findR name (v :: l) = findR name l := by rw [findR, h]
theorem findF_hit {name : ByteArray} {f : Fd} {l : List Fd} (h : f.name = name) : findF name (f :: l) = some (bareB f.val) := by rw [findF, if_pos h]
theorem findF_miss {name : ByteArray} {f : Fd} {l : List Fd} (h : f.name ≠ name) : findF name (f :: l) = findF name l := by rw [findF, if_neg h]
theorem drop_of {α : Type} {l : List α} {k : Nat} {x : α} (h : l[k]? = some x) : l.drop k = x :: l.drop (k + 1) := by
  obtain ⟨hj, e⟩ := List.getElem?_eq_some_iff.1 h
  rw [List.drop_eq_getElem_cons hj, e]
theorem parseR_sm {v : ByteArray} {N : Nat} (h : v.size ≤ N) : smF N (parseR v).1 ∧ (parseR v).1.length ≤ 16 := by
  unfold parseR
  split
  · rename_i hq
    refine ⟨fun c hc => ?_, by rw [List.length_map]; exact hq.1⟩
    obtain ⟨s, hs, rfl⟩ := List.mem_map.1 hc
    have h1 := rdP_size s
    have h2 := split_sizes smb _ v N h s hs
    omega
  · exact ⟨fun c hc => (by cases hc), Nat.zero_le _⟩
set_option maxRecDepth 20000 in
set_option maxHeartbeats 8000000 in
theorem find_any (a : Option Addr) (ca : Nat) (vs : List ByteArray) (name : ByteArray) (m : Int) (w : World) (ht : TextsAt w a vs) (hl : vs.length ≤ 1000000000) (hs : ∀ l ∈ vs, l.size ≤ 1000000000) (hm : w.cell? ⟨0, 0, none⟩ = some (.int .i64 m)) :
    Calls Tryd.prog 14 #[.slice a vs.length ca, .string name] w fun e w' => e = .returned (.tuple #[.string (findR name vs).1, .bool (findR name vs).2]) ∧ Below w.heap.size w w' := by
  obtain ⟨n, hn⟩ : ∃ n, vs.length = n := ⟨_, rfl⟩
  have HM : Hid (∀ W, Below w.heap.size w W → W.cell? ⟨0, 0, none⟩ = some (.int .i64 m)) := fun W b => mx_below hm b
  have HS : Hid (∀ l ∈ vs, l.size ≤ 1000000000) := hs
  have HL : Hid _ := hn
  have HX : Hid _ := ht
  rw [hn] at hl ⊢
  obtain ⟨T, hT⟩ : ∃ T, findR name vs = T := ⟨_, rfl⟩
  have HT : Hid _ := hT
  rw [hT]
  clear hn ht hs hm hT
  go_enter Tryd.func14, Tryd.ntmps14
  go_wp2_with fail
  go_loopw [14] (fun i wr => ∃ k : Nat, k ≤ n ∧ i = .int .i64 (k : Nat) ∧ Hid (T = findR name (vs.drop k)) ∧ Hid (Below w.heap.size w wr)) (fun i _ => n - (intOf i).toNat)
  case atStart => exact ⟨0, by omega, rfl, by rw [Hid, List.drop_zero, HT.out], Below.refl _ _⟩
  case round =>
    obtain ⟨k, hkn, rfl, HE, HB⟩ := hrel
    by_cases hlt : k < n
    · have hlz : (k : Int) < (n : Int) := by omega
      obtain ⟨x, hx⟩ : ∃ x, vs[k]? = some x := ⟨vs[k]'(by rw [HL.out]; exact hlt), List.getElem?_eq_getElem _⟩
      have HX2 : TextsAt wr a vs := TextsAt.below HX.out HB.out
      obtain ⟨b, off, rfl, _, x0⟩ := HX2 k x hx
      have hxz := HS.out x (List.mem_of_getElem? hx)
      have HD : Hid (vs.drop k = x :: vs.drop (k + 1)) := drop_of hx
      have H1 : Hid (∀ W, Below w.heap.size w W → _) := fun W b => parse_any x hxz m W (HM.out W b)
      obtain ⟨HF1, hF2⟩ := parseR_sm hxz
      have HH : Hid (∀ y, findF name (parseR x).1 = some y → T = (y, true)) := fun y hy => by rw [HE.out, HD.out, findR_hit hy]
      have HN : Hid (findF name (parseR x).1 = none → T = findR name (vs.drop (k + 1))) := fun hy => by rw [HE.out, HD.out, findR_miss hy]
      obtain ⟨R, hR⟩ : ∃ R, parseR x = R := ⟨_, rfl⟩
      rw [hR] at H1 HF1 hF2 HH HN
      obtain ⟨F, re⟩ := R
      simp only at H1 HF1 hF2 HH HN
      obtain ⟨q, hq⟩ : ∃ q, F.length = q := ⟨_, rfl⟩
      rw [hq] at H1 hF2
      have HQ : Hid _ := hq
      have HFZ : Hid _ := HF1
      clear hx HX2 hxz hR HD hq HF1
      go_wp2_with fail
      refine (H1.out _ HB.out).mono ?_
      rintro e w1 ⟨pa, pc, rfl, hpo, hb1⟩
      have HFA : Hid (FA w1.heap.size w1 pa F) := by rw [← HQ.out] at hpo; exact fa_row hpo
      have HB1 : Hid (Below w.heap.size w w1) := HB.out.trans (hb1.mono HB.out.size)
      clear hpo hb1 x0
      go_wp2_with fail
      go_loopw [25] (fun i w2 => ∃ j : Nat, j ≤ q ∧ i = .int .i64 (j : Nat) ∧ Hid (findF name F = findF name (F.drop j)) ∧ Hid (Below w1.heap.size w1 w2)) (fun i _ => q - (intOf i).toNat)
      case atStart => exact ⟨0, by omega, rfl, by rw [Hid, List.drop_zero], Below.refl _ _⟩
      case round =>
        obtain ⟨j, hjq, rfl, HJ, HB2⟩ := hrel
        have HBW : Hid (Below w.heap.size w wr) := HB1.out.trans (HB2.out.mono HB1.out.size)
        by_cases hjl : j < q
        · have hjz : (j : Int) < (q : Int) := by omega
          obtain ⟨y, hy⟩ : ∃ y, F[j]? = some y := ⟨F[j]'(by rw [HQ.out]; exact hjl), List.getElem?_eq_getElem _⟩
          have HC2 : FA w1.heap.size wr pa F := FA.below HFA.out (fun b hb => HB2.out.block b hb)
          obtain ⟨b2, off2, rfl, _, y0, y1⟩ := HC2 j y hy
          have hyz := HFZ.out y (List.mem_of_getElem? hy)
          have HD : Hid (F.drop j = y :: F.drop (j + 1)) := drop_of hy
          have H2 : Hid (∀ W : World, _) := fun W => unmarked_any y.val (by omega) W
          obtain ⟨yn, yv⟩ := y
          simp only at y0 y1 H2
          have hsz := HBW.out.size
          have hsz2 := HB2.out.size
          clear hy HC2 hyz
          by_cases hnm : yn = name
          · have HR : Hid (T = (bareB yv, true)) := HH.out _ (by rw [HJ.out, HD.out, findF_hit hnm])
            have hne := toList_eq' hnm
            clear hnm
            go_wp2_with (go_at_call 26; refine (H2.out _).mono ?_; rintro e w' ⟨rfl, rfl⟩)
            go_ret2
            exact ⟨by rw [HR.out]; rfl, HBW.out.alloc hsz _⟩
          · have HJ2 : Hid (findF name F = findF name (F.drop (j + 1))) := by rw [Hid, HJ.out, HD.out, findF_miss hnm]
            have hne := toList_ne hnm
            clear hnm
            go_wp2_with fail
            go_roundw
            case rel => exact ⟨j + 1, by omega, by go_num, HJ2.out, HB2.out.alloc hsz2 _⟩
            case measure => simp [intOf]; omega
        · have hjz : ¬ (j : Int) < (q : Int) := by omega
          have HR : Hid (T = findR name (vs.drop (k + 1))) := HN.out (by rw [HJ.out, List.drop_eq_nil_of_le (by rw [HQ.out]; omega)]; rfl)
          go_wp2_with fail
          go_roundw
          case rel => exact ⟨k + 1, by omega, by go_num, HR.out, HBW.out⟩
          case measure => simp [intOf]; omega
    · have hlz : ¬ (k : Int) < (n : Int) := by omega
      have HR : Hid (T = (⟨#[]⟩, false)) := by rw [Hid, HE.out, List.drop_eq_nil_of_le (by rw [HL.out]; omega)]; rfl
      go_wp2_with fail
      go_ret2
      exact ⟨by rw [HR.out]; rfl, HB.out⟩
set_option maxRecDepth 20000 in
set_option maxHeartbeats 8000000 in
theorem qfind_any (a : Option Addr) (ca : Nat) (vs : List ByteArray) (name : ByteArray) (w : World) (ht : TextsAt w a vs) (hl : vs.length ≤ 1000000000) (hs : ∀ l ∈ vs, l.size ≤ 1000000000) :
    Calls Tryd.prog 15 #[.slice a vs.length ca, .string name] w fun e w' => e = .returned (.tuple #[.string (findR name vs).1, .bool (findR name vs).2]) ∧ Below w.heap.size w w' := by
  obtain ⟨n, hn⟩ : ∃ n, vs.length = n := ⟨_, rfl⟩
  have HS : Hid (∀ l ∈ vs, l.size ≤ 1000000000) := hs
  have HL : Hid _ := hn
  have HX : Hid _ := ht
  rw [hn] at hl ⊢
  obtain ⟨T, hT⟩ : ∃ T, findR name vs = T := ⟨_, rfl⟩
  have HT : Hid _ := hT
  rw [hT]
  clear hn ht hs hT
  go_enter Tryd.func15, Tryd.ntmps15
  go_wp2_with fail
  go_loopw [6] (fun i wr => ∃ k : Nat, k ≤ n ∧ i = .int .i64 (k : Nat) ∧ Hid (T = findR name (vs.drop k)) ∧ Hid (Below w.heap.size w wr)) (fun i _ => n - (intOf i).toNat)
  case atStart => exact ⟨0, by omega, rfl, by rw [Hid, List.drop_zero, HT.out], Below.refl _ _⟩
  case round =>
    obtain ⟨k, hkn, rfl, HE, HB⟩ := hrel
    by_cases hlt : k < n
    · have hlz : (k : Int) < (n : Int) := by omega
      obtain ⟨x, hx⟩ : ∃ x, vs[k]? = some x := ⟨vs[k]'(by rw [HL.out]; exact hlt), List.getElem?_eq_getElem _⟩
      have HX2 : TextsAt wr a vs := TextsAt.below HX.out HB.out
      obtain ⟨b, off, rfl, _, x0⟩ := HX2 k x hx
      have hxz := HS.out x (List.mem_of_getElem? hx)
      have HD : Hid (vs.drop k = x :: vs.drop (k + 1)) := drop_of hx
      have H1 : Hid (∀ W : World, _) := fun W => qparse_any x hxz W
      obtain ⟨HF1, hF2⟩ := parseR_sm hxz
      have HH : Hid (∀ y, findF name (parseR x).1 = some y → T = (y, true)) := fun y hy => by rw [HE.out, HD.out, findR_hit hy]
      have HN : Hid (findF name (parseR x).1 = none → T = findR name (vs.drop (k + 1))) := fun hy => by rw [HE.out, HD.out, findR_miss hy]
      obtain ⟨R, hR⟩ : ∃ R, parseR x = R := ⟨_, rfl⟩
      rw [hR] at H1 HF1 hF2 HH HN
      obtain ⟨F, re⟩ := R
      simp only at H1 HF1 hF2 HH HN
      obtain ⟨q, hq⟩ : ∃ q, F.length = q := ⟨_, rfl⟩
      rw [hq] at H1 hF2
      have HQ : Hid _ := hq
      have HFZ : Hid _ := HF1
      clear hx HX2 hxz hR HD hq HF1
      go_wp2_with fail
      refine (H1.out _).mono ?_
      rintro e w1 ⟨pa, pc, rfl, hpo, hb1⟩
      have HFA : Hid (FA w1.heap.size w1 pa F) := by rw [← HQ.out] at hpo; exact fa_row hpo
      have HB1 : Hid (Below w.heap.size w w1) := HB.out.trans (hb1.mono HB.out.size)
      clear hpo hb1 x0
      go_wp2_with fail
      go_loopw [9] (fun i w2 => ∃ j : Nat, j ≤ q ∧ i = .int .i64 (j : Nat) ∧ Hid (findF name F = findF name (F.drop j)) ∧ Hid (w2 = w1)) (fun i _ => q - (intOf i).toNat)
      case atStart => exact ⟨0, by omega, rfl, by rw [Hid, List.drop_zero], rfl⟩
      case round =>
        obtain ⟨j, hjq, rfl, HJ, HW2⟩ := hrel
        by_cases hjl : j < q
        · have hjz : (j : Int) < (q : Int) := by omega
          obtain ⟨y, hy⟩ : ∃ y, F[j]? = some y := ⟨F[j]'(by rw [HQ.out]; exact hjl), List.getElem?_eq_getElem _⟩
          have HC2 : FA w1.heap.size wr pa F := by rw [HW2.out]; exact HFA.out
          obtain ⟨b2, off2, rfl, _, y0, y1⟩ := HC2 j y hy
          have hyz := HFZ.out y (List.mem_of_getElem? hy)
          have HD : Hid (F.drop j = y :: F.drop (j + 1)) := drop_of hy
          have H2 : Hid (∀ W : World, _) := fun W => qbare_any y.val (by omega) W
          obtain ⟨yn, yv⟩ := y
          simp only at y0 y1 H2
          clear hy HC2 hyz
          by_cases hnm : yn = name
          · have HR : Hid (T = (bareB yv, true)) := HH.out _ (by rw [HJ.out, HD.out, findF_hit hnm])
            have hne := toList_eq' hnm
            clear hnm
            go_wp2_with (go_at_call 31; refine (H2.out _).mono ?_; rintro e w' ⟨rfl, rfl⟩)
            go_ret2
            exact ⟨by rw [HR.out]; rfl, by rw [HW2.out]; exact HB1.out⟩
          · have HJ2 : Hid (findF name F = findF name (F.drop (j + 1))) := by rw [Hid, HJ.out, HD.out, findF_miss hnm]
            have hne := toList_ne hnm
            clear hnm
            go_wp2_with fail
            go_roundw
            case rel => exact ⟨j + 1, by omega, by go_num, HJ2.out, HW2.out⟩
            case measure => simp [intOf]; omega
        · have hjz : ¬ (j : Int) < (q : Int) := by omega
          have HR : Hid (T = findR name (vs.drop (k + 1))) := HN.out (by rw [HJ.out, List.drop_eq_nil_of_le (by rw [HQ.out]; omega)]; rfl)
          go_wp2_with fail
          go_roundw
          case rel => exact ⟨k + 1, by omega, by go_num, HR.out, by rw [HW2.out]; exact HB1.out⟩
          case measure => simp [intOf]; omega
    · have hlz : ¬ (k : Int) < (n : Int) := by omega
      have HR : Hid (T = (⟨#[]⟩, false)) := by rw [Hid, HE.out, List.drop_eq_nil_of_le (by rw [HL.out]; omega)]; rfl
      go_wp2_with fail
      go_ret2
      exact ⟨by rw [HR.out]; rfl, HB.out⟩
end Go.Proofs.YtimabpfahhbadaaDoor
