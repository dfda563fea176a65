/-
  The walk of MemForks.
-/
import Derived.Test.YtdgmjmohfpjlnaaFob
namespace Go.Proofs.Ytdgmjmohfpjlnaa
open Go.RowKit Go.Shelf
set_option maxRecDepth 100000 in
set_option maxHeartbeats 16000000 in
theorem forks_walk (a a2 : Option Addr) (cp cp2 : Nat) (l l2 : List OpR) (w : World) (h : OA w.heap.size w a l) (h2 : OA w.heap.size w a2 l2) (hl : l.length ≤ 1100000) (hl2 : l2.length ≤ 1100000) :
    Calls Try.prog 4 #[.slice a l.length cp, .slice a2 l2.length cp2] w fun e w' => e = .returned (.bool true) ∧ Below w.heap.size w w' := by
  have HOA : Hid (OA w.heap.size w a l) := h
  have HO2 : Hid (OA w.heap.size w a2 l2) := h2
  obtain ⟨n, hn⟩ : ∃ n, l.length = n := ⟨_, rfl⟩
  obtain ⟨n2, hn2⟩ : ∃ n, l2.length = n := ⟨_, rfl⟩
  have HN : Hid _ := hn
  have HN2 : Hid _ := hn2
  rw [hn] at hl ⊢
  rw [hn2] at hl2 ⊢
  clear h h2 hn hn2
  go_enter Try.func4, Try.ntmps4
  go_wp2_with fail
  refine (new_any w).mono ?_
  rintro e w1 ⟨rfl, hma, b1⟩
  have HM1 : Hid _ := hma
  have HB1 : Hid _ := b1
  clear hma b1
  go_wp2_with fail
  refine (awake_any w1).mono ?_
  rintro e w2 ⟨rfl, b2⟩
  have HPL : Hid _ := pl_new HM1.out HB1.out b2
  clear b2 HM1 HB1
  go_wp2_with fail
  obtain ⟨r, hr⟩ : ∃ q, w2.heap.size = q := ⟨_, rfl⟩
  obtain ⟨W4, hW4⟩ : ∃ V, w2.alloc (.cells #[.slice none 0 0, .slice none 0 0] 30) = V := ⟨_, rfl⟩
  obtain ⟨g, hg⟩ : ∃ q, w.heap.size + 1 = q := ⟨_, rfl⟩
  rw [hr, hW4, hg] at HPL
  rw [hr, hW4, hg]
  clear hr hW4 hg
  go_loopw [24] (fun i wr => ∃ (k : Nat), k ≤ n ∧ i = .int .i64 ((k : Nat) : Int) ∧ Hid (PL w.heap.size w wr k g r)) (fun i _ => n - (intOf i).toNat)
  case atStart => exact ⟨0, by omega, rfl, HPL.out⟩
  case round =>
    obtain ⟨k, hk, rfl, HT⟩ := hrel
    by_cases hlt : k < n
    · have hlz : ((k : Nat) : Int) < ((n : Nat) : Int) := by omega
      obtain ⟨o, ho⟩ : ∃ o, l[k]? = some o := ⟨_, List.getElem?_eq_getElem (by rw [HN.out]; exact hlt)⟩
      obtain ⟨lb, off, rfl, _, e0, e1, e2, e3, e4, e5, e6⟩ := (HOA.out.below (fun x hx => HT.out.bel.block x hx)) k o ho
      obtain ⟨ok, ⟨ckey, cseq, cval, cgone⟩, otw, on⟩ := o
      simp only at e0 e1 e2 e3 e4 e5 e6
      obtain ⟨x, hx⟩ : ∃ q, wr.heap.size = q := ⟨_, rfl⟩
      obtain ⟨V, hV⟩ : ∃ V, wr.alloc (.cells #[.int .i64 ok, .string ckey, .int .u64 ((cseq : Nat) : Int), .string cval, .bool cgone, .string otw, .int .i64 on] 35) = V := ⟨_, rfl⟩
      have HTV : Hid (PL w.heap.size w V k g r) := by rw [Hid, ← hV]; exact HT.out.on (below_new _ _)
      have HOB : Hid (OB V x ⟨ok, ⟨ckey, cseq, cval, cgone⟩, otw, on⟩) := by rw [Hid, ← hV, ← hx]; exact block_alloc_at _ _
      obtain ⟨o0, o1, o2, o3, o4, o5, o6⟩ := HOB.out.cells
      simp only at o0 o1 o2 o3 o4 o5 o6
      rw [← hV, ← hx] at o0 o1 o2 o3 o4 o5 o6
      have HV : Hid _ := hV
      have HDO : Hid _ := HTV.out.does (by omega) ⟨ok, ⟨ckey, cseq, cval, cgone⟩, otw, on⟩
      simp only [opV] at HDO
      clear hV hx HT ho
      go_wp2_with fail
      rw [HV.out]
      refine Calls.mono HDO.out ?_
      rintro e w6 ⟨rfl, HL6⟩
      have HL : Hid _ := HL6
      clear HL6 HDO
      go_wp2_with fail
      go_roundw
      case rel => exact ⟨k + 1, by omega, by go_num, HL.out⟩
      case measure => simp [intOf]; omega
    · obtain rfl : k = n := by omega
      have hlz : ¬ ((k : Nat) : Int) < ((k : Nat) : Int) := by omega
      have HFO : Hid _ := HT.out.fork
      have HKK : Hid (k ≤ 1100000) := hl
      clear HT
      go_wp2_with fail
      refine Calls.mono HFO.out ?_
      rintro e w5 ⟨g', rfl, HF5⟩
      have HF : Hid _ := HF5.fork (by omega)
      clear HF5 HFO
      go_wp2_with fail
      refine Calls.mono HF.out ?_
      rintro e w6 ⟨s, rfl, HP6⟩
      have HP2 : Hid _ := HP6
      clear HP6 HF
      go_wp2_with fail
      go_loopw [42] (fun i wr => ∃ (j : Nat), j ≤ n2 ∧ i = .int .i64 ((j : Nat) : Int) ∧ Hid (PL2 w.heap.size w wr (k + j) g r g' s)) (fun i _ => n2 - (intOf i).toNat)
      case atStart => exact ⟨0, by omega, rfl, HP2.out⟩
      case round =>
        obtain ⟨j, hj, rfl, HT⟩ := hrel
        by_cases hlt2 : j < n2
        · have hlz2 : ((j : Nat) : Int) < ((n2 : Nat) : Int) := by omega
          obtain ⟨o, ho⟩ : ∃ o, l2[j]? = some o := ⟨_, List.getElem?_eq_getElem (by rw [HN2.out]; exact hlt2)⟩
          obtain ⟨lb, off, rfl, _, e0, e1, e2, e3, e4, e5, e6⟩ := (HO2.out.below (fun x hx => HT.out.bel.block x hx)) j o ho
          obtain ⟨ok, ⟨ckey, cseq, cval, cgone⟩, otw, on⟩ := o
          simp only at e0 e1 e2 e3 e4 e5 e6
          obtain ⟨x, hx⟩ : ∃ q, wr.heap.size = q := ⟨_, rfl⟩
          obtain ⟨V, hV⟩ : ∃ V, wr.alloc (.cells #[.int .i64 ok, .string ckey, .int .u64 ((cseq : Nat) : Int), .string cval, .bool cgone, .string otw, .int .i64 on] 35) = V := ⟨_, rfl⟩
          have HTV : Hid (PL2 w.heap.size w V (k + j) g r g' s) := by rw [Hid, ← hV]; exact HT.out.on (below_new _ _)
          have HOB : Hid (OB V x ⟨ok, ⟨ckey, cseq, cval, cgone⟩, otw, on⟩) := by rw [Hid, ← hV, ← hx]; exact block_alloc_at _ _
          obtain ⟨o0, o1, o2, o3, o4, o5, o6⟩ := HOB.out.cells
          simp only at o0 o1 o2 o3 o4 o5 o6
          rw [← hV, ← hx] at o0 o1 o2 o3 o4 o5 o6
          have HV : Hid _ := hV
          have HDO : Hid _ := HTV.out.does (by have := HKK.out; omega) ⟨ok, ⟨ckey, cseq, cval, cgone⟩, otw, on⟩
          have HD2 : Hid _ := HTV.out.does' (by have := HKK.out; omega) ⟨ok, ⟨ckey, cseq, cval, cgone⟩, otw, on⟩
          simp only [opV] at HDO HD2
          clear hV hx HT ho
          by_cases hp : j % 2 = 0
          · have hpe : ((j : Nat) : Int).tmod 2 = ((j % 2 : Nat) : Int) := rfl
            have hpz : (((j : Nat) : Int).tmod 2 == 0) = true := by rw [hpe, hp]; rfl
            clear hpe
            go_wp2_with fail
            rw [HV.out]
            refine Calls.mono HDO.out ?_
            rintro e w6 ⟨rfl, HL6⟩
            have HL : Hid _ := HL6
            clear HL6 HDO HD2
            go_wp2_with fail
            go_roundw
            case rel => exact ⟨j + 1, by omega, by go_num, HL.out⟩
            case measure => simp [intOf]; omega
          · have hpe : ((j : Nat) : Int).tmod 2 = ((j % 2 : Nat) : Int) := rfl
            have hp1 : j % 2 = 1 := by omega
            have hpz : (((j : Nat) : Int).tmod 2 == 0) = false := by rw [hpe, hp1]; rfl
            have hpo : (((j : Nat) : Int).tmod 2 == 1) = true := by rw [hpe, hp1]; rfl
            clear hpe
            go_wp2_with fail
            rw [HV.out]
            refine Calls.mono HD2.out ?_
            rintro e w6 ⟨rfl, HL6⟩
            have HL : Hid _ := HL6
            clear HL6 HDO HD2
            go_wp2_with fail
            go_roundw
            case rel => exact ⟨j + 1, by omega, by go_num, HL.out⟩
            case measure => simp [intOf]; omega
        · obtain rfl : j = n2 := by omega
          have hlz2 : ¬ ((j : Nat) : Int) < ((j : Nat) : Int) := by omega
          have HLO : Hid _ := HT.out.looks (by have := HKK.out; omega)
          have HT2 : Hid (PL2 w.heap.size w wr (k + j) g r g' s) := HT.out
          clear HT
          go_wp2_with fail
          refine Calls.mono HLO.out ?_
          rintro e w6 ⟨rfl, b6⟩
          have HT6 : Hid (PL2 w.heap.size w w6 (k + j) g r g' s) := PL2.on HT2.out b6
          have HLO2 : Hid _ := HT6.out.swap.looks (by have := HKK.out; omega)
          clear b6 HLO HT2
          go_wp2_with fail
          refine Calls.mono HLO2.out ?_
          rintro e w7 ⟨rfl, b7⟩
          have HB7 : Hid _ := (HT6.out.on b7).bel
          clear b7 HLO2 HT6
          go_wp2_with fail
          go_ret
          exact ⟨rfl, HB7.out⟩
end Go.Proofs.Ytdgmjmohfpjlnaa
