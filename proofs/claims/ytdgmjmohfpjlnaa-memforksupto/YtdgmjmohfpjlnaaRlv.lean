/-
  The contract of the twin's Levels.
-/
import Derived.Test.YtdgmjmohfpjlnaaRsz
namespace Go.Proofs.Ytdgmjmohfpjlnaa
open Go.RowKit Go.Shelf
/-- How many are at least so high. -/
def cntH (k : Nat) (H : List Nat) : Nat := (H.filter (fun h => decide (k ≤ h))).length
def rlevC (H : List Nat) (j : Nat) : List Nat := ((List.range j).map (fun k => cntH (k + 1) H)).filter (fun x => decide (0 < x))
theorem cntH_take (k : Nat) {H : List Nat} {q h : Nat} (hq : H[q]? = some h) : cntH k (H.take (q + 1)) = cntH k (H.take q) + (if k ≤ h then 1 else 0) := by
  have hlt : q < H.length := (List.getElem?_eq_some_iff.1 hq).1
  have e : H.take (q + 1) = H.take q ++ [h] := by
    rw [List.getElem?_eq_getElem hlt] at hq
    cases hq
    rw [List.take_succ_eq_append_getElem hlt]
  rw [e]
  unfold cntH
  rw [List.filter_append, List.length_append]
  congr 1
  split
  · rename_i h1; rw [List.filter_cons_of_pos (by simpa using h1)]; rfl
  · rename_i h1; rw [List.filter_cons_of_neg (by simpa using h1)]; rfl
theorem rlevC_succ (H : List Nat) (j : Nat) : rlevC H (j + 1) = rlevC H j ++ (if 0 < cntH (j + 1) H then [cntH (j + 1) H] else []) := by
  unfold rlevC
  rw [List.range_succ, List.map_append, List.filter_append]
  congr 1
  split
  · rename_i h1; rw [List.map_cons, List.map_nil, List.filter_cons_of_pos (by simpa using h1)]; rfl
  · rename_i h1; rw [List.map_cons, List.map_nil, List.filter_cons_of_neg (by simpa using h1)]; rfl
theorem rlevC_len (H : List Nat) (j : Nat) : (rlevC H j).length ≤ j := by
  unfold rlevC
  refine Nat.le_trans (List.length_filter_le _ _) ?_
  rw [List.length_map, List.length_range]
  exact Nat.le_refl _
theorem cntH_le (k : Nat) (H : List Nat) (q : Nat) : cntH k (H.take q) ≤ q := by
  unfold cntH
  refine Nat.le_trans (List.length_filter_le _ _) ?_
  rw [List.length_take]
  omega
theorem IA.below {w w' : World} {a : Option Addr} {l : List Nat} (h : IA w a l) (k : Below w.heap.size w w') : IA w' a l := fun j v hj => by
  obtain ⟨b, off, e, c⟩ := h j v hj
  exact ⟨b, off, e, (k.cell (p := ⟨b, off + j, none⟩) (World.block_lt_of_cell? _ _ c)).trans c⟩
set_option maxRecDepth 20000 in
set_option maxHeartbeats 8000000 in
theorem rlevels_any (r : Nat) (ha : Option Addr) (n hc : Nat) (H : List Nat) (w : World) (h1 : w.cell? ⟨r, 1, none⟩ = some (.slice ha n hc)) (h2 : IA w ha H) (hl : H.length = n) (hn : n ≤ 4000000) :
    Calls Try.prog 37 #[.pointer (some ⟨r, 0, none⟩)] w fun e w' => ∃ v, e = .returned v ∧ w'.ownsRow w.heap.size 3 1 v (rlevC H 12).length ((rlevC H 12).map fun x => .int .i64 ((x : Nat) : Int)) ∧ Below w.heap.size w w' := by
  obtain ⟨i0, hi, hz0, hz1, hz2⟩ := info_parts info3
  have HC1 : Hid (∀ V, Below w.heap.size w V → V.cell? ⟨r, 1, none⟩ = some (.slice ha n hc)) := fun V hV => (hV.cell (p := ⟨r, 1, none⟩) (World.block_lt_of_cell? _ _ h1)).trans h1
  have HIA : Hid (IA w ha H) := h2
  have HL : Hid (H.length = n) := hl
  clear h1 h2 hl
  go_enter Try.func37, Try.ntmps37
  go_wp2_with fail
  go_loopw [3, 4] (fun v i wr => ∃ j : Nat, j ≤ 12 ∧ i = .int .i64 ((j : Nat) + 1 : Int) ∧ Hid (Below w.heap.size w wr) ∧ Hid (wr.ownsRow w.heap.size 3 1 v (rlevC H j).length ((rlevC H j).map fun x => .int .i64 ((x : Nat) : Int)))) (fun v i _ => 14 - (intOf i).toNat)
  case atStart => exact ⟨0, by omega, rfl, Below.refl _ _, World.ownsRow_nil _ _ _ _⟩
  case round =>
    obtain ⟨j, hj, rfl, HB, HR⟩ := hrel
    obtain ⟨v, rfl⟩ : ∃ v, v = u3 := ⟨_, rfl⟩
    by_cases hlt : j < 12
    · have hlz : ((j : Nat) : Int) + 1 ≤ 12 := by omega
      have hcell := HC1.out wr HB.out
      go_wp2_with fail
      go_loopw [5, 17] (fun nn i wr2 => wr2 = wr ∧ ∃ q : Nat, q ≤ n ∧ i = .int .i64 ((q : Nat) : Int) ∧ nn = .int .i64 ((cntH (j + 1) (H.take q) : Nat) : Int)) (fun nn i _ => n - (intOf i).toNat)
      case atStart => exact ⟨rfl, 0, by omega, rfl, rfl⟩
      case round =>
        obtain ⟨rfl, q, hq, rfl, rfl⟩ := hrel
        by_cases hq2 : q < n
        · have hqz : ((q : Nat) : Int) < ((n : Nat) : Int) := by omega
          obtain ⟨h, hh⟩ : ∃ h, H[q]? = some h := ⟨_, List.getElem?_eq_getElem (by rw [HL.out]; exact hq2)⟩
          obtain ⟨hb, ho, rfl, hcq⟩ := (HIA.out.below HB.out) q h hh
          have hct := cntH_take (j + 1) hh
          have hcl := cntH_le (j + 1) H q
          obtain ⟨c, hcc⟩ : ∃ c, cntH (j + 1) (H.take q) = c := ⟨_, rfl⟩
          rw [hcc] at hct hcl ⊢
          by_cases hge : j + 1 ≤ h
          · rw [if_pos hge] at hct
            have HCT : Hid (cntH (j + 1) (H.take (q + 1)) = c + 1) := hct
            have hgz : ((j : Nat) : Int) + 1 ≤ ((h : Nat) : Int) := by omega
            have hcz : ((c : Nat) : Int) < 4000000 := by omega
            clear hct hge hh hcl hcc
            go_wp2_with fail
            go_roundw
            case rel => exact ⟨trivial, q + 1, by omega, by go_num, by rw [HCT.out]; go_num⟩
            case measure => simp [intOf]; omega
          · rw [if_neg hge] at hct
            have HCT : Hid (cntH (j + 1) (H.take (q + 1)) = c) := hct
            have hgz : ¬ ((j : Nat) : Int) + 1 ≤ ((h : Nat) : Int) := by omega
            clear hct hge hh hcl hcc
            go_wp2_with fail
            go_roundw
            case rel => exact ⟨trivial, q + 1, by omega, by go_num, by rw [HCT.out]⟩
            case measure => simp [intOf]; omega
        · obtain rfl : q = n := by omega
          have hqz : ¬ ((q : Nat) : Int) < ((q : Nat) : Int) := by omega
          have hfull : H.take q = H := by rw [← HL.out, List.take_length]
          rw [hfull]
          obtain ⟨c, hcc⟩ : ∃ c, cntH (j + 1) H = c := ⟨_, rfl⟩
          have hsu := rlevC_succ H j
          have hlj := rlevC_len H j
          rw [hcc] at hsu ⊢
          have hcl : c ≤ 4000000 := by rw [← hcc, ← hfull]; exact Nat.le_trans (cntH_le _ _ _) hn
          clear hfull hcc
          by_cases hc0 : 0 < c
          · rw [if_pos hc0] at hsu
            have hcz : (0 : Int) < ((c : Nat) : Int) := by omega
            have HX : Hid (∀ (w3 : World) (v2 : Value), w3.ownsRow w.heap.size 3 1 v2 ((rlevC H j).length + 1) (((rlevC H j).map fun x => .int .i64 ((x : Nat) : Int)) ++ [.int .i64 ((c : Nat) : Int)]) → (wr.alloc (.cells #[.int .i64 ((c : Nat) : Int)] 3)).grownBy w3 v.ownBlock → Below w.heap.size w w3 ∧ w3.ownsRow w.heap.size 3 1 v2 (rlevC H (j + 1)).length ((rlevC H (j + 1)).map fun x => .int .i64 ((x : Nat) : Int))) := fun w3 v2 q1 q2 => by
              refine ⟨(HB.out.alloc HB.out.size _).grown q2 (by simp; have := HB.out.size; omega) (fun k ek => (World.ownsRow.lt HR.out k ek).1), ?_⟩
              rw [hsu, List.length_append, List.map_append]
              exact q1
            obtain ⟨m, hm⟩ : ∃ m, (rlevC H j).length = m := ⟨_, rfl⟩
            rw [hm] at HX HR hlj
            obtain ⟨va, vc, rfl⟩ := row_form4 HR.out
            have HRX : Hid ((wr.alloc (.cells #[.int .i64 ((c : Nat) : Int)] 3)).ownsRow w.heap.size 3 1 (.slice va m vc) m ((rlevC H j).map fun x => .int .i64 ((x : Nat) : Int))) := World.ownsRow.alloc HR.out _
            have hsW : w.heap.size ≤ (wr.alloc (.cells #[.int .i64 ((c : Nat) : Int)] 3)).heap.size := by have := HB.out.size; simp; omega
            have HSW : Hid _ := hsW
            have hb1 : m + 1 ≤ maxLen := by unfold maxLen; omega
            clear hsu hm hsW hcell
            go_wp2_with (at_builtin; refine wpList_append_own _ rfl (.tmp 29) (.tmp 31) 28 rfl w.heap.size 3 i0 (.int .i64 0) 1 8 Try.underlying28 hi hz0 hz1 hz2 rfl (by decide) _ _ _ rfl HRX.out ⟨wr.heap.size, 0, none⟩ 1 1 [.int .i64 ((c : Nat) : Int)] rfl rfl (cell_one_new _ _ _) (by simp [Value.oneCell']) hb1 (by omega) HSW.out ?_; intro v2 w3 hown2 hg2 _; have HF : Hid _ := HX.out w3 v2 hown2 hg2; clear hown2 hg2)
            go_roundw
            case rel => exact ⟨j + 1, by omega, by go_num, HF.out.1, HF.out.2⟩
            case measure => simp [intOf]; omega
          · rw [if_neg hc0, List.append_nil] at hsu
            have hcz : ¬ (0 : Int) < ((c : Nat) : Int) := by omega
            have HRN : Hid (wr.ownsRow w.heap.size 3 1 v (rlevC H (j + 1)).length ((rlevC H (j + 1)).map fun x => .int .i64 ((x : Nat) : Int))) := by rw [hsu]; exact HR.out
            clear hsu hcell
            go_wp2_with fail
            go_roundw
            case rel => exact ⟨j + 1, by omega, by go_num, HB.out, HRN.out⟩
            case measure => simp [intOf]; omega
    · obtain rfl : j = 12 := by omega
      go_wp2_with fail
      go_ret
      exact ⟨_, rfl, HR.out, HB.out⟩
end Go.Proofs.Ytdgmjmohfpjlnaa
