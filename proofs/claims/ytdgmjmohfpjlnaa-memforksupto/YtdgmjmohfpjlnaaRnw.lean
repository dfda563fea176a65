/-
  The contract of the twin's Newest.
-/
import Derived.Test.YtdgmjmohfpjlnaaRck
namespace Go.Proofs.Ytdgmjmohfpjlnaa
open Go.RowKit Go.Shelf
def newP (key : ByteArray) (seq : Nat) (c : Cl) : Bool := (c.key.toList == key.toList) && decide (c.seq ≤ seq)
def newC (key : ByteArray) (seq : Nat) (L : List Cl) : Option Cl := L.find? (newP key seq)
theorem newC_drop {L : List Cl} {k : Nat} {c : Cl} (hc : L[k]? = some c) : L.drop k = c :: L.drop (k + 1) := by
  have hk : k < L.length := (List.getElem?_eq_some_iff.1 hc).1
  rw [List.drop_eq_getElem_cons hk]
  rw [List.getElem?_eq_getElem hk] at hc
  cases hc
  rfl
set_option maxRecDepth 20000 in
set_option maxHeartbeats 8000000 in
theorem newest_any (a : Option Addr) (n cp : Nat) (L : List Cl) (key : ByteArray) (seq : Nat) (w : World) (h : CA w.heap.size w a L) (hl : L.length = n) (hn : n ≤ 4000000) :
    Calls Try.prog 34 #[.slice a n cp, .string key, .int .u64 ((seq : Nat) : Int)] w fun e w' => e = .returned (getV (newC key seq L)) ∧ Below w.heap.size w w' := by
  obtain ⟨z, hz⟩ : ∃ z, w.heap.size = z := ⟨_, rfl⟩
  obtain ⟨W0, hW0⟩ : ∃ W, w.alloc (.cells #[.string ⟨#[]⟩, .int .u64 0, .string ⟨#[]⟩, .bool false] 33) = W := ⟨_, rfl⟩
  have HC0 : Hid (CB W0 z cl0) := by rw [Hid, ← hW0, ← hz]; exact block_alloc_at _ _
  have HB0 : Hid (Below w.heap.size w W0) := by rw [Hid, ← hW0]; exact below_new _ _
  have HCA : Hid (CA w.heap.size w a L) := h
  have HL : Hid (L.length = n) := hl
  have HW0 : Hid _ := hW0
  have HZ : Hid _ := hz
  clear h hl hW0
  go_enter Try.func34, Try.ntmps34
  go_wp2_with fail
  try rw [HW0.out]
  try rw [hz]
  clear hz
  go_loopw [12] (fun i wr => ∃ k : Nat, k ≤ n ∧ i = .int .i64 ((k : Nat) : Int) ∧ Hid (Below w.heap.size w wr) ∧ Hid (CB wr z cl0) ∧ Hid (newC key seq L = newC key seq (L.drop k))) (fun i _ => n - (intOf i).toNat)
  case atStart => exact ⟨0, by omega, rfl, HB0.out, HC0.out, rfl⟩
  case round =>
    obtain ⟨k, hk, rfl, HB, HC, HN⟩ := hrel
    by_cases hlt : k < n
    · have hlz : ((k : Nat) : Int) < ((n : Nat) : Int) := by omega
      obtain ⟨c, hc⟩ : ∃ c, L[k]? = some c := ⟨_, List.getElem?_eq_getElem (by rw [HL.out]; exact hlt)⟩
      obtain ⟨cb, off, rfl, hcb, c0, c1, c2, c3⟩ := (HCA.out.below (fun x hx => HB.out.block x hx)) k c hc
      have hd := newC_drop hc
      obtain ⟨V, hV⟩ : ∃ V, wr.alloc (.cells #[.string c.key, .int .u64 ((c.seq : Nat) : Int), .string c.val, .bool c.gone] 33) = V := ⟨_, rfl⟩
      have HBV : Hid (Below w.heap.size w V) := by rw [Hid, ← hV]; exact HB.out.alloc HB.out.size _
      have HCV : Hid (CB V z cl0) := by rw [Hid, ← hV]; exact HC.out.below (below_new _ _)
      have hx : CB V wr.heap.size c := by rw [← hV]; exact block_alloc_at _ _
      obtain ⟨x0, x1, x2, x3⟩ := CB.cells hx
      obtain ⟨y0, y1, y2, y3⟩ := CB.cells HCV.out
      obtain ⟨f0, f1, f2, f3⟩ := CB.free HCV.out
      rw [← hV] at x0 x1 x2 x3 y0 y1 y2 y3 f0 f1 f2 f3
      have HV : Hid _ := hV
      by_cases hp : newP key seq c = true
      · have HR : Hid (newC key seq L = some c) := by rw [Hid, HN.out, hd]; unfold newC; rw [List.find?_cons_of_pos hp]
        have hk1 : (c.key.toList == key.toList) = true := by unfold newP at hp; simp at hp; simpa using hp.1
        have hk2 : ((c.seq : Nat) : Int) ≤ ((seq : Nat) : Int) := by unfold newP at hp; simp at hp; omega
        obtain ⟨W9, hW9⟩ : ∃ W9, set4 V z c = W9 := ⟨_, rfl⟩
        have HX9 : Hid (CB W9 z c) := by rw [Hid, ← hW9]; exact HCV.out.set c
        have HB9 : Hid (Below w.heap.size w W9) := by rw [Hid, ← hW9]; exact set4_below HBV.out (by rw [HZ.out]; exact Nat.le_refl _) c
        unfold set4 at hW9
        rw [← hV] at hW9
        have HW9 : Hid _ := hW9
        clear hc hcb hd hV hx hp hW9
        go_wp2_with fail
        rw [HW9.out]
        clear HW9 f0 f1 f2 f3 x0 x1 x2 x3 y0 y1 y2 y3
        obtain ⟨z0, z1, z2, z3⟩ := CB.cells HX9.out
        refine bodyPost_ret (v := getV (some c)) ?_ rfl ⟨by rw [HR.out], HB9.out⟩
        rw [results_cell_tmp rfl]
        unfold getV clV
        go_simp
      · have HR : Hid (newC key seq L = newC key seq (L.drop (k + 1))) := by rw [Hid, HN.out, hd]; unfold newC; rw [List.find?_cons_of_neg hp]
        have hcase : (c.key.toList == key.toList) = false ∨ ((c.key.toList == key.toList) = true ∧ ¬ ((c.seq : Nat) : Int) ≤ ((seq : Nat) : Int)) := by
          unfold newP at hp
          cases h : (c.key.toList == key.toList) with
          | false => exact .inl rfl
          | true => rw [h] at hp; simp at hp; exact .inr ⟨rfl, by omega⟩
        clear hc hcb hd hV hx hp
        rcases hcase with hk1 | ⟨hk1, hk2⟩
        · go_wp2_with fail
          try rw [HV.out]
          clear x0 x1 x2 x3 y0 y1 y2 y3 f0 f1 f2 f3 c0 c1 c2 c3
          go_roundw
          case rel => exact ⟨k + 1, by omega, by go_num, HBV.out, HCV.out, HR.out⟩
          case measure => simp [intOf]; omega
        · go_wp2_with fail
          try rw [HV.out]
          clear x0 x1 x2 x3 y0 y1 y2 y3 f0 f1 f2 f3 c0 c1 c2 c3
          go_roundw
          case rel => exact ⟨k + 1, by omega, by go_num, HBV.out, HCV.out, HR.out⟩
          case measure => simp [intOf]; omega
    · obtain rfl : k = n := by omega
      have hlz : ¬ ((k : Nat) : Int) < ((k : Nat) : Int) := by omega
      have HR : Hid (newC key seq L = none) := by
        rw [Hid, HN.out, ← HL.out, List.drop_length]
        rfl
      obtain ⟨y0, y1, y2, y3⟩ := CB.cells HC.out
      obtain ⟨f0, f1, f2, f3⟩ := CB.free HC.out
      obtain ⟨W9, hW9⟩ : ∃ W9, set4 wr z cl0 = W9 := ⟨_, rfl⟩
      have HX9 : Hid (CB W9 z cl0) := by rw [Hid, ← hW9]; exact HC.out.set cl0
      have HB9 : Hid (Below w.heap.size w W9) := by rw [Hid, ← hW9]; exact set4_below HB.out (by rw [HZ.out]; exact Nat.le_refl _) cl0
      have hq : (((wr.setCell ⟨z, 0, none⟩ (.string ⟨#[]⟩)).setCell ⟨z, 1, none⟩ (.int .u64 0)).setCell ⟨z, 2, none⟩ (.string ⟨#[]⟩)).setCell ⟨z, 3, none⟩ (.bool false) = W9 := hW9
      have HW9 : Hid _ := hq
      clear hW9 hq
      go_wp2_with fail
      rw [HW9.out]
      clear HW9 f0 f1 f2 f3 y0 y1 y2 y3
      obtain ⟨z0, z1, z2, z3⟩ := CB.cells HX9.out
      refine bodyPost_ret (v := getV none) ?_ rfl ⟨by rw [HR.out], HB9.out⟩
      rw [results_cell_tmp rfl]
      unfold getV clV cl0
      unfold cl0 at z0 z1 z2 z3
      go_simp
end Go.Proofs.Ytdgmjmohfpjlnaa
