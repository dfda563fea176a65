/-
  The contract of the twin's Size.
-/
import Derived.Test.YtdgmjmohfpjlnaaRpt
namespace Go.Proofs.Ytdgmjmohfpjlnaa
open Go.RowKit Go.Shelf
def sizeC : List Cl → Nat
  | [] => 0
  | c :: L => (c.key.size + c.val.size + 16) + sizeC L
theorem sizeC_app (A B : List Cl) : sizeC (A ++ B) = sizeC A + sizeC B := by
  induction A with
  | nil => simp [sizeC]
  | cons c A ih => rw [List.cons_append, sizeC, sizeC, ih]; omega
theorem sizeC_take {L : List Cl} {k : Nat} {c : Cl} (hc : L[k]? = some c) : sizeC (L.take (k + 1)) = sizeC (L.take k) + (c.key.size + c.val.size + 16) := by
  rw [take_snoc hc, sizeC_app]
  simp [sizeC]
theorem sizeC_le (L : List Cl) (k : Nat) : sizeC (L.take k) ≤ sizeC L := by
  conv => rhs; rw [← List.take_append_drop k L]
  rw [sizeC_app]
  omega
set_option maxRecDepth 20000 in
set_option maxHeartbeats 8000000 in
theorem rsize_any (a : Option Addr) (n cp : Nat) (L : List Cl) (w : World) (h : CA w.heap.size w a L) (hl : L.length = n) (hn : n ≤ 4000000) (hs : sizeC L ≤ 1000000000000) :
    Calls Try.prog 36 #[.slice a n cp] w fun e w' => e = .returned (.int .i64 ((sizeC L : Nat) : Int)) ∧ Below w.heap.size w w' := by
  have HCA : Hid (CA w.heap.size w a L) := h
  have HL : Hid (L.length = n) := hl
  have HS : Hid (sizeC L ≤ 1000000000000) := hs
  clear h hl hs
  go_enter Try.func36, Try.ntmps36
  go_wp2_with fail
  go_loopw [3, 8] (fun v i wr => ∃ k : Nat, k ≤ n ∧ i = .int .i64 ((k : Nat) : Int) ∧ Hid (Below w.heap.size w wr) ∧ v = .int .i64 ((sizeC (L.take k) : Nat) : Int)) (fun v i _ => n - (intOf i).toNat)
  case atStart => exact ⟨0, by omega, rfl, Below.refl _ _, rfl⟩
  case round =>
    obtain ⟨k, hk, rfl, HB, rfl⟩ := hrel
    by_cases hlt : k < n
    · have hlz : ((k : Nat) : Int) < ((n : Nat) : Int) := by omega
      obtain ⟨c, hc⟩ : ∃ c, L[k]? = some c := ⟨_, List.getElem?_eq_getElem (by rw [HL.out]; exact hlt)⟩
      obtain ⟨cb, off, rfl, hcb, c0, c1, c2, c3⟩ := (HCA.out.below (fun x hx => HB.out.block x hx)) k c hc
      have hd := sizeC_take hc
      have hle := sizeC_le L (k + 1)
      have hle2 := HS.out
      obtain ⟨acc, hacc⟩ : ∃ acc, sizeC (L.take k) = acc := ⟨_, rfl⟩
      rw [hacc] at hd ⊢
      have HD : Hid (sizeC (L.take (k + 1)) = acc + (c.key.size + c.val.size + 16)) := hd
      have b1 : ((acc : Nat) : Int) ≤ 1000000000000 := by omega
      have b2 : ((c.key.size : Nat) : Int) ≤ 1000000000000 := by omega
      have b3 : ((c.val.size : Nat) : Int) ≤ 1000000000000 := by omega
      obtain ⟨V, hV⟩ : ∃ V, wr.alloc (.cells #[.string c.key, .int .u64 ((c.seq : Nat) : Int), .string c.val, .bool c.gone] 33) = V := ⟨_, rfl⟩
      have HBV : Hid (Below w.heap.size w V) := by rw [Hid, ← hV]; exact HB.out.alloc HB.out.size _
      have hx : CB V wr.heap.size c := by rw [← hV]; exact block_alloc_at _ _
      obtain ⟨x0, x1, x2, x3⟩ := CB.cells hx
      rw [← hV] at x0 x1 x2 x3
      have HV : Hid _ := hV
      clear hc hcb hd hle hle2 hx hacc hV HB
      go_wp2_with fail
      try rw [HV.out]
      clear x0 x1 x2 x3 c0 c1 c2 c3
      go_roundw
      case rel => exact ⟨k + 1, by omega, by go_num, HBV.out, by rw [HD.out]; go_num⟩
      case measure => simp [intOf]; omega
    · obtain rfl : k = n := by omega
      have hlz : ¬ ((k : Nat) : Int) < ((k : Nat) : Int) := by omega
      have HF : Hid (sizeC (L.take k) = sizeC L) := by rw [Hid, ← HL.out, List.take_length]
      go_wp2_with fail
      go_ret
      exact ⟨by first | rfl | (rw [HF.out]; rfl) | simp, HB.out⟩
end Go.Proofs.Ytdgmjmohfpjlnaa
