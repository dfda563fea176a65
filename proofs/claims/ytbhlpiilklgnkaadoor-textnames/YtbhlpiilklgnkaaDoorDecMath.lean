/-
  The first rune of a text by its bytes: what the twin asks of each length, held against the model's own reading.
-/
import Derived.Test.YtbhlpiilklgnkaaDoorDec
namespace Go.Proofs.YtbhlpiilklgnkaaDoor
open Go.RowKit
theorem ofNat_inj8' {x y : Nat} (hx : x < 256) (hy : y < 256) (e : UInt8.ofNat x = UInt8.ofNat y) : x = y := by
  have := congrArg UInt8.toNat e
  simp only [UInt8.toNat_ofNat'] at this
  rw [Nat.mod_eq_of_lt hx, Nat.mod_eq_of_lt hy] at this
  exact this
theorem valid_rn (n : Nat) : Utf8.valid (n : Int) = isRn (n : Int) := by
  simp only [Utf8.valid, isRn]
  rw [Bool.eq_iff_iff]
  simp
  omega
theorem enc1 {n : Nat} (h : isRn (n : Int) = true) (h1 : n < 128) : Utf8.encode (n : Int) = ⟨#[UInt8.ofNat n]⟩ := by
  unfold Utf8.encode
  simp only [valid_rn, h, if_true, Int.toNat_natCast]
  rw [if_pos h1]
theorem enc2 {n : Nat} (h : isRn (n : Int) = true) (h1 : ¬ n < 128) (h2 : n < 2048) : Utf8.encode (n : Int) = ⟨#[UInt8.ofNat (192 + n / 64), UInt8.ofNat (128 + n % 64)]⟩ := by
  unfold Utf8.encode
  simp only [valid_rn, h, if_true, Int.toNat_natCast]
  rw [if_neg h1, if_pos h2]
theorem enc3 {n : Nat} (h : isRn (n : Int) = true) (h1 : ¬ n < 2048) (h2 : n < 65536) : Utf8.encode (n : Int) = ⟨#[UInt8.ofNat (224 + n / 4096), UInt8.ofNat (128 + n / 64 % 64), UInt8.ofNat (128 + n % 64)]⟩ := by
  unfold Utf8.encode
  simp only [valid_rn, h, if_true, Int.toNat_natCast]
  rw [if_neg (by omega), if_neg h1, if_pos h2]
theorem enc4 {n : Nat} (h : isRn (n : Int) = true) (h1 : ¬ n < 65536) : Utf8.encode (n : Int) = ⟨#[UInt8.ofNat (240 + n / 262144), UInt8.ofNat (128 + n / 4096 % 64), UInt8.ofNat (128 + n / 64 % 64), UInt8.ofNat (128 + n % 64)]⟩ := by
  unfold Utf8.encode
  simp only [valid_rn, h, if_true, Int.toNat_natCast]
  rw [if_neg (by omega), if_neg (by omega), if_neg h1]
theorem byteAt_getE {s : ByteArray} {k : Nat} (h : k < s.size) : s.data[k]? = some (UInt8.ofNat (byteAt s k)) := by
  have hl : s.data.toList.length = s.size := by simp
  rw [← Array.getElem?_toList, List.getElem?_eq_getElem (by omega), byteAt, List.getD_eq_getElem?_getD, List.getElem?_eq_getElem (by omega)]
  simp
theorem ext_of (s : ByteArray) (l : List UInt8) (h : l.length ≤ s.size) (hl : ∀ j, j < l.length → l[j]? = some (UInt8.ofNat (byteAt s j))) : s.extract 0 l.length = ⟨l.toArray⟩ := by
  apply ByteArray.ext
  rw [ByteArray.data_extract]
  apply Array.ext_getElem?
  intro i
  show (s.data.extract 0 l.length)[i]? = l.toArray[i]?
  rw [Array.getElem?_extract]
  have e : l.toArray[i]? = l[i]? := by simp
  rw [e]
  have hd : s.data.size = s.size := rfl
  by_cases hi : i < l.length
  · rw [hl i hi, if_pos (by omega), Nat.zero_add]
    exact byteAt_getE (by omega)
  · rw [List.getElem?_eq_none (by omega), if_neg (by omega)]
theorem ext1 {s : ByteArray} (h : 1 ≤ s.size) : s.extract 0 1 = ⟨#[UInt8.ofNat (byteAt s 0)]⟩ := ext_of s [_] h (fun j hj => by
  have : j = 0 := by simp at hj; omega
  subst this; rfl)
theorem ext2 {s : ByteArray} (h : 2 ≤ s.size) : s.extract 0 2 = ⟨#[UInt8.ofNat (byteAt s 0), UInt8.ofNat (byteAt s 1)]⟩ := ext_of s [_, _] h (fun j hj => by
  have : j = 0 ∨ j = 1 := by simp at hj; omega
  rcases this with rfl | rfl <;> rfl)
theorem ext3 {s : ByteArray} (h : 3 ≤ s.size) : s.extract 0 3 = ⟨#[UInt8.ofNat (byteAt s 0), UInt8.ofNat (byteAt s 1), UInt8.ofNat (byteAt s 2)]⟩ := ext_of s [_, _, _] h (fun j hj => by
  have : j = 0 ∨ j = 1 ∨ j = 2 := by simp at hj; omega
  rcases this with rfl | rfl | rfl <;> rfl)
theorem ext4 {s : ByteArray} (h : 4 ≤ s.size) : s.extract 0 4 = ⟨#[UInt8.ofNat (byteAt s 0), UInt8.ofNat (byteAt s 1), UInt8.ofNat (byteAt s 2), UInt8.ofNat (byteAt s 3)]⟩ := ext_of s [_, _, _, _] h (fun j hj => by
  have : j = 0 ∨ j = 1 ∨ j = 2 ∨ j = 3 := by simp at hj; omega
  rcases this with rfl | rfl | rfl | rfl <;> rfl)
theorem isRn_nat {z : Int} (h : isRn z = true) : ∃ n : Nat, z = (n : Int) ∧ n ≤ 1114111 ∧ (n < 55296 ∨ 57343 < n) := by
  simp only [isRn, decide_eq_true_eq] at h
  exact ⟨z.toNat, by omega, by omega, by omega⟩
theorem isRn_of {n : Nat} (h : n ≤ 1114111) (h2 : n < 55296 ∨ 57343 < n) : isRn (n : Int) = true := by
  simp only [isRn, decide_eq_true_eq]
  omega
/-- The numbers of the first one to four bytes. -/
def num2 (b0 b1 : Nat) : Int := ((b0 : Int) - 192) * 64 + (b1 : Int) - 128
def num3 (b0 b1 b2 : Nat) : Int := ((b0 : Int) - 224) * 4096 + ((b1 : Int) - 128) * 64 + (b2 : Int) - 128
def num4 (b0 b1 b2 b3 : Nat) : Int := ((b0 : Int) - 240) * 262144 + ((b1 : Int) - 128) * 4096 + ((b2 : Int) - 128) * 64 + (b3 : Int) - 128
def ok2 (b0 b1 : Nat) : Prop := 194 ≤ b0 ∧ b0 ≤ 223 ∧ 128 ≤ b1 ∧ b1 ≤ 191
def ok3 (b0 b1 b2 : Nat) : Prop := 224 ≤ b0 ∧ b0 ≤ 239 ∧ 128 ≤ b1 ∧ b1 ≤ 191 ∧ 128 ≤ b2 ∧ b2 ≤ 191 ∧ 2048 ≤ num3 b0 b1 b2 ∧ (num3 b0 b1 b2 < 55296 ∨ 57343 < num3 b0 b1 b2)
def ok4 (b0 b1 b2 b3 : Nat) : Prop := 240 ≤ b0 ∧ b0 ≤ 247 ∧ 128 ≤ b1 ∧ b1 ≤ 191 ∧ 128 ≤ b2 ∧ b2 ≤ 191 ∧ 128 ≤ b3 ∧ b3 ≤ 191 ∧ 65536 ≤ num4 b0 b1 b2 b3 ∧ num4 b0 b1 b2 b3 ≤ 1114111
instance (b0 b1 : Nat) : Decidable (ok2 b0 b1) := by unfold ok2; infer_instance
instance (b0 b1 b2 : Nat) : Decidable (ok3 b0 b1 b2) := by unfold ok3; infer_instance
instance (b0 b1 b2 b3 : Nat) : Decidable (ok4 b0 b1 b2 b3) := by unfold ok4; infer_instance
theorem size_ne {a b : Array UInt8} (h : a.size ≠ b.size) : (⟨a⟩ : ByteArray) ≠ ⟨b⟩ := fun e => h (congrArg ByteArray.size e)
theorem one_no {s : ByteArray} (h : 1 ≤ s.size) (h2 : ¬ byteAt s 0 < 128) : Utf8.encode (byteAt s 0 : Nat) ≠ s.extract 0 1 := by
  have hl := byteAt_lt s 0
  rw [ext1 h, enc2 (isRn_of (by omega) (by omega)) h2 (by omega)]
  exact size_ne (by simp)
theorem one_yes {s : ByteArray} (h : 1 ≤ s.size) (h2 : byteAt s 0 < 128) : isRn (byteAt s 0 : Nat) = true ∧ Utf8.encode (byteAt s 0 : Nat) = s.extract 0 1 := by
  have := isRn_of (n := byteAt s 0) (by omega) (by omega)
  exact ⟨this, by rw [ext1 h, enc1 this h2]⟩
theorem two_no {s : ByteArray} (h : 2 ≤ s.size) (hr : isRn (num2 (byteAt s 0) (byteAt s 1)) = true) (h2 : ¬ ok2 (byteAt s 0) (byteAt s 1)) : Utf8.encode (num2 (byteAt s 0) (byteAt s 1)) ≠ s.extract 0 2 := by
  have l0 := byteAt_lt s 0
  have l1 := byteAt_lt s 1
  obtain ⟨n, hn, hm, hv⟩ := isRn_nat hr
  rw [hn] at hr ⊢
  rw [ext2 h]
  unfold ok2 at h2
  unfold num2 at hn
  by_cases c1 : n < 128
  · rw [enc1 hr c1]; exact size_ne (by simp)
  by_cases c2 : n < 2048
  · rw [enc2 hr c1 c2]
    intro e
    simp only [ByteArray.mk.injEq, Array.mk.injEq, List.cons.injEq, and_true] at e
    have e0 := ofNat_inj8' (by omega) l0 e.1
    have e1 := ofNat_inj8' (by omega) l1 e.2
    omega
  by_cases c3 : n < 65536
  · rw [enc3 hr c2 c3]; exact size_ne (by simp)
  · rw [enc4 hr c3]; exact size_ne (by simp)
theorem two_yes {s : ByteArray} (h : 2 ≤ s.size) (h2 : ok2 (byteAt s 0) (byteAt s 1)) : isRn (num2 (byteAt s 0) (byteAt s 1)) = true ∧ Utf8.encode (num2 (byteAt s 0) (byteAt s 1)) = s.extract 0 2 := by
  unfold ok2 at h2
  obtain ⟨n, hn⟩ : ∃ n : Nat, num2 (byteAt s 0) (byteAt s 1) = (n : Int) := ⟨(num2 (byteAt s 0) (byteAt s 1)).toNat, by unfold num2; omega⟩
  rw [hn]
  unfold num2 at hn
  have hr := isRn_of (n := n) (by omega) (by omega)
  refine ⟨hr, ?_⟩
  rw [ext2 h, enc2 hr (by omega) (by omega), show 192 + n / 64 = byteAt s 0 by omega, show 128 + n % 64 = byteAt s 1 by omega]
theorem three_no {s : ByteArray} (h : 3 ≤ s.size) (hr : isRn (num3 (byteAt s 0) (byteAt s 1) (byteAt s 2)) = true) (h2 : ¬ ok3 (byteAt s 0) (byteAt s 1) (byteAt s 2)) : Utf8.encode (num3 (byteAt s 0) (byteAt s 1) (byteAt s 2)) ≠ s.extract 0 3 := by
  have l0 := byteAt_lt s 0
  have l1 := byteAt_lt s 1
  have l2 := byteAt_lt s 2
  obtain ⟨n, hn, hm, hv⟩ := isRn_nat hr
  unfold ok3 at h2
  rw [hn] at hr h2 ⊢
  rw [ext3 h]
  unfold num3 at hn
  by_cases c1 : n < 128
  · rw [enc1 hr c1]; exact size_ne (by simp)
  by_cases c2 : n < 2048
  · rw [enc2 hr c1 c2]; exact size_ne (by simp)
  by_cases c3 : n < 65536
  · rw [enc3 hr c2 c3]
    intro e
    simp only [ByteArray.mk.injEq, Array.mk.injEq, List.cons.injEq, and_true] at e
    have e0 := ofNat_inj8' (by omega) l0 e.1
    have e1 := ofNat_inj8' (by omega) l1 e.2.1
    have e2 := ofNat_inj8' (by omega) l2 e.2.2
    omega
  · rw [enc4 hr c3]; exact size_ne (by simp)
theorem three_yes {s : ByteArray} (h : 3 ≤ s.size) (h2 : ok3 (byteAt s 0) (byteAt s 1) (byteAt s 2)) : isRn (num3 (byteAt s 0) (byteAt s 1) (byteAt s 2)) = true ∧ Utf8.encode (num3 (byteAt s 0) (byteAt s 1) (byteAt s 2)) = s.extract 0 3 := by
  unfold ok3 at h2
  obtain ⟨n, hn⟩ : ∃ n : Nat, num3 (byteAt s 0) (byteAt s 1) (byteAt s 2) = (n : Int) := ⟨(num3 (byteAt s 0) (byteAt s 1) (byteAt s 2)).toNat, by omega⟩
  rw [hn] at h2 ⊢
  unfold num3 at hn
  have hr := isRn_of (n := n) (by omega) (by omega)
  refine ⟨hr, ?_⟩
  rw [ext3 h, enc3 hr (by omega) (by omega), show 224 + n / 4096 = byteAt s 0 by omega, show 128 + n / 64 % 64 = byteAt s 1 by omega, show 128 + n % 64 = byteAt s 2 by omega]
theorem four_no {s : ByteArray} (h : 4 ≤ s.size) (hr : isRn (num4 (byteAt s 0) (byteAt s 1) (byteAt s 2) (byteAt s 3)) = true) (h2 : ¬ ok4 (byteAt s 0) (byteAt s 1) (byteAt s 2) (byteAt s 3)) : Utf8.encode (num4 (byteAt s 0) (byteAt s 1) (byteAt s 2) (byteAt s 3)) ≠ s.extract 0 4 := by
  have l0 := byteAt_lt s 0
  have l1 := byteAt_lt s 1
  have l2 := byteAt_lt s 2
  have l3 := byteAt_lt s 3
  obtain ⟨n, hn, hm, hv⟩ := isRn_nat hr
  unfold ok4 at h2
  rw [hn] at hr h2 ⊢
  rw [ext4 h]
  unfold num4 at hn
  by_cases c1 : n < 128
  · rw [enc1 hr c1]; exact size_ne (by simp)
  by_cases c2 : n < 2048
  · rw [enc2 hr c1 c2]; exact size_ne (by simp)
  by_cases c3 : n < 65536
  · rw [enc3 hr c2 c3]; exact size_ne (by simp)
  · rw [enc4 hr c3]
    intro e
    simp only [ByteArray.mk.injEq, Array.mk.injEq, List.cons.injEq, and_true] at e
    have e0 := ofNat_inj8' (by omega) l0 e.1
    have e1 := ofNat_inj8' (by omega) l1 e.2.1
    have e2 := ofNat_inj8' (by omega) l2 e.2.2.1
    have e3 := ofNat_inj8' (by omega) l3 e.2.2.2
    omega
theorem four_yes {s : ByteArray} (h : 4 ≤ s.size) (h2 : ok4 (byteAt s 0) (byteAt s 1) (byteAt s 2) (byteAt s 3)) : isRn (num4 (byteAt s 0) (byteAt s 1) (byteAt s 2) (byteAt s 3)) = true ∧ Utf8.encode (num4 (byteAt s 0) (byteAt s 1) (byteAt s 2) (byteAt s 3)) = s.extract 0 4 := by
  unfold ok4 at h2
  obtain ⟨n, hn⟩ : ∃ n : Nat, num4 (byteAt s 0) (byteAt s 1) (byteAt s 2) (byteAt s 3) = (n : Int) := ⟨(num4 (byteAt s 0) (byteAt s 1) (byteAt s 2) (byteAt s 3)).toNat, by omega⟩
  rw [hn] at h2 ⊢
  unfold num4 at hn
  have hr := isRn_of (n := n) (by omega) (by omega)
  refine ⟨hr, ?_⟩
  rw [ext4 h, enc4 hr (by omega), show 240 + n / 262144 = byteAt s 0 by omega, show 128 + n / 4096 % 64 = byteAt s 1 by omega, show 128 + n / 64 % 64 = byteAt s 2 by omega, show 128 + n % 64 = byteAt s 3 by omega]
/-- The first rune, by the bytes. -/
theorem dec_eq (s : ByteArray) : (fun d : Nat × Nat => ((d.1 : Int), d.2)) (Utf8.decode s 0) = if byteAt s 0 < 128 then ((byteAt s 0 : Int), 1) else if 2 ≤ s.size ∧ ok2 (byteAt s 0) (byteAt s 1) then (num2 (byteAt s 0) (byteAt s 1), 2)
    else if 3 ≤ s.size ∧ ok3 (byteAt s 0) (byteAt s 1) (byteAt s 2) then (num3 (byteAt s 0) (byteAt s 1) (byteAt s 2), 3)
    else if 4 ≤ s.size ∧ ok4 (byteAt s 0) (byteAt s 1) (byteAt s 2) (byteAt s 3) then (num4 (byteAt s 0) (byteAt s 1) (byteAt s 2) (byteAt s 3), 4) else (65533, 1) := by
  have l0 := byteAt_lt s 0
  have l1 := byteAt_lt s 1
  have l2 := byteAt_lt s 2
  have l3 := byteAt_lt s 3
  simp only [Utf8.decode, ← byteAt_eq, Nat.zero_add, Utf8.valid, Utf8.runeError]
  generalize byteAt s 0 = b0 at *
  generalize byteAt s 1 = b1 at *
  generalize byteAt s 2 = b2 at *
  generalize byteAt s 3 = b3 at *
  unfold ok2 ok3 ok4 num2 num3 num4
  simp only [Bool.and_eq_true, Bool.or_eq_true, decide_eq_true_eq, beq_iff_eq, ge_iff_le]
  repeat' split
  all_goals first
    | (exfalso; omega)
    | (refine Prod.ext ?_ ?_ <;> (try dsimp only) <;> omega)
end Go.Proofs.YtbhlpiilklgnkaaDoor
