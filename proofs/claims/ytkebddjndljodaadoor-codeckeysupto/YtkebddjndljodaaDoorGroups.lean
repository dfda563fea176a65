/-
  The contract of codec.groups: the varint with which a text begins, whatever the text.
-/
import Derived.Test.YtkebddjndljodaaDoorGet
namespace Go.Proofs.YtkebddjndljodaaDoor
open Go.RowKit

/-- The varint with which bytes begin: its number, how many bytes it has, the fault. (k bytes went ahead, n is their number.) -/
def gr : List UInt8 → Nat → Nat → Nat × Nat × Int
  | [], _, _ => (0, 0, 20)
  | c :: l, k, n => if (k = 9 ∧ ¬ c.toNat = 1) ∨ (0 < k ∧ c.toNat = 0) then (0, 0, 21) else
      if c.toNat < 128 then (n + c.toNat % 128 * 128 ^ k, k + 1, 0) else gr l (k + 1) (n + c.toNat % 128 * 128 ^ k)
theorem gr_bad {c : UInt8} {l : List UInt8} {k n : Nat} (h : (k = 9 ∧ ¬ c.toNat = 1) ∨ (0 < k ∧ c.toNat = 0)) : gr (c :: l) k n = (0, 0, 21) := by simp [gr, h]
theorem gr_end {c : UInt8} {l : List UInt8} {k n : Nat} (h : ¬ ((k = 9 ∧ ¬ c.toNat = 1) ∨ (0 < k ∧ c.toNat = 0))) (h' : c.toNat < 128) : gr (c :: l) k n = (n + c.toNat % 128 * 128 ^ k, k + 1, 0) := by
  rw [gr, if_neg h, if_pos h']
theorem gr_on {c : UInt8} {l : List UInt8} {k n : Nat} (h : ¬ ((k = 9 ∧ ¬ c.toNat = 1) ∨ (0 < k ∧ c.toNat = 0))) (h' : ¬ c.toNat < 128) : gr (c :: l) k n = gr l (k + 1) (n + c.toNat % 128 * 128 ^ k) := by
  rw [gr, if_neg h, if_neg h']
theorem drop_at (s : ByteArray) (k : Nat) (h : k < s.size) : s.data.toList.drop k = s[k] :: s.data.toList.drop (k + 1) := by
  rw [List.drop_eq_getElem_cons (by simpa using h)]; rfl
theorem pow7 (k : Nat) : (2 : Nat) ^ (7 * k) = 128 ^ k := by rw [Nat.pow_mul]
theorem or_group {x k : Nat} (hx : x < 128 ^ k) (hk : k ≤ 9) (c : Nat) (hc : c < 256) (h9 : k = 9 → c = 1) :
    bits .or .u64 (x : Int) (IntKind.u64.wrap (IntKind.u64.wrap (bits .and .u8 (c : Int) 127) * 2 ^ (7 * k))) = ((x + c % 128 * 128 ^ k : Nat) : Int) := by
  have e1 : bits .and .u8 (c : Int) 127 = ((c % 128 : Nat) : Int) := by
    have := u8_and_nat c 127 hc (by decide)
    have e : c &&& 127 = c % 128 := Nat.and_two_pow_sub_one_eq_mod c 7
    rw [e] at this
    exact this
  have hb : c % 128 * 128 ^ k + 128 ^ k ≤ 18446744073709551616 := by
    by_cases h : k = 9
    · subst h; have := h9 rfl; subst this; decide
    · have h2 : 128 ^ k ≤ 128 ^ 8 := Nat.pow_le_pow_right (by decide) (by omega)
      have h3 : c % 128 * 128 ^ k ≤ 127 * 128 ^ k := Nat.mul_le_mul_right _ (by omega)
      have h4 : (128 : Nat) ^ 8 = 72057594037927936 := by decide
      omega
  have hp : 0 < 128 ^ k := Nat.pow_pos (by decide)
  have e2 : IntKind.u64.wrap ((c % 128 : Nat) : Int) = ((c % 128 : Nat) : Int) := by simp [IntKind.wrap, IntKind.bits, IntKind.signed]; omega
  have e3 : ((c % 128 : Nat) : Int) * 2 ^ (7 * k) = ((c % 128 * 128 ^ k : Nat) : Int) := by
    rw [← pow7]; simp
  have e4 : IntKind.u64.wrap ((c % 128 * 128 ^ k : Nat) : Int) = ((c % 128 * 128 ^ k : Nat) : Int) := by
    rw [IntKind.wrap_u64]
    exact Int.emod_eq_of_lt (Int.natCast_nonneg _) (by omega)
  rw [e1, e2, e3, e4]
  have e5 := u64_or_nat x (c % 128 * 128 ^ k) (by omega) (by omega)
  rw [e5]
  congr 1
  have := Nat.two_pow_add_eq_or_of_lt (i := 7 * k) (b := x) (by rw [pow7]; exact hx) (c % 128)
  rw [pow7, Nat.mul_comm] at this
  rw [Nat.or_comm, ← this, Nat.add_comm]
theorem or_group9 {x : Nat} (hx : x < 128 ^ 9) : bits .or .u64 (x : Int) (IntKind.u64.wrap (IntKind.u64.wrap (bits .and .u8 1 127) * 9223372036854775808)) = ((x + 1 * 128 ^ 9 : Nat) : Int) :=
  or_group (k := 9) hx (by decide) 1 (by decide) (fun _ => rfl)
theorem grow_lt {x k c : Nat} (h : x < 128 ^ k) : x + c % 128 * 128 ^ k < 128 ^ (k + 1) := by
  have : c % 128 * 128 ^ k ≤ 127 * 128 ^ k := Nat.mul_le_mul_right _ (by omega)
  rw [Nat.pow_succ]; omega
theorem ret3 {a a' b b' c c' : Int} (h1 : a = a') (h2 : b = b') (h3 : c = c') : Ending.returned (.tuple #[.int .u64 a, .int .i64 b, .int .i64 c]) = .returned (.tuple #[.int .u64 a', .int .i64 b', .int .i64 c']) := by rw [h1, h2, h3]

set_option maxRecDepth 100000 in
set_option maxHeartbeats 1000000 in
theorem groups_any (s : ByteArray) (w : World) (hs : s.size ≤ maxLen) :
    Calls Tryd.prog 30 #[.string s] w fun r w' => r = .returned (.tuple #[.int .u64 (gr s.data.toList 0 0).1, .int .i64 (gr s.data.toList 0 0).2.1, .int .i64 (gr s.data.toList 0 0).2.2]) ∧ w' = w := by
  unfold maxLen at hs
  obtain ⟨m, z, f, hg⟩ : ∃ m z f, gr s.data.toList 0 0 = (m, z, f) := ⟨_, _, _, rfl⟩
  rw [hg]
  have HG : Hid _ := hg
  clear hg
  go_enter Tryd.func30, Tryd.ntmps30
  go_wp2
  go_loop [2, 9] (fun n i => ∃ k x : Nat, k ≤ s.size ∧ k ≤ 9 ∧ i = .int .i64 k ∧ Hid (x < 128 ^ k ∧ gr (s.data.toList.drop k) k x = (m, z, f)) ∧ n = .int .u64 x) (fun _ i => s.size - (intOf i).toNat)
  case atStart => exact ⟨0, 0, by omega, by omega, rfl, ⟨by decide, HG.out⟩, rfl⟩
  case round =>
    obtain ⟨k, x, hk, hk9, rfl, HX, rfl⟩ := hrel
    by_cases hlt : k < s.size
    · have HD : Hid _ := drop_at s k hlt
      go_wp2
      · have g1 : (k : Int) = 9 := by assumption
        have g2 : (s[k].toNat : Int) = 1 := by assumption
        obtain ⟨hx, hr⟩ := HX.out
        have k9 : k = 9 := by omega
        have c1 : s[k].toNat = 1 := by omega
        rw [HD.out, gr_end (by omega) (by omega), c1] at hr
        simp only [Prod.mk.injEq] at hr
        obtain ⟨r1, r2, r3⟩ := hr
        rw [k9] at hx r1 r2
        have e := or_group9 hx
        go_ret3
        exact ⟨ret3 (by rw [← r1]; exact e) (by omega) (by omega), rfl⟩
      · have g1 : (k : Int) = 9 := by assumption
        have g2 : ¬ (s[k].toNat : Int) = 1 := by assumption
        obtain ⟨hx, hr⟩ := HX.out
        rw [HD.out, gr_bad (by omega)] at hr
        simp only [Prod.mk.injEq] at hr
        obtain ⟨r1, r2, r3⟩ := hr
        go_ret3
        exact ⟨ret3 (by omega) (by omega) (by omega), rfl⟩
      · have g1 : ¬ (k : Int) = 9 := by assumption
        have g2 : 0 < k := by assumption
        have g3 : ((s[k].toNat : Int) == 0) = true := by assumption
        obtain ⟨hx, hr⟩ := HX.out
        rw [HD.out, gr_bad (by simp at g3; omega)] at hr
        simp only [Prod.mk.injEq] at hr
        obtain ⟨r1, r2, r3⟩ := hr
        go_ret3
        exact ⟨ret3 (by omega) (by omega) (by omega), rfl⟩
      · have g1 : ¬ (k : Int) = 9 := by assumption
        have g2 : 0 < k := by assumption
        have g3 : ((s[k].toNat : Int) == 0) = false := by assumption
        have g4 : (s[k].toNat : Int) < 128 := by assumption
        obtain ⟨hx, hr⟩ := HX.out
        rw [HD.out, gr_end (by simp at g3; omega) (by omega)] at hr
        simp only [Prod.mk.injEq] at hr
        obtain ⟨r1, r2, r3⟩ := hr
        have e := or_group hx hk9 s[k].toNat s[k].toNat_lt (by omega)
        go_ret3
        exact ⟨ret3 (by rw [← r1]; exact e) (by omega) (by omega), rfl⟩
      · have g1 : ¬ (k : Int) = 9 := by assumption
        have g2 : 0 < k := by assumption
        have g3 : ((s[k].toNat : Int) == 0) = false := by assumption
        have g4 : (128 : Int) ≤ (s[k].toNat : Int) := by assumption
        obtain ⟨hx, hr⟩ := HX.out
        rw [HD.out, gr_on (by simp at g3; omega) (by omega)] at hr
        have e := or_group hx hk9 s[k].toNat s[k].toNat_lt (by omega)
        go_round
        case rel => exact ⟨k + 1, x + s[k].toNat % 128 * 128 ^ k, by omega, by omega, by go_num, ⟨grow_lt hx, hr⟩, val_int e⟩
        case measure => simp [intOf]; omega
      · have g1 : ¬ (k : Int) = 9 := by assumption
        have g2 : ¬ 0 < k := by assumption
        have g4 : (s[k].toNat : Int) < 128 := by assumption
        obtain ⟨hx, hr⟩ := HX.out
        rw [HD.out, gr_end (by omega) (by omega)] at hr
        simp only [Prod.mk.injEq] at hr
        obtain ⟨r1, r2, r3⟩ := hr
        have e := or_group hx hk9 s[k].toNat s[k].toNat_lt (by omega)
        go_ret3
        exact ⟨ret3 (by rw [← r1]; exact e) (by omega) (by omega), rfl⟩
      · have g1 : ¬ (k : Int) = 9 := by assumption
        have g2 : ¬ 0 < k := by assumption
        have g4 : (128 : Int) ≤ (s[k].toNat : Int) := by assumption
        obtain ⟨hx, hr⟩ := HX.out
        rw [HD.out, gr_on (by omega) (by omega)] at hr
        have e := or_group hx hk9 s[k].toNat s[k].toNat_lt (by omega)
        go_round
        case rel => exact ⟨k + 1, x + s[k].toNat % 128 * 128 ^ k, by omega, by omega, by go_num, ⟨grow_lt hx, hr⟩, val_int e⟩
        case measure => simp [intOf]; omega
    · have HR : Hid (m = 0 ∧ z = 0 ∧ f = 20) := by
        obtain ⟨hx, hr⟩ := HX.out
        rw [List.drop_eq_nil_of_le (by simp; omega), gr] at hr
        simp only [Prod.mk.injEq] at hr
        exact ⟨by omega, by omega, by omega⟩
      go_wp2
      go_ret3
      obtain ⟨r1, r2, r3⟩ := HR.out
      exact ⟨ret3 (by omega) (by omega) (by omega), rfl⟩
end Go.Proofs.YtkebddjndljodaaDoor
