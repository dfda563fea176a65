/-
  The contracts of Unhex, of the twin's find, Hex and Unhex.
-/
import Derived.Test.YtedibkcempcpnaaDoorShelf
import Derived.Test.YtedibkcempcpnaaDoorRefSum
import Derived.Deep.RegionWith
namespace Go.Proofs.YtedibkcempcpnaaDoor
open Go.RowKit
/-- Where a byte stands among the digits; -1: nowhere. -/
def dig (c : UInt8) : Int := Lib.indexByte digitsB.data.toList c
theorem dig_all : ∀ c : Fin 256, (dig (UInt8.ofNat c.val) = -1 ∨ (0 ≤ dig (UInt8.ofNat c.val) ∧ dig (UInt8.ofNat c.val) < 16 ∧ hexD (dig (UInt8.ofNat c.val)).toNat = UInt8.ofNat c.val)) := by decide +kernel
theorem dig_cases (c : UInt8) : dig c = -1 ∨ (0 ≤ dig c ∧ dig c < 16 ∧ hexD (dig c).toNat = c) := by
  have := dig_all ⟨c.toNat, c.toNat_lt⟩
  simpa using this
theorem dig_hexD : ∀ q : Fin 16, dig (hexD q.val) = (q.val : Int) := by decide +kernel
def unhexL : List UInt8 → Option (List UInt8)
  | [] => some []
  | [_] => none
  | a :: b :: l => if dig a < 0 ∨ dig b < 0 then none else (unhexL l).map (UInt8.ofNat (16 * (dig a).toNat + (dig b).toNat) :: ·)
theorem unhex_hex : ∀ l, unhexL (hexOf l) = some l
  | [] => rfl
  | c :: l => by
    have h1 := dig_hexD ⟨c.toNat / 16, by have := c.toNat_lt; omega⟩
    have h2 := dig_hexD ⟨c.toNat % 16, Nat.mod_lt _ (by decide)⟩
    simp only at h1 h2
    rw [hexOf, unhexL, h1, h2, if_neg (by omega), unhex_hex l]
    simp only [Option.map_some, Int.toNat_natCast, Nat.div_add_mod]
    rw [show UInt8.ofNat c.toNat = c by simp]
theorem hex_unhex : ∀ (n : Nat) (l r : List UInt8), l.length ≤ n → unhexL l = some r → hexOf r = l
  | _, [], r, _, h => by
    simp only [unhexL, Option.some.injEq] at h
    subst h
    rfl
  | _, [_], r, _, h => by simp [unhexL] at h
  | 0, a :: b :: l, r, hl, _ => by simp at hl
  | n + 1, a :: b :: l, r, hl, h => by
    rw [unhexL] at h
    split at h
    · cases h
    · rename_i hd
      obtain ⟨r', hr', rfl⟩ := Option.map_eq_some_iff.1 h
      have ih := hex_unhex n l r' (by simp at hl; omega) hr'
      rcases dig_cases a with ha | ⟨a1, a2, a3⟩
      · omega
      rcases dig_cases b with hb | ⟨b1, b2, b3⟩
      · omega
      have e : (UInt8.ofNat (16 * (dig a).toNat + (dig b).toNat)).toNat = 16 * (dig a).toNat + (dig b).toNat := by
        rw [UInt8.toNat_ofNat', Nat.mod_eq_of_lt (by omega)]
      rw [hexOf, e, show (16 * (dig a).toNat + (dig b).toNat) / 16 = (dig a).toNat by omega, show (16 * (dig a).toNat + (dig b).toNat) % 16 = (dig b).toNat by omega, a3, b3, ih]
theorem byteAt_drop {s : ByteArray} {k : Nat} (h : k < s.size) : s.data.toList.drop k = UInt8.ofNat (byteAt s k) :: s.data.toList.drop (k + 1) := by
  have hl : s.data.toList.length = s.size := by simp
  rw [List.drop_eq_getElem_cons (by omega), byteAt, List.getD_eq_getElem?_getD, List.getElem?_eq_getElem (by omega)]
  simp
theorem unhex_odd : ∀ (n : Nat) (l : List UInt8), l.length ≤ n → l.length % 2 = 1 → unhexL l = none
  | _, [], _, h => by simp at h
  | _, [_], _, _ => rfl
  | 0, a :: b :: l, hl, _ => by simp at hl
  | n + 1, a :: b :: l, hl, h => by
    rw [unhexL]
    split
    · rfl
    · rw [unhex_odd n l (by simp at hl; omega) (by simp at h; omega)]
      rfl
/-- What both tell of a text. -/
def unhexV (l : List UInt8) : Array Value := match unhexL l with
  | some r => #[.string ⟨r.toArray⟩, .bool true]
  | none => #[.string ⟨#[]⟩, .bool false]
theorem ib_eq (x : Nat) : Lib.indexByte digitsB.data.toList (x : Int).toNat.toUInt8 = dig (UInt8.ofNat x) := rfl
theorem hexdig_bits {x y : Nat} (hx : x < 16) (hy : y < 16) : bits BinOp.or IntKind.i64 ((x : Int) * 16) (y : Int) = ((16 * x + y : Nat) : Int) := by
  have : ∀ (x y : Fin 16), bits BinOp.or IntKind.i64 ((x.val : Int) * 16) (y.val : Int) = ((16 * x.val + y.val : Nat) : Int) := by decide +kernel
  exact this ⟨x, hx⟩ ⟨y, hy⟩
theorem ib_any (x : Nat) (w : World) : Calls Tryd.prog 55 #[.string ⟨#[48, 49, 50, 51, 52, 53, 54, 55, 56, 57, 97, 98, 99, 100, 101, 102]⟩, .int .u8 (x : Int)] w fun e w' => e = .returned (.int .i64 (dig (UInt8.ofNat x))) ∧ w' = w := Tryd.strings_IndexByte digitsB (x : Int) w
theorem unhex_step {l cur : List UInt8} {s : ByteArray} {k : Nat} (h : 2 * k + 1 < s.size) (H : unhexL l = (unhexL (s.data.toList.drop (2 * k))).map (cur ++ ·)) :
    unhexL l = if dig (UInt8.ofNat (byteAt s (2 * k))) < 0 ∨ dig (UInt8.ofNat (byteAt s (2 * k + 1))) < 0 then none else (unhexL (s.data.toList.drop (2 * (k + 1)))).map ((cur ++ [UInt8.ofNat (16 * (dig (UInt8.ofNat (byteAt s (2 * k)))).toNat + (dig (UInt8.ofNat (byteAt s (2 * k + 1)))).toNat)]) ++ ·) := by
  rw [H, byteAt_drop (by omega), byteAt_drop (s := s) (k := 2 * k + 1) h, unhexL]
  split
  · rfl
  · rw [show 2 * (k + 1) = 2 * k + 1 + 1 by omega]
    cases unhexL (s.data.toList.drop (2 * k + 1 + 1)) <;> simp
end Go.Proofs.YtedibkcempcpnaaDoor
