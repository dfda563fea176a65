/-
  The contracts of place, kindOf, headOf, allZero and follows.
-/
import Derived.Test.YtefigcnfcbdecaaBase
namespace Go.Proofs.Ytefigcnfcbdecaa
open Go.RowKit
/-- So many bytes are left of a block. -/
def leftN (at_ : Nat) : Nat := 1024 - at_ % 1024
def skipN (at_ : Nat) : Nat := if leftN at_ < 7 then leftN at_ else 0
def roomN (at_ : Nat) : Nat := if leftN at_ < 7 then 1017 else leftN at_ - 7
set_option maxHeartbeats 1000000 in
theorem place_any (n : Nat) (w : World) (hn : n ≤ 4611686018427387904) :
    Calls Try.prog 31 #[.int .i64 n] w fun r w' => r = .returned (.tuple #[.int .i64 (skipN n : Nat), .int .i64 (roomN n : Nat)]) ∧ w' = w := by
  have hm : (n : Int) % 1024 = ((n % 1024 : Nat) : Int) := by omega
  have hml : n % 1024 < 1024 := Nat.mod_lt _ (by decide)
  obtain ⟨l, hl⟩ : ∃ l, leftN n = l := ⟨_, rfl⟩
  have hl2 : (1024 : Int) - ((n % 1024 : Nat) : Int) = (l : Int) := by rw [← hl, leftN]; omega
  have hll : l ≤ 1024 := by rw [← hl, leftN]; omega
  generalize n % 1024 = m at *
  by_cases h7 : l < 7
  · have HS : Hid (skipN n = l) := by rw [Hid, skipN, hl, if_pos h7]
    have HR : Hid (roomN n = 1017) := by rw [Hid, roomN, hl, if_pos h7]
    rw [HS.out, HR.out]
    clear hl
    go_enter Try.func31, Try.ntmps31
    go_wp2
    go_ret2
    exact ⟨rfl, rfl⟩
  · have HS : Hid (skipN n = 0) := by rw [Hid, skipN, hl, if_neg h7]
    obtain ⟨r, hr⟩ : ∃ r, l - 7 = r := ⟨_, rfl⟩
    have hri : (l : Int) - 7 = (r : Int) := by omega
    have HR : Hid (roomN n = r) := by rw [Hid, roomN, hl, if_neg h7, hr]
    rw [HS.out, HR.out]
    clear hl hr
    go_enter Try.func31, Try.ntmps31
    go_wp2
    go_ret2
    exact ⟨rfl, rfl⟩
def kindN : Bool → Bool → Nat
  | true, true => 1
  | true, false => 2
  | false, true => 4
  | false, false => 3
theorem kindOf_any (f l : Bool) (w : World) : Calls Try.prog 33 #[.bool f, .bool l] w fun r w' => r = .returned (.int .u8 (kindN f l : Nat)) ∧ w' = w := by
  cases f <;> cases l
  all_goals
    go_enter Try.func33, Try.ntmps33
    go_wp2
    go_ret
    exact ⟨rfl, rfl⟩
def followsN (k : Nat) (begun : Bool) : Bool := if begun then k == 3 || k == 4 else k == 1 || k == 2
theorem follows_any (k : Nat) (b : Bool) (w : World) : Calls Try.prog 40 #[.int .u8 k, .bool b] w fun r w' => r = .returned (.bool (followsN k b)) ∧ w' = w := by
  cases b
  · by_cases h1 : k = 1
    · subst h1
      go_enter Try.func40, Try.ntmps40
      go_wp2
      go_ret
      exact ⟨rfl, rfl⟩
    · have h1' : ((k : Int) == 1) = false := by simp; omega
      have HF : Hid (followsN k false = (k == 2)) := by simp [Hid, followsN, h1]
      rw [HF.out]
      by_cases h2 : k = 2
      · subst h2
        go_enter Try.func40, Try.ntmps40
        go_wp2
        go_ret
        exact ⟨rfl, rfl⟩
      · have h2' : ((k : Int) == 2) = false := by simp; omega
        have h2'' : (k == 2) = false := by simp [h2]
        rw [h2'']
        clear h1 h2 h2''
        go_enter Try.func40, Try.ntmps40
        go_wp2
        go_ret
        exact ⟨rfl, rfl⟩
  · by_cases h1 : k = 3
    · subst h1
      go_enter Try.func40, Try.ntmps40
      go_wp2
      go_ret
      exact ⟨rfl, rfl⟩
    · have h1' : ((k : Int) == 3) = false := by simp; omega
      have HF : Hid (followsN k true = (k == 4)) := by simp [Hid, followsN, h1]
      rw [HF.out]
      by_cases h2 : k = 4
      · subst h2
        go_enter Try.func40, Try.ntmps40
        go_wp2
        go_ret
        exact ⟨rfl, rfl⟩
      · have h2' : ((k : Int) == 4) = false := by simp; omega
        have h2'' : (k == 4) = false := by simp [h2]
        rw [h2'']
        clear h1 h2 h2''
        go_enter Try.func40, Try.ntmps40
        go_wp2
        go_ret
        exact ⟨rfl, rfl⟩
/-- All bytes are 0. -/
def zeroB (bs : List UInt8) : Bool := bs.all (· == 0)
set_option maxHeartbeats 2000000 in
theorem allZero_any (a : Option Addr) (cap : Nat) (bs : List UInt8) (w : World) (h : BytesAt w a bs) (hl : bs.length ≤ 140737488355328) :
    Calls Try.prog 39 #[.slice a bs.length cap] w fun r w' => r = .returned (.bool (zeroB bs)) ∧ w' = w := by
  have HH : Hid _ := h
  obtain ⟨n, hn⟩ : ∃ n, bs.length = n := ⟨_, rfl⟩
  have HN : Hid _ := hn
  rw [hn] at hl ⊢
  clear h hn
  go_enter Try.func39, Try.ntmps39
  go_wp2_with fail
  go_loopw [7] (fun i wr => ∃ j : Nat, j ≤ n ∧ i = .int .i64 j ∧ Hid (∀ t, t < j → bs[t]? = some 0) ∧ wr = w) (fun i _ => n - (intOf i).toNat)
  case atStart => exact ⟨0, by omega, rfl, fun t ht => by omega, rfl⟩
  case round =>
    obtain ⟨j, hj, rfl, HE, rfl⟩ := hrel
    by_cases hlt : j < n
    · obtain ⟨x, hx⟩ : ∃ x, bs[j]? = some x := ⟨bs[j]'(by rw [HN.out]; exact hlt), List.getElem?_eq_getElem _⟩
      obtain ⟨g, og, rfl, _, x0⟩ := HH.out j x hx
      have HX : Hid _ := hx
      by_cases h0 : x = 0
      · have h0' : (x.toNat : Int) = 0 := by rw [h0]; rfl
        rw [h0'] at x0
        have HE2 : Hid (∀ t, t < j + 1 → bs[t]? = some 0) := fun t ht => by
          by_cases htj : t < j
          · exact HE.out t htj
          · obtain rfl : t = j := by omega
            rw [HX.out, h0]
        clear hx h0 h0' HX HE
        go_wp2_with fail
        go_roundw
        case rel => exact ⟨j + 1, by omega, by go_num, HE2, trivial⟩
        case measure => simp [intOf]; omega
      · have h0' : ((x.toNat : Int) == 0) = false := by
          simp
          exact fun e => h0 (UInt8.toNat_inj.1 e)
        have h0'' : ((x.toNat : Int) != 0) = true := by rw [bne, h0']; rfl
        have HR : Hid (zeroB bs = false) := by
          rw [Hid, zeroB, List.all_eq_false]
          exact ⟨x, List.mem_of_getElem? HX.out, by simpa using h0⟩
        clear hx HX HE h0
        go_wp2_with fail
        all_goals
          go_ret
          exact ⟨by rw [HR.out]; rfl, rfl⟩
    · obtain rfl : j = n := by omega
      have HR : Hid (zeroB bs = true) := by
        rw [Hid, zeroB, List.all_eq_true]
        intro x hx
        obtain ⟨t, ht, hte⟩ := List.getElem_of_mem hx
        have := HE.out t (by rw [← HN.out]; exact ht)
        rw [List.getElem?_eq_getElem ht, hte] at this
        cases this
        rfl
      go_wp2_with fail
      go_ret
      exact ⟨by rw [HR.out]; rfl, rfl⟩
theorem one_conv (c : UInt8) (W : World) (o : Obj) : (convert 33 9 (.slice (some ⟨W.heap.size + 1, 0, none⟩) 1 1)).run Try.prog ((W.alloc o).alloc (.cells #[.int .u8 (c.toNat : Nat)] 5)) = .ok (.string ⟨#[c]⟩) ((W.alloc o).alloc (.cells #[.int .u8 (c.toNat : Nat)] 5)) := by
  refine run_convert_bytes_back _ 33 9 5 ⟨W.heap.size + 1, 0, none⟩ 1 [c] Try.underlying33 Try.underlying5 Try.underlying9 (fun j hj => ?_)
  match j, hj with
  | 0, _ => show ((W.alloc o).alloc (.cells #[.int .u8 (c.toNat : Nat)] 5)).cell? ⟨W.heap.size + 1, 0, none⟩ = _; go_simp
def bt (x : Nat) : UInt8 := UInt8.ofNat x
theorem bt_mod (x : Nat) : (x : Int) % 256 = ((bt x).toNat : Int) := by simp [bt]
theorem bt_div (x d : Nat) : (x : Int) / (d : Int) % 256 = ((bt (x / d)).toNat : Int) := by
  rw [← bt_mod]; simp
/-- A fragment's check sum. -/
def sumF (c : UInt8) (p : List UInt8) : Nat := Cx.crc (c :: p)
/-- A fragment's head. -/
def headL (c : UInt8) (p : List UInt8) : List UInt8 := [bt (sumF c p / 16777216), bt (sumF c p / 65536), bt (sumF c p / 256), bt (sumF c p), bt (p.length / 256), bt p.length, c]
def u8v (c : UInt8) : Value := .int .u8 (c.toNat : Nat)
set_option maxHeartbeats 2000000 in
theorem headOf_any (c : UInt8) (p : ByteArray) (w : World) (hp : p.size ≤ 140737488355328) :
    Calls Try.prog 32 #[.int .u8 (c.toNat : Nat), .string p] w fun r w' => r = .returned (.agg ((headL c p.data.toList).map u8v).toArray) ∧ Below w.heap.size w w' := by
  have hcv := one_conv c
  obtain ⟨s, hs⟩ : ∃ s, sumF c p.data.toList = s := ⟨_, rfl⟩
  have hsl : s < 4294967296 := by rw [← hs]; exact Cx.crc_lt _
  have HC : Hid (∀ W : World, Calls Try.prog 37 #[.string (⟨#[c]⟩ ++ p)] W fun e w' => e = .returned (.int .u32 (s : Nat)) ∧ w' = W) := fun W => by
    have h := crc_any (⟨#[c]⟩ ++ p) W (by unfold maxLen; rw [ByteArray.size_append]; show 1 + p.size ≤ _; omega)
    have e : (ByteArray.mk #[c] ++ p).data.toList = c :: p.data.toList := by rw [ByteArray.data_append]; simp
    rw [e, show Cx.crc (c :: p.data.toList) = s from hs] at h
    exact h
  obtain ⟨n, hn⟩ : ∃ n, p.size = n := ⟨_, rfl⟩
  have HHD : Hid (headL c p.data.toList = [bt (s / 16777216), bt (s / 65536), bt (s / 256), bt s, bt (n / 256), bt n, c]) := by
    rw [Hid, headL, hs]
    rw [show p.data.toList.length = n from by rw [← hn]; simp]
  have HAG : Hid (Value.agg #[.int .u8 ((s : Int) / 16777216), .int .u8 ((s : Int) / 65536 % 256), .int .u8 ((s : Int) / 256 % 256), .int .u8 ((s : Int) % 256), .int .u8 ((n : Int) / 256 % 256), .int .u8 ((n : Int) % 256), .int .u8 (c.toNat : Nat)] = .agg ((headL c p.data.toList).map u8v).toArray) := by
    have b0 : (s : Int) / 16777216 = ((bt (s / 16777216)).toNat : Int) := by
      have h : (s : Int) / 16777216 % 256 = ((bt (s / 16777216)).toNat : Int) := bt_div s 16777216
      omega
    have b1 : (s : Int) / 65536 % 256 = ((bt (s / 65536)).toNat : Int) := bt_div s 65536
    have b2 : (s : Int) / 256 % 256 = ((bt (s / 256)).toNat : Int) := bt_div s 256
    have b3 := bt_mod s
    have b4 : (n : Int) / 256 % 256 = ((bt (n / 256)).toNat : Int) := bt_div n 256
    have b5 := bt_mod n
    rw [Hid, HHD.out, b0, b1, b2, b3, b4, b5]
    rfl
  rw [← HAG.out]
  clear hs HHD HAG
  go_enter Try.func32, Try.ntmps32
  go_wp2_with fail
  refine (HC.out _).mono ?_
  rintro e w1 ⟨rfl, hw⟩
  subst hw
  go_wp2_with fail
  exact bodyPost_ret (v := .agg #[.int .u8 ((s : Int) / 16777216), .int .u8 ((s : Int) / 65536 % 256), .int .u8 ((s : Int) / 256 % 256), .int .u8 ((s : Int) % 256), .int .u8 ((n : Int) / 256 % 256), .int .u8 ((n : Int) % 256), .int .u8 (c.toNat : Nat)]) (by simp [results, Try.results32, go_sem]) rfl ⟨rfl, ((Below.refl _ _).alloc (Nat.le_refl _) _).alloc (by simp) _⟩
end Go.Proofs.Ytefigcnfcbdecaa
