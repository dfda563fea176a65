/-
  Bytes in memory, and the contracts of Check, bit, places and sameBytes.
-/
import Derived.Test.YtoopgddhkdekmaaIter
namespace Go.Proofs.Ytoopgddhkdekmaa
open Go.RowKit
/-- Bytes in memory, from a slice's address on. -/
def BytesAt (w : World) (a : Option Addr) (bs : List UInt8) : Prop :=
  ∀ j c, bs[j]? = some c → ∃ b off, a = some ⟨b, off, none⟩ ∧ b < w.heap.size ∧ w.cell? ⟨b, off + j, none⟩ = some (.int .u8 (c.toNat : Nat))
theorem BytesAt.below {w w' : World} {a : Option Addr} {bs : List UInt8} {B : Nat} (h : BytesAt w a bs) (hB : w.heap.size ≤ B) (k : Below B w w') : BytesAt w' a bs := by
  intro j c hj
  obtain ⟨b, off, ha, hb, h0⟩ := h j c hj
  exact ⟨b, off, ha, Nat.lt_of_lt_of_le hb k.size, (k.cell (p := ⟨b, off + j, none⟩) (by show b < B; omega)).trans h0⟩
/-- The last byte. -/
def lastB (bs : List UInt8) : Nat := (bs.getD (bs.length - 1) 0).toNat
/-- Bytes may be a filter. -/
def isF (bs : List UInt8) : Bool := decide (9 ≤ bs.length) && (decide (1 ≤ lastB bs) && decide (lastB bs ≤ 30))
def checkErr (bs : List UInt8) : Int := if isF bs then 0 else 70
theorem getD_at {bs : List UInt8} {j : Nat} (h : j < bs.length) : bs[j]? = some (bs.getD j 0) := by
  rw [List.getElem?_eq_getElem h, List.getD_eq_getElem?_getD, List.getElem?_eq_getElem h]; rfl
set_option maxRecDepth 100000 in
set_option maxHeartbeats 1000000 in
theorem check_any (a : Option Addr) (cap : Nat) (bs : List UInt8) (w : World) (h : BytesAt w a bs) (hl : bs.length ≤ 140737488355328) :
    Calls Try.prog 17 #[.slice a bs.length cap] w fun r w' => r = .returned (.int .i64 (checkErr bs)) ∧ w' = w := by
  by_cases h9 : bs.length < 9
  · have HE : Hid (checkErr bs = 70) := by
      have : ¬ 9 ≤ bs.length := by omega
      simp [Hid, checkErr, isF, this]
    rw [HE.out]
    go_enter Try.func17, Try.ntmps17
    go_wp2
    go_ret
    exact ⟨rfl, rfl⟩
  · obtain ⟨b, off, rfl, _, hc⟩ := h (bs.length - 1) _ (getD_at (by omega))
    have hlb : (bs.getD (bs.length - 1) 0).toNat = lastB bs := rfl
    rw [hlb] at hc
    obtain ⟨n, hn⟩ : ∃ n, bs.length = n + 1 := ⟨bs.length - 1, by omega⟩
    rw [hn] at hc hl h9 ⊢
    rw [Nat.add_sub_cancel] at hc
    have HI : Hid (isF bs = (decide (1 ≤ lastB bs) && decide (lastB bs ≤ 30))) := by
      have : 9 ≤ bs.length := by omega
      simp [Hid, isF, this]
    obtain ⟨k, hk⟩ : ∃ k, lastB bs = k := ⟨_, rfl⟩
    rw [hk] at hc HI
    clear hlb h
    by_cases h1 : k < 1
    · have HE : Hid (checkErr bs = 70) := by
        have : ¬ 1 ≤ k := by omega
        simp [Hid, checkErr, HI.out, this]
      rw [HE.out]
      clear hk hn
      go_enter Try.func17, Try.ntmps17
      go_wp2
      go_ret
      exact ⟨rfl, rfl⟩
    · by_cases h2 : k ≤ 30
      · have HE : Hid (checkErr bs = 0) := by
          have : 1 ≤ k := by omega
          simp [Hid, checkErr, HI.out, this, h2]
        rw [HE.out]
        clear hk hn
        go_enter Try.func17, Try.ntmps17
        go_wp2
        go_ret
        exact ⟨rfl, rfl⟩
      · have HE : Hid (checkErr bs = 70) := by simp [Hid, checkErr, HI.out, h2]
        rw [HE.out]
        clear hk hn
        go_enter Try.func17, Try.ntmps17
        go_wp2
        go_ret
        exact ⟨rfl, rfl⟩
/-- A place's bit in its byte. -/
def bitN (p : Nat) : Nat := 2 ^ (p % 8)
set_option maxHeartbeats 1000000 in
theorem bit_any (p : Nat) (w : World) (hp : p < 18446744073709551616) : Calls Try.prog 41 #[.int .u64 p] w fun r w' => r = .returned (.int .u8 (bitN p : Nat)) ∧ w' = w := by
  have h8 : p % 8 < 8 := Nat.mod_lt _ (by decide)
  have hc : ((p : Int) % 8) = ((p % 8 : Nat) : Int) := by omega
  unfold bitN
  obtain ⟨r, hr⟩ : ∃ r, p % 8 = r := ⟨_, rfl⟩
  rw [hr] at hc h8 ⊢
  rcases (show r = 0 ∨ r = 1 ∨ r = 2 ∨ r = 3 ∨ r = 4 ∨ r = 5 ∨ r = 6 ∨ r = 7 by omega) with rfl | rfl | rfl | rfl | rfl | rfl | rfl | rfl
  all_goals
    go_enter Try.func41, Try.ntmps41
    go_wp2
    go_ret
    exact ⟨rfl, rfl⟩
theorem places_any (a : Option Addr) (n cap : Nat) (key : ByteArray) (w : World) (hn : 1 ≤ n) (hl : n ≤ 140737488355328) :
    Calls Try.prog 40 #[.slice a n cap, .string key] w fun r w' => r = .returned (.func (.func 67) #[] #[.pointer (some ⟨w.heap.size + 1 + 1, 0, none⟩), .pointer (some ⟨w.heap.size + 1, 0, none⟩), .pointer (some ⟨w.heap.size, 0, none⟩)]) ∧
      w' = ((w.alloc (.cells #[.slice a n cap] 24)).alloc (.cells #[.string key] 9)).alloc (.cells #[.int .i64 ((n : Int) - 1)] 3) := by
  go_enter Try.func40, Try.ntmps40
  go_wp2
  go_ret
  exact ⟨rfl, rfl⟩
theorem blist_ne_len {ps qs : List UInt8} (h : ps.length ≠ qs.length) : decide (ps = qs) = false := decide_eq_false (fun e => h (by rw [e]))
theorem blist_eq_of {ps qs : List UInt8} (h : ps.length = qs.length) (k : ∀ j, j < ps.length → ps[j]? = qs[j]?) : decide (ps = qs) = true := by
  refine decide_eq_true (List.ext_getElem? fun j => ?_)
  by_cases hj : j < ps.length
  · exact k j hj
  · rw [List.getElem?_eq_none (by omega), List.getElem?_eq_none (by omega)]
theorem blist_ne_of {ps qs : List UInt8} {j : Nat} {p q : UInt8} (hp : ps[j]? = some p) (hq : qs[j]? = some q) (h : p ≠ q) : decide (ps = qs) = false :=
  decide_eq_false (fun e => h (by rw [e, hq] at hp; cases hp; rfl))
theorem u8_beq (x y : UInt8) : ((x.toNat : Int) == (y.toNat : Int)) = decide (x = y) := by
  by_cases h : x = y
  · subst h; simp
  · have : ¬ (x.toNat : Int) = (y.toNat : Int) := fun e => h (UInt8.toNat_inj.1 (by omega))
    rw [beq_eq_false_iff_ne.2 this, decide_eq_false h]
set_option maxRecDepth 100000 in
set_option maxHeartbeats 2000000 in
theorem sameBytes_any (a b : Option Addr) (ca cb : Nat) (ps qs : List UInt8) (w : World) (ha : BytesAt w a ps) (hb : BytesAt w b qs) (hl : ps.length ≤ 140737488355328) :
    Calls Try.prog 12 #[.slice a ps.length ca, .slice b qs.length cb] w fun r w' => r = .returned (.bool (decide (ps = qs))) ∧ ∃ n, w' = w.drewN n := by
  have HA : Hid _ := ha
  have HB : Hid _ := hb
  clear ha hb
  by_cases hlen : ps.length = qs.length
  · have hlen' : ((ps.length : Int) == (qs.length : Int)) = true := by rw [hlen]; simp
    have HL : Hid _ := hlen
    obtain ⟨n, hn⟩ : ∃ n, ps.length = n := ⟨_, rfl⟩
    obtain ⟨m, hm⟩ : ∃ m, qs.length = m := ⟨_, rfl⟩
    have HN : Hid _ := hn
    have HM : Hid _ := hm
    rw [hn] at hl hlen'
    rw [hm] at hlen'
    rw [hn, hm]
    clear hlen hn hm
    go_enter Try.func12, Try.ntmps12
    go_wp2_with fail
    go_loopw [5] (fun i wr => ∃ k : Nat, k ≤ n ∧ i = .int .i64 k ∧ Hid (∀ j, j < k → ps[j]? = qs[j]?) ∧ ∃ q, wr = w.drewN q) (fun i _ => n - (intOf i).toNat)
    case atStart => exact ⟨0, by omega, rfl, fun j hj => by omega, 0, rfl⟩
    case round =>
      obtain ⟨k, hk, rfl, HE, q, rfl⟩ := hrel
      by_cases hlt : k < n
      · obtain ⟨x, hx⟩ : ∃ x, ps[k]? = some x := ⟨ps[k]'(by rw [HN.out]; exact hlt), List.getElem?_eq_getElem _⟩
        obtain ⟨y, hy⟩ : ∃ y, qs[k]? = some y := ⟨qs[k]'(by rw [← HL.out, HN.out]; exact hlt), List.getElem?_eq_getElem _⟩
        obtain ⟨g, og, rfl, _, x0⟩ := HA.out k x hx
        obtain ⟨h, oh, rfl, _, y0⟩ := HB.out k y hy
        have HX : Hid _ := hx
        have HY : Hid _ := hy
        clear hx hy
        have hk' : k < m := by have := HL.out; have := HN.out; have := HM.out; omega
        have he := u8_beq x y
        by_cases hxy : x = y
        · have hd : ((x.toNat : Int) == (y.toNat : Int)) = true := by rw [he]; exact decide_eq_true hxy
          have HXY : Hid _ := hxy
          clear hxy he
          go_wp2_with fail
          go_quiet (fail)
          go_wp2_with fail
          go_roundw
          case rel =>
            refine ⟨k + 1, by omega, by go_num, ?_, q + nq, by simp⟩
            intro j hj
            by_cases hjk : j < k
            · exact HE.out j hjk
            · obtain rfl : j = k := by omega
              rw [HX.out, HY.out, HXY.out]
          case measure => simp [intOf]; omega
        · have hd : ((x.toNat : Int) == (y.toNat : Int)) = false := by rw [he]; exact decide_eq_false hxy
          have HXY : Hid (decide (ps = qs) = false) := blist_ne_of HX.out HY.out hxy
          clear hxy he
          go_wp2_with fail
          go_quiet (fail)
          go_wp2_with fail
          go_ret
          refine ⟨?_, q + nq, by simp⟩
          rw [HXY.out]
          rfl
      · obtain rfl : k = n := by omega
        go_wp2_with fail
        go_ret
        refine ⟨?_, q, rfl⟩
        rw [blist_eq_of HL.out (fun j hj => HE.out j (by have := HN.out; omega))]
        rfl
  · have hlen' : ((ps.length : Int) == (qs.length : Int)) = false := by simp; omega
    have HD : Hid _ := blist_ne_len hlen
    clear hlen
    go_enter Try.func12, Try.ntmps12
    go_wp2
    go_ret
    refine ⟨?_, 0, rfl⟩
    rw [HD.out]
    rfl
end Go.Proofs.Ytoopgddhkdekmaa
