/-
  The contracts of OnesCount8 and Ones: how many bits are 1.
-/
import Derived.Test.YtoopgddhkdekmaaSmall
namespace Go.Proofs.Ytoopgddhkdekmaa
open Go.RowKit
/-- How many of a byte's bits are 1. -/
def popB (c : Nat) : Nat := (c.testBit 0).toNat + (c.testBit 1).toNat + (c.testBit 2).toNat + (c.testBit 3).toNat + (c.testBit 4).toNat + (c.testBit 5).toNat + (c.testBit 6).toNat + (c.testBit 7).toNat
theorem popB_le (c : Nat) : popB c ≤ 8 := by
  unfold popB
  have h : ∀ b : Bool, b.toNat ≤ 1 := fun b => by cases b <;> decide
  have h0 := h (c.testBit 0); have h1 := h (c.testBit 1); have h2 := h (c.testBit 2); have h3 := h (c.testBit 3)
  have h4 := h (c.testBit 4); have h5 := h (c.testBit 5); have h6 := h (c.testBit 6); have h7 := h (c.testBit 7)
  omega
theorem or_toNat (x y : Bool) : x.toNat ≤ (x || y).toNat ∧ (x || y).toNat ≤ x.toNat + y.toNat := by cases x <;> cases y <;> decide
theorem popB_or (a b : Nat) : popB a ≤ popB (a ||| b) ∧ popB (a ||| b) ≤ popB a + popB b := by
  unfold popB
  simp only [Nat.testBit_or]
  have h0 := or_toNat (a.testBit 0) (b.testBit 0); have h1 := or_toNat (a.testBit 1) (b.testBit 1); have h2 := or_toNat (a.testBit 2) (b.testBit 2); have h3 := or_toNat (a.testBit 3) (b.testBit 3)
  have h4 := or_toNat (a.testBit 4) (b.testBit 4); have h5 := or_toNat (a.testBit 5) (b.testBit 5); have h6 := or_toNat (a.testBit 6) (b.testBit 6); have h7 := or_toNat (a.testBit 7) (b.testBit 7)
  omega
def popL : List UInt8 := [0, 1, 1, 2, 1, 2, 2, 3, 1, 2, 2, 3, 2, 3, 3, 4, 1, 2, 2, 3, 2, 3, 3, 4, 2, 3, 3, 4, 3, 4, 4, 5, 1, 2, 2, 3, 2, 3, 3, 4, 2, 3, 3, 4, 3, 4, 4, 5, 2, 3, 3, 4, 3, 4, 4, 5, 3, 4, 4, 5, 4, 5, 5, 6, 1, 2, 2, 3, 2, 3, 3, 4, 2, 3, 3, 4, 3, 4, 4, 5, 2, 3, 3, 4, 3, 4, 4, 5, 3, 4, 4, 5, 4, 5, 5, 6, 2, 3, 3, 4, 3, 4, 4, 5, 3, 4, 4, 5, 4, 5, 5, 6, 3, 4, 4, 5, 4, 5, 5, 6, 4, 5, 5, 6, 5, 6, 6, 7, 1, 2, 2, 3, 2, 3, 3, 4, 2, 3, 3, 4, 3, 4, 4, 5, 2, 3, 3, 4, 3, 4, 4, 5, 3, 4, 4, 5, 4, 5, 5, 6, 2, 3, 3, 4, 3, 4, 4, 5, 3, 4, 4, 5, 4, 5, 5, 6, 3, 4, 4, 5, 4, 5, 5, 6, 4, 5, 5, 6, 5, 6, 6, 7, 2, 3, 3, 4, 3, 4, 4, 5, 3, 4, 4, 5, 4, 5, 5, 6, 3, 4, 4, 5, 4, 5, 5, 6, 4, 5, 5, 6, 5, 6, 6, 7, 3, 4, 4, 5, 4, 5, 5, 6, 4, 5, 5, 6, 5, 6, 6, 7, 4, 5, 5, 6, 5, 6, 6, 7, 5, 6, 6, 7, 6, 7, 7, 8]
set_option maxRecDepth 100000 in
theorem popL_ok : ∀ c : Fin 256, (popL.getD c.1 0).toNat = popB c.1 := by decide +kernel
set_option maxRecDepth 100000 in
set_option maxHeartbeats 4000000 in
theorem ones8_any (c : Nat) (w : World) (hc : c < 256) : Calls Try.prog 43 #[.int .u8 c] w fun r w' => r = .returned (.int .i64 (popB c : Nat)) ∧ w' = w := by
  go_enter Try.func43, Try.ntmps43
  go_wp2_with fail
  go_ret
  refine ⟨?_, rfl⟩
  have h1 : (popL.getD c 0).toNat = popB c := popL_ok ⟨c, hc⟩
  have h2 := popB_le c
  have h3 : wrap64 (((popL.getD c 0).toNat : Nat) : Int) = ((popB c : Nat) : Int) := by rw [h1]; exact IntWalk.wrap64_in _ ⟨by omega, by omega⟩
  have hl : c < popL.length := hc
  rw [← h3, List.getD_eq_getElem?_getD, List.getElem?_eq_getElem hl]
  rfl
/-- How many bits of the first bytes are 1. -/
def onesTo (bs : List UInt8) : Nat → Nat
  | 0 => 0
  | j + 1 => onesTo bs j + popB (bs.getD j 0).toNat
theorem onesTo_le (bs : List UInt8) : ∀ j, onesTo bs j ≤ 8 * j
  | 0 => Nat.le_refl _
  | j + 1 => by
    have h1 := onesTo_le bs j
    have h2 := popB_le (bs.getD j 0).toNat
    show onesTo bs j + popB _ ≤ _
    omega
def onesB (bs : List UInt8) : Nat := if isF bs then onesTo bs (bs.length - 1) else 0
set_option maxRecDepth 100000 in
set_option maxHeartbeats 2000000 in
theorem ones_any (a : Option Addr) (cap : Nat) (bs : List UInt8) (w : World) (h : BytesAt w a bs) (hl : bs.length ≤ 140737488355328) (hcap : bs.length ≤ cap) :
    Calls Try.prog 15 #[.slice a bs.length cap] w fun r w' => r = .returned (.int .i64 (onesB bs : Nat)) ∧ w' = w := by
  have hck := check_any a cap bs w h hl
  by_cases hF : isF bs = true
  · have hce : checkErr bs = 0 := by simp [checkErr, hF]
    rw [hce] at hck
    have h9 : 9 ≤ bs.length := by simp [isF] at hF; omega
    have HO : Hid (onesB bs = onesTo bs (bs.length - 1)) := by simp [Hid, onesB, hF]
    have HH : Hid _ := h
    obtain ⟨n, hn⟩ : ∃ n, bs.length = n + 1 := ⟨bs.length - 1, by omega⟩
    have HN : Hid _ := hn
    rw [hn] at hck hl hcap HO ⊢
    rw [Nat.add_sub_cancel] at HO
    obtain ⟨b0, off0, ha0, _, _⟩ := h 0 _ (getD_at (by omega))
    subst ha0
    clear hce h hn h9
    go_enter Try.func15, Try.ntmps15
    go_wp2_with fail
    refine hck.mono ?_
    rintro e w1 ⟨rfl, rfl⟩
    go_wp2_with fail
    go_loopw [3, 15] (fun s i wr => ∃ j : Nat, j ≤ n ∧ s = .int .i64 (onesTo bs j : Nat) ∧ i = .int .i64 j ∧ wr = w1) (fun _ i _ => n - (intOf i).toNat)
    case atStart => exact ⟨0, by omega, rfl, rfl, rfl⟩
    case round =>
      obtain ⟨j, hj, rfl, rfl, rfl⟩ := hrel
      have hle := onesTo_le bs j
      have HNX : Hid (onesTo bs (j + 1) = onesTo bs j + popB (bs.getD j 0).toNat) := rfl
      obtain ⟨o, ho⟩ : ∃ o, onesTo bs j = o := ⟨_, rfl⟩
      rw [ho] at hle HNX
      rw [ho]
      by_cases hlt : j < n
      · obtain ⟨b, off, e, _, hc⟩ := HH.out j _ (getD_at (by rw [HN.out]; omega))
        simp only [Option.some.injEq, Addr.mk.injEq] at e
        obtain ⟨rfl, rfl, _⟩ := e
        have hcl : (bs.getD j 0).toNat < 256 := UInt8.toNat_lt _
        have hpl := popB_le (bs.getD j 0).toNat
        have h8 := ones8_any (bs.getD j 0).toNat wr hcl
        obtain ⟨c, hcd⟩ : ∃ c, (bs.getD j 0).toNat = c := ⟨_, rfl⟩
        rw [hcd] at hc h8 hcl HNX hpl
        obtain ⟨p, hpd⟩ : ∃ p, popB c = p := ⟨_, rfl⟩
        rw [hpd] at h8 HNX hpl
        clear hcd hpd ho
        go_wp2_with fail
        refine h8.mono ?_
        rintro e w2 ⟨rfl, rfl⟩
        go_wp2_with fail
        go_roundw
        case rel => exact ⟨j + 1, by omega, by rw [HNX.out]; go_num, by go_num, trivial⟩
        case measure => simp [intOf]; omega
      · obtain rfl : j = n := by omega
        have HO2 : Hid (onesB bs = o) := by rw [Hid, HO.out, ho]
        clear ho
        go_wp2_with fail
        go_ret
        exact ⟨by rw [HO2.out]; rfl, rfl⟩
  · have hce : checkErr bs = 70 := by simp [checkErr, hF]
    rw [hce] at hck
    have HO : onesB bs = 0 := by simp [onesB, hF]
    rw [HO]
    clear HO hF
    go_enter Try.func15, Try.ntmps15
    go_wp2_with fail
    refine hck.mono ?_
    rintro e w1 ⟨rfl, rfl⟩
    go_wp2_with fail
    go_ret
    exact ⟨rfl, rfl⟩
end Go.Proofs.Ytoopgddhkdekmaa
