/-
  The walk of FilterBuilds: whatever the keys, the call returns true, and turns nothing that was there.
-/
import Derived.Test.YtoopgddhkdekmaaCopies
namespace Go.Proofs.Ytoopgddhkdekmaa
open Go.RowKit
set_option maxHeartbeats 1000000 in
theorem rbuild_bits (a : Option Addr) (n ca : Nat) (bits : Int) (w : World) (h : bits < 1 ∨ 32 < bits) : Calls Try.prog 11 #[.slice a n ca, .int .i64 bits] w fun r w' => r = .returned (.tuple #[.slice none 0 0, .int .i64 1]) ∧ w' = w := by
  rcases h with h | h
  · go_enter Try.func11, Try.ntmps11
    go_wp2
    go_ret2
    exact ⟨rfl, rfl⟩
  · have h1 : ¬ bits < 1 := by omega
    go_enter Try.func11, Try.ntmps11
    go_wp2
    go_ret2
    exact ⟨rfl, rfl⟩
set_option maxHeartbeats 1000000 in
theorem rbuild_long (a : Option Addr) (n ca : Nat) (bits : Int) (w : World) (h1 : ¬ bits < 1) (h2 : ¬ 32 < bits) (hn : 65536 < n) : Calls Try.prog 11 #[.slice a n ca, .int .i64 bits] w fun r w' => r = .returned (.tuple #[.slice none 0 0, .int .i64 3]) ∧ w' = w := by
  go_enter Try.func11, Try.ntmps11
  go_wp2
  go_ret2
  exact ⟨rfl, rfl⟩
/-- What Build tells: the bytes and the error, and how many there are. -/
theorem builds_gen (ks : List ByteArray) (n : Nat) (hn : ks.length = n) (hss : ∀ s ∈ ks, s.size ≤ 140737488355328) (bits : Int) :
    ∃ (X : List UInt8) (L : Nat) (e : Int), X.length = L ∧ L ≤ 140737488355328 ∧
      (∀ (a : Option Addr) (ca : Nat) (w : World), StrsAt w a ks → Calls Try.prog 10 #[.slice a n ca, .int .i64 bits] w fun r w' => ∃ g cap, r = .returned (.tuple #[.slice g L cap, .int .i64 e]) ∧ L ≤ cap ∧ BytesAt w' g X ∧ Below w.heap.size w w') ∧
      (∀ (a : Option Addr) (ca : Nat) (w : World), StrsAt w a ks → Calls Try.prog 11 #[.slice a n ca, .int .i64 bits] w fun r w' => ∃ g cap, r = .returned (.tuple #[.slice g L cap, .int .i64 e]) ∧ L ≤ cap ∧ BytesAt w' g X ∧ Below w.heap.size w w') := by
  have nil0 : ∀ W : World, BytesAt W none [] := fun W j c h => by simp at h
  by_cases hb : bits < 1 ∨ 32 < bits
  · refine ⟨[], 0, 1, rfl, by decide, fun a ca w _ => ?_, fun a ca w _ => ?_⟩
    · refine (build_bits a n ca bits w hb).mono ?_
      rintro e w' ⟨rfl, rfl⟩
      exact ⟨none, 0, rfl, Nat.le_refl _, nil0 _, Below.refl _ _⟩
    · refine (rbuild_bits a n ca bits w hb).mono ?_
      rintro e w' ⟨rfl, rfl⟩
      exact ⟨none, 0, rfl, Nat.le_refl _, nil0 _, Below.refl _ _⟩
  · have h1 : ¬ bits < 1 := fun h => hb (Or.inl h)
    have h2 : ¬ 32 < bits := fun h => hb (Or.inr h)
    by_cases hl : 65536 < n
    · refine ⟨[], 0, 3, rfl, by decide, fun a ca w _ => ?_, fun a ca w _ => ?_⟩
      · refine (build_long a n ca bits w h1 h2 hl).mono ?_
        rintro e w' ⟨rfl, rfl⟩
        exact ⟨none, 0, rfl, Nat.le_refl _, nil0 _, Below.refl _ _⟩
      · refine (rbuild_long a n ca bits w h1 h2 hl).mono ?_
        rintro e w' ⟨rfl, rfl⟩
        exact ⟨none, 0, rfl, Nat.le_refl _, nil0 _, Below.refl _ _⟩
    · obtain ⟨bt, rfl⟩ : ∃ bt : Nat, bits = (bt : Int) := ⟨bits.toNat, by omega⟩
      have hsz : sizeOfF n bt + 1 ≤ 140737488355328 := by
        have : n * bt ≤ 65536 * 32 := Nat.mul_le_mul (by omega) (by omega)
        unfold sizeOfF
        omega
      refine ⟨buildF ks bt, sizeOfF n bt + 1, 0, by rw [buildF_len, hn], hsz, fun a ca w hk => ?_, fun a ca w hk => ?_⟩
      · have h := build_any a ca ks bt w hk hss (by omega) (by omega) (by omega)
        rw [hn] at h
        refine h.mono ?_
        rintro e w' ⟨g, rfl, _, row, b⟩
        exact ⟨_, _, rfl, Nat.le_refl _, bytes_of_block row, b⟩
      · have h := rbuild_any a ca ks bt w hk hss (by omega) (by omega) (by omega)
        rw [hn] at h
        refine h.mono ?_
        rintro e w' ⟨g, rfl, o⟩
        exact ⟨_, _, rfl, Nat.le_refl _, o.bytes, o.bel⟩
/-- All that is asked of some bytes, by the program and by its twin. -/
structure Asked (X : List UInt8) (L : Nat) (key : ByteArray) : Prop where
  may : ∀ (a : Option Addr) (cap : Nat) (w : World), BytesAt w a X → Calls Try.prog 13 #[.slice a L cap, .string key] w fun r w' => r = .returned (.bool (mayB X key)) ∧ Below w.heap.size w w'
  rmay : ∀ (a : Option Addr) (cap : Nat) (w : World), BytesAt w a X → Calls Try.prog 14 #[.slice a L cap, .string key] w fun r w' => r = .returned (.bool (mayB X key)) ∧ w' = w
  ones : ∀ (a : Option Addr) (cap : Nat) (w : World), BytesAt w a X → L ≤ cap → Calls Try.prog 15 #[.slice a L cap] w fun r w' => r = .returned (.int .i64 (onesB X : Nat)) ∧ w' = w
  rones : ∀ (a : Option Addr) (cap : Nat) (w : World), BytesAt w a X → Calls Try.prog 16 #[.slice a L cap] w fun r w' => r = .returned (.int .i64 (onesB X : Nat)) ∧ w' = w
  check : ∀ (a : Option Addr) (cap : Nat) (w : World), BytesAt w a X → Calls Try.prog 17 #[.slice a L cap] w fun r w' => r = .returned (.int .i64 (checkErr X)) ∧ w' = w
  rcheck : ∀ (a : Option Addr) (cap : Nat) (w : World), BytesAt w a X → Calls Try.prog 18 #[.slice a L cap] w fun r w' => r = .returned (.int .i64 (checkErr X)) ∧ w' = w
  same : ∀ (a b : Option Addr) (ca cb : Nat) (w : World), BytesAt w a X → BytesAt w b X → Calls Try.prog 12 #[.slice a L ca, .slice b L cb] w fun r w' => r = .returned (.bool true) ∧ Below w.heap.size w w'
theorem asked {X : List UInt8} {L : Nat} (hL : X.length = L) (hl : L ≤ 140737488355328) (key : ByteArray) (hk : key.size ≤ 140737488355328) : Asked X L key := by
  subst hL
  refine ⟨fun a cap w h => may_any a cap X key w h hl hk, fun a cap w h => rmay_any a cap X key w h hl hk, fun a cap w h hc => ones_any a cap X w h hl hc, fun a cap w h => rones_any a cap X w h hl, fun a cap w h => check_any a cap X w h hl, fun a cap w h => rcheck_any a cap X w h hl, fun a b ca cb w ha hb => ?_⟩
  have h := sameBytes_any a b ca cb X X w ha hb hl
  rw [decide_eq_true rfl] at h
  refine h.mono ?_
  rintro e w' ⟨rfl, q, rfl⟩
  exact ⟨rfl, belD _ _⟩
set_option maxRecDepth 100000 in
set_option maxHeartbeats 8000000 in
theorem builds_walk (a : Option Addr) (ca : Nat) (ks : List ByteArray) (bits : Int) (key : ByteArray) (w : World) (hk : StrsAt w a ks) (hss : ∀ s ∈ ks, s.size ≤ 140737488355328) (hl : ks.length * 16 ≤ 140737488355328) (hc0 : a = none → ca = 0) (hkey : key.size ≤ 140737488355328) :
    Calls Try.prog 3 #[.slice a ks.length ca, .int .i64 bits, .string key] w fun r w' => r = .returned (.bool true) ∧ Below w.heap.size w w' := by
  obtain ⟨n, hn⟩ : ∃ n, ks.length = n := ⟨_, rfl⟩
  obtain ⟨X, L, ee, hXL, hLl, hb, hrb⟩ := builds_gen ks n hn hss bits
  have HA : Hid _ := asked hXL hLl key hkey
  have HB : Hid _ := hb
  have HRB : Hid _ := hrb
  have HN : Hid _ := hn
  have HC0 : Hid _ := hc0
  have HK : Hid (∀ W : World, Below w.heap.size w W → StrsAt W a ks) := fun W k => hk.below (Nat.le_refl _) k
  have hee : (ee != ee) = false := by simp
  have HON : Hid (onesB X ≤ 8 * L) := by rw [Hid, ← hXL]; exact onesB_le _
  have hon := HON.out
  rw [hn] at hl ⊢
  clear hk hss hc0 hb hrb hn hXL
  go_enter Try.func3, Try.ntmps3
  go_wp2_with fail
  refine (lives_any _).mono ?_
  rintro e w1 ⟨rfl, B1⟩
  go_wp2_with (at_builtin; refine wpList_copy9 rfl (.tmp 15) (.tmp 16) rfl w1 ks a n ca rfl rfl HN.out (HK.out _ B1) HC0.out hl ?_)
  intro g cap w2 hcap hown b2
  have B2 := B1.trans (b2.mono B1.size)
  clear B1 b2
  go_wp2_with fail
  refine (HB.out _ _ _ hown).mono ?_
  rintro e w3 ⟨ga, capa, rfl, hca, ya, b3⟩
  have B3 := B2.trans (b3.mono B2.size)
  replace hown := hown.below (Nat.le_refl _) b3
  clear B2 b3
  go_wp2_with fail
  refine (HRB.out _ _ _ (HK.out _ B3)).mono ?_
  rintro e w4 ⟨gb, capb, rfl, hcb, yb, b4⟩
  have B4 := B3.trans (b4.mono B3.size)
  replace hown := hown.below (Nat.le_refl _) b4
  replace ya := ya.below (Nat.le_refl _) b4
  clear B3 b4
  go_wp2_with fail
  refine (HA.out.same _ _ _ _ _ ya yb).mono ?_
  rintro e w5 ⟨rfl, b5⟩
  have B5 := B4.trans (b5.mono B4.size)
  replace hown := hown.below (Nat.le_refl _) b5
  replace ya := ya.below (Nat.le_refl _) b5
  replace yb := yb.below (Nat.le_refl _) b5
  have HOWN : Hid _ := hown
  have HKW : Hid _ := HK.out _ B5
  clear B4 b5 hown
  go_wp2_with fail
  go_loopw [12] (fun i wr => ∃ j : Nat, j ≤ n ∧ i = .int .i64 j ∧ ∃ q, wr = w5.drewN q) (fun i _ => n - (intOf i).toNat)
  case atStart => exact ⟨0, by omega, rfl, 0, rfl⟩
  case round =>
    obtain ⟨j, hj, rfl, q, rfl⟩ := hrel
    by_cases hlt : j < n
    · obtain ⟨s, hs⟩ : ∃ s, ks[j]? = some s := ⟨ks[j]'(by rw [HN.out]; exact hlt), List.getElem?_eq_getElem _⟩
      obtain ⟨b1, o1, e1, _, x0⟩ := HOWN.out j s hs
      simp only [Option.some.injEq, Addr.mk.injEq] at e1
      obtain ⟨rfl, rfl, _⟩ := e1
      obtain ⟨b2, o2, rfl, _, y0⟩ := HKW.out j s hs
      rw [Nat.zero_add] at x0
      have hltI : (j : Int) < (n : Int) := by omega
      clear hs
      go_wp2_with fail
      go_quiet (fail)
      go_wp2_with fail
      go_roundw
      case rel => exact ⟨j + 1, by omega, by go_num, q + nq, by simp⟩
      case measure => simp [intOf]; omega
    · obtain rfl : j = n := by omega
      have b6 := belD w5 q
      have B6 := B5.trans (b6.mono B5.size)
      replace ya := ya.below (Nat.le_refl _) b6
      replace yb := yb.below (Nat.le_refl _) b6
      generalize w5.drewN q = w6 at *
      clear b6 B5 HKW HOWN
      go_wp2_with fail
      refine (HA.out.may _ _ _ ya).mono ?_
      rintro e w7 ⟨rfl, b7⟩
      have B7 := B6.trans (b7.mono B6.size)
      replace ya := ya.below (Nat.le_refl _) b7
      replace yb := yb.below (Nat.le_refl _) b7
      clear b7 B6
      go_wp2_with fail
      refine (HA.out.rmay _ _ _ yb).mono ?_
      rintro e w8 ⟨rfl, hw8⟩
      subst hw8
      go_wp2_with fail
      refine (HA.out.ones _ _ _ ya hca).mono ?_
      rintro e w9 ⟨rfl, hw9⟩
      subst hw9
      go_wp2_with fail
      refine (HA.out.rones _ _ _ yb).mono ?_
      rintro e w10 ⟨rfl, hw10⟩
      subst hw10
      go_wp2_with fail
      refine (HA.out.check _ _ _ ya).mono ?_
      rintro e w11 ⟨rfl, hw11⟩
      subst hw11
      go_wp2_with fail
      refine (HA.out.rcheck _ _ _ yb).mono ?_
      rintro e w12 ⟨rfl, hw12⟩
      subst hw12
      go_wp2_with fail
      go_ret
      exact ⟨by simp, B7⟩
end Go.Proofs.Ytoopgddhkdekmaa
