/-
  The walk of FilterAsks: whatever the bytes, the call returns true, and turns nothing that was there.
-/
import Derived.Test.YtoopgddhkdekmaaBuildsWalk
namespace Go.Proofs.Ytoopgddhkdekmaa
open Go.RowKit
/-- What Merge tells: the bytes and the error. -/
theorem merges_gen (es bs : List UInt8) (n m : Nat) (hn : es.length = n) (hm : bs.length = m) (hla : n ≤ 140737488355328) (hlb : m ≤ 140737488355328) :
    ∃ (X : List UInt8) (L : Nat) (e : Int), X.length = L ∧ L ≤ 140737488355328 ∧
      (∀ (a b : Option Addr) (ca cb : Nat) (w : World), BytesAt w a es → BytesAt w b bs → Calls Try.prog 19 #[.slice a n ca, .slice b m cb] w fun r w' => ∃ g cap, r = .returned (.tuple #[.slice g L cap, .int .i64 e]) ∧ BytesAt w' g X ∧ Below w.heap.size w w') ∧
      (∀ (a b : Option Addr) (ca cb : Nat) (w : World), BytesAt w a es → BytesAt w b bs → Calls Try.prog 20 #[.slice a n ca, .slice b m cb] w fun r w' => ∃ g cap, r = .returned (.tuple #[.slice g L cap, .int .i64 e]) ∧ BytesAt w' g X ∧ Below w.heap.size w w') := by
  subst hn
  subst hm
  have nil0 : ∀ W : World, BytesAt W none [] := fun W j c h => by simp at h
  cases hE : mergeErr es bs with
  | false =>
    refine ⟨[], 0, 70, rfl, by decide, fun a b ca cb w ha hb => ?_, fun a b ca cb w ha hb => ?_⟩
    · refine (merge_bad a b ca cb es bs w ha hb hla hlb hE).mono ?_
      rintro e w' ⟨rfl, q, rfl⟩
      exact ⟨none, 0, rfl, nil0 _, belD _ _⟩
    · refine (rmerge_bad a b ca cb es bs w ha hb hla hlb hE).mono ?_
      rintro e w' ⟨rfl, q, rfl⟩
      exact ⟨none, 0, rfl, nil0 _, belD _ _⟩
  | true =>
    have hl : es.length = bs.length := by
      simp only [mergeErr, alikeB, Bool.and_eq_true] at hE
      simpa using hE.2.1
    refine ⟨orL es bs, es.length, 0, by rw [orL_len' hl], hla, fun a b ca cb w ha hb => ?_, fun a b ca cb w ha hb => ?_⟩
    · refine (merge_ok a b ca cb es bs w ha hb hla hlb hE).mono ?_
      rintro e w' ⟨g, cap, rfl, _, o⟩
      exact ⟨_, _, rfl, o.bytes, o.bel⟩
    · refine (rmerge_ok a b ca cb es bs w ha hb hla hlb hE).mono ?_
      rintro e w' ⟨g, cap, rfl, _, o⟩
      exact ⟨_, _, rfl, o.bytes, o.bel⟩
set_option maxRecDepth 100000 in
set_option maxHeartbeats 8000000 in
theorem asks_walk (a b : Option Addr) (ca cb : Nat) (es bs : List UInt8) (key : ByteArray) (w : World) (ha : BytesAt w a es) (hb : BytesAt w b bs) (hla : es.length ≤ 140737488355328) (hlb : bs.length ≤ 140737488355328) (hca : a = none → ca = 0) (hcb : b = none → cb = 0) (hkey : key.size ≤ 140737488355328) :
    Calls Try.prog 4 #[.slice a es.length ca, .slice b bs.length cb, .string key] w fun r w' => r = .returned (.bool true) ∧ Below w.heap.size w w' := by
  obtain ⟨n, hn⟩ : ∃ n, es.length = n := ⟨_, rfl⟩
  obtain ⟨m, hm⟩ : ∃ m, bs.length = m := ⟨_, rfl⟩
  obtain ⟨X, L, ee, hXL, hLl, hg, hr⟩ := merges_gen es bs n m hn hm (by omega) (by omega)
  have HA : Hid _ := asked hXL hLl key hkey
  have HE : Hid _ := asked hn (by omega) key hkey
  have HF : Hid _ := asked hm (by omega) key hkey
  have HG : Hid _ := hg
  have HR : Hid _ := hr
  have HN : Hid _ := hn
  have HM : Hid _ := hm
  have HCA : Hid _ := hca
  have HCB : Hid _ := hcb
  have HAW : Hid (∀ W : World, Below w.heap.size w W → BytesAt W a es) := fun W k => ha.below (Nat.le_refl _) k
  have HBW : Hid (∀ W : World, Below w.heap.size w W → BytesAt W b bs) := fun W k => hb.below (Nat.le_refl _) k
  have HON : Hid (onesB es ≤ 8 * n) := by rw [Hid, ← hn]; exact onesB_le _
  have hon := HON.out
  rw [hn] at hla ⊢
  rw [hm] at hlb ⊢
  clear ha hb hca hcb hg hr hn hm hXL
  go_enter Try.func4, Try.ntmps4
  go_wp2_with (at_builtin; refine wpList_copy5 rfl (.tmp 13) (.tmp 14) rfl w es a n ca rfl rfl HN.out (HAW.out _ (Below.refl _ _)) HCA.out hla ?_)
  intro gx cx w1 hcx ox
  have B1 := ox.bel
  have yx := ox.bytes
  clear ox
  go_wp2_with (at_builtin; refine wpList_copy5 rfl (.tmp 16) (.tmp 17) rfl w1 bs b m cb rfl rfl HM.out (HBW.out _ B1) HCB.out hlb ?_)
  intro gy cy w2 hcy oy
  have B2 := B1.trans (oy.bel.mono B1.size)
  have yy := oy.bytes
  replace yx := yx.below (Nat.le_refl _) oy.bel
  clear oy B1
  go_wp2_with fail
  refine (HG.out _ _ _ _ _ yx yy).mono ?_
  rintro e w3 ⟨gc, cc, rfl, yc, b3⟩
  have B3 := B2.trans (b3.mono B2.size)
  replace yx := yx.below (Nat.le_refl _) b3
  replace yy := yy.below (Nat.le_refl _) b3
  clear B2 b3
  go_wp2_with fail
  refine (HR.out _ _ _ _ _ (HAW.out _ B3) (HBW.out _ B3)).mono ?_
  rintro e w4 ⟨gd, cd, rfl, yd, b4⟩
  have B4 := B3.trans (b4.mono B3.size)
  replace yx := yx.below (Nat.le_refl _) b4
  replace yy := yy.below (Nat.le_refl _) b4
  replace yc := yc.below (Nat.le_refl _) b4
  clear B3 b4
  go_wp2_with fail
  refine (lives_any _).mono ?_
  rintro e w5 ⟨rfl, b5⟩
  have B5 := B4.trans (b5.mono B4.size)
  replace yx := yx.below (Nat.le_refl _) b5
  replace yy := yy.below (Nat.le_refl _) b5
  replace yc := yc.below (Nat.le_refl _) b5
  replace yd := yd.below (Nat.le_refl _) b5
  clear B4 b5
  go_wp2_with fail
  refine (HE.out.check _ _ _ yx).mono ?_
  rintro e w6 ⟨rfl, hw⟩
  subst hw
  go_wp2_with fail
  refine (HE.out.rcheck _ _ _ (HAW.out _ B5)).mono ?_
  rintro e w7 ⟨rfl, hw⟩
  subst hw
  go_wp2_with fail
  refine (HE.out.may _ _ _ yx).mono ?_
  rintro e w8 ⟨rfl, b8⟩
  have B8 := B5.trans (b8.mono B5.size)
  replace yx := yx.below (Nat.le_refl _) b8
  replace yy := yy.below (Nat.le_refl _) b8
  replace yc := yc.below (Nat.le_refl _) b8
  replace yd := yd.below (Nat.le_refl _) b8
  clear B5 b8
  go_wp2_with fail
  refine (HE.out.rmay _ _ _ (HAW.out _ B8)).mono ?_
  rintro e w9 ⟨rfl, hw⟩
  subst hw
  go_wp2_with fail
  refine (HE.out.ones _ _ _ yx hcx).mono ?_
  rintro e w10 ⟨rfl, hw⟩
  subst hw
  go_wp2_with fail
  refine (HE.out.rones _ _ _ (HAW.out _ B8)).mono ?_
  rintro e w11 ⟨rfl, hw⟩
  subst hw
  go_wp2_with fail
  refine (HA.out.same _ _ _ _ _ yc yd).mono ?_
  rintro e w12 ⟨rfl, b12⟩
  have B12 := B8.trans (b12.mono B8.size)
  replace yx := yx.below (Nat.le_refl _) b12
  replace yy := yy.below (Nat.le_refl _) b12
  clear B8 b12 yc yd
  go_wp2_with fail
  refine (HE.out.same _ _ _ _ _ yx (HAW.out _ B12)).mono ?_
  rintro e w13 ⟨rfl, b13⟩
  have B13 := B12.trans (b13.mono B12.size)
  replace yy := yy.below (Nat.le_refl _) b13
  clear B12 b13 yx
  go_wp2_with fail
  refine (HF.out.same _ _ _ _ _ yy (HBW.out _ B13)).mono ?_
  rintro e w14 ⟨rfl, b14⟩
  have B14 := B13.trans (b14.mono B13.size)
  clear B13 b14
  go_wp2_with fail
  go_ret
  exact ⟨by simp, B14⟩
end Go.Proofs.Ytoopgddhkdekmaa
