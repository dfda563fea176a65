/-
  The walk of HttpComes.
-/
import Derived.Test.YthhhoppmbimeiaaDoorPm2
namespace Go.Proofs.YthhhoppmbimeiaaDoor
open Go.RowKit
/-- Where a number points within so many. -/
def within (at_ : Int) (n : Nat) : Int := if Int.tmod at_ n < 0 then Int.tmod at_ n + n else Int.tmod at_ n
theorem within_ok (at_ : Int) (n : Nat) (h : 1 ≤ n) : 0 ≤ within at_ n ∧ within at_ n < n := by
  have h1 := Int.tmod_lt_of_pos at_ (b := (n : Int)) (by omega)
  have h2 := Int.lt_tmod_of_pos at_ (b := (n : Int)) (by omega)
  unfold within
  split <;> omega
set_option maxRecDepth 20000 in
set_option maxHeartbeats 8000000 in
theorem comes_walk (s more : ByteArray) (at_ : Int) (m : Int) (w : World) (hs : s.size ≤ 140737488355328) (hn : more.size ≤ 140737488355328) (hm : w.cell? ⟨0, 0, none⟩ = some (.int .i64 m)) :
    Calls Tryd.prog 5 #[.string s, .string more, .int .i64 at_] w fun e w' => e = .returned (.bool true) ∧ Below w.heap.size w w' := by
  have HM : Hid (∀ W, Below w.heap.size w W → W.cell? ⟨0, 0, none⟩ = some (.int .i64 m)) := fun W b => mx_below hm b
  obtain ⟨o1, o2⟩ := parseR_ok s
  have H1 : Hid (∀ W, Below w.heap.size w W → _) := fun W b => parse_any s m W (by omega) (HM.out W b)
  have H2 : Hid (∀ W, Below w.heap.size w W → _) := fun W b => parse_any (s ++ more) m W (by rw [size_app]; omega) (HM.out W b)
  have H3 : Hid (∀ W, Below w.heap.size w W → _) := fun W b => lives_any m W (HM.out W b)
  have H4 : Hid (∀ a b ca cb B W, FA B W a (parseR s).fs → FA B W b (parseR s).fs → B ≤ W.heap.size → _) := fun a b ca cb B W h1 h2 h3 => same_eq (parseR s).met (parseR s).tar (parseR s).body (parseR s).shut (parseR s).fs a b ca cb B W h1 h2 h3 (by omega)
  have HN : Hid ((parseR s).err ≠ 0 → parseR s = noPs (parseR s).err) := parse_none
  have HMO : Hid ((parseR s).err ≠ 4 → parseR (s ++ more) = parseR s) := parse_more more
  have HSZ : Hid ((parseR s).err = 0 → 1 ≤ (parseR s).size ∧ (parseR s).size ≤ s.size ∧ (parseR s).size ≤ 12288) := parse_size
  have HFW : Hid (∀ k, (parseR s).err = 0 → k < (parseR s).size → (parseR (s.extract 0 k)).err = 4) := fun k h1 h2 => parse_few h1 h2
  have H5 : Hid (∀ k W, k ≤ 12288 → (parseR (s.extract 0 k)).err = 4 → Below w.heap.size w W → Calls Tryd.prog 8 #[.string (s.extract 0 k)] W fun e w' => ∃ met tar va vn vc body shut n, e = .returned (.tuple #[.agg #[.string met, .string tar, .slice va vn vc, .string body, .bool shut], .int .i64 n, .int .i64 4]) ∧ Below W.heap.size W w') := fun k W hk he b => by
    refine (parse_any (s.extract 0 k) m W (by rw [ByteArray.size_extract]; omega) (HM.out W b)).mono ?_
    rintro e w' ⟨a, c, rfl, _, hb⟩
    exact ⟨_, _, _, _, _, _, _, _, by rw [← he]; rfl, hb⟩
  by_cases h4 : (parseR s).err = 4
  · have hp : parseR s = noPs 4 := by have := HN.out (by rw [h4]; decide); rw [h4] at this; exact this
    rw [hp] at H1 H4
    simp only [psV, rqV, noPs, List.length_nil] at H1 H4
    clear H2 HN HMO HSZ HFW H5 h4 hp o1 o2 hm
    go_enter Tryd.func5, Tryd.ntmps5
    go_wp2_with fail
    refine (H3.out _ (Below.refl _ _)).mono ?_
    rintro e w1 ⟨rfl, b1⟩
    go_wp2_with fail
    refine (H1.out _ b1).mono ?_
    rintro e w2 ⟨a, c, rfl, _, b2⟩
    obtain ⟨W2, hW2⟩ : ∃ W2, w2.alloc (.cells #[.string ⟨#[]⟩, .string ⟨#[]⟩, .slice a 0 c, .string ⟨#[]⟩, .bool false] 24) = W2 := ⟨_, rfl⟩
    have HB2 : Hid (Below w.heap.size w W2) := by rw [Hid, ← hW2]; exact (b1.trans (b2.mono b1.size)).alloc (Nat.le_trans b1.size b2.size) _
    have HX2 : Hid (RB W2 w2.heap.size ⟨#[]⟩ ⟨#[]⟩ (.slice a 0 c) ⟨#[]⟩ false) := by rw [Hid, ← hW2]; exact block_alloc_at _ _
    have HW2 : Hid _ := hW2
    clear b1 b2 hW2
    go_wp2_with fail
    rw [HW2.out]
    refine (H4.out _ _ _ _ _ _ (FA.nil _ _ _) (FA.nil _ _ _) (Nat.le_refl _)).mono ?_
    rintro e w3 ⟨rfl, b3⟩
    go_wp2_with fail
    go_ret
    exact ⟨rfl, HB2.out.trans (b3.mono HB2.out.size)⟩
  · rw [HMO.out h4] at H2
    simp only [psV, rqV] at H1 H2 H4
    obtain ⟨P, hP⟩ : ∃ P, parseR s = P := ⟨_, rfl⟩
    rw [hP] at H1 H2 H4 HN HSZ HFW h4
    clear hP o1 o2 HMO hm
    obtain ⟨met, tar, fs, body, shut, size, err⟩ := P
    simp only at H1 H2 H4 HN HSZ HFW h4
    obtain ⟨F, hF⟩ : ∃ F, fs.length = F := ⟨_, rfl⟩
    rw [hF] at H1 H2 H4
    clear hF
    have e0 : (err == 4) = false := by simp [h4]
    have e1 : ((size : Int) != (size : Int)) = false := by simp
    have e2 : (err != err) = false := by simp
    have HE4 : Hid _ := h4
    clear h4
    by_cases hE : err = 0
    · subst hE
      obtain ⟨z1, z2, z3⟩ := HSZ.out rfl
      have q1 : ¬ (size : Int) < 1 := by omega
      have q2 : ¬ (s.size : Int) < (size : Int) := by omega
      have q3 : ¬ (12288 : Int) < (size : Int) := by omega
      have q4 : (size : Int) ≠ 0 := by omega
      have hwi := within_ok at_ size z1
      obtain ⟨t1, t2⟩ : Int.tmod at_ size < size ∧ -size < Int.tmod at_ size := ⟨Int.tmod_lt_of_pos at_ (by omega), Int.lt_tmod_of_pos at_ (by omega)⟩
      obtain ⟨T, hT⟩ : ∃ T, Int.tmod at_ size = T := ⟨_, rfl⟩
      rw [hT] at t1 t2
      by_cases hneg : T < 0
      · obtain ⟨k, hk⟩ : ∃ k : Nat, T + size = k := ⟨(T + size).toNat, by omega⟩
        have HKE : Hid ((parseR (s.extract 0 k)).err = 4) := HFW.out k (by first | rfl | trivial) (by omega)
        have hk1 : (k : Int) ≤ (s.size : Int) := by omega
        have hk2 : k ≤ 12288 := by omega
        have HWR : Hid (IntKind.i64.wrap (T + size) = (k : Int)) := by rw [Hid, IntKind.wrap_i64]; omega
        have HTT : Hid _ := hT
        go_enter Tryd.func5, Tryd.ntmps5
        go_wp2_with fail
        refine (H3.out _ (Below.refl _ _)).mono ?_
        rintro e w1 ⟨rfl, b1⟩
        go_wp2_with fail
        refine (H1.out _ b1).mono ?_
        rintro e w2 ⟨a1, c1, rfl, hf1, b2⟩
        obtain ⟨W2, hW2⟩ : ∃ W2, w2.alloc (.cells #[.string met, .string tar, .slice a1 F c1, .string body, .bool shut] 24) = W2 := ⟨_, rfl⟩
        have HA2 : Hid (Below w2.heap.size w2 W2) := by rw [Hid, ← hW2]; exact (Below.refl _ _).alloc (Nat.le_refl _) _
        have HB2 : Hid (Below w.heap.size w W2) := (b1.trans (b2.mono b1.size)).trans (HA2.out.mono (Nat.le_trans b1.size b2.size))
        have HX2 : Hid (RB W2 w2.heap.size met tar (.slice a1 F c1) body shut) := by rw [Hid, ← hW2]; exact block_alloc_at _ _
        have HF2 : Hid (FA W2.heap.size W2 a1 fs) := (FA.below hf1 (fun b hb => HA2.out.block b hb)).up HA2.out.size
        clear b1 b2 hf1
        go_wp2_with fail
        try rw [hW2]
        refine (H2.out _ HB2.out).mono ?_
        rintro e w3 ⟨a2, c2, rfl, hf2, b3⟩
        obtain ⟨W3, hW3⟩ : ∃ W3, w3.alloc (.cells #[.string met, .string tar, .slice a2 F c2, .string body, .bool shut] 24) = W3 := ⟨_, rfl⟩
        have HA3 : Hid (Below w3.heap.size w3 W3) := by rw [Hid, ← hW3]; exact (Below.refl _ _).alloc (Nat.le_refl _) _
        have HB23 : Hid (Below W2.heap.size W2 W3) := b3.trans (HA3.out.mono b3.size)
        have HB3 : Hid (Below w.heap.size w W3) := HB2.out.trans (HB23.out.mono HB2.out.size)
        have HX3 : Hid (RB W3 w2.heap.size met tar (.slice a1 F c1) body shut) := HX2.out.below HB23.out
        have HY3 : Hid (RB W3 w3.heap.size met tar (.slice a2 F c2) body shut) := by rw [Hid, ← hW3]; exact block_alloc_at _ _
        have HF3 : Hid (FA W3.heap.size W3 a1 fs) := (FA.below HF2.out (fun b hb => HB23.out.block b hb)).up HB23.out.size
        have HG3 : Hid (FA W3.heap.size W3 a2 fs) := (FA.below hf2 (fun b hb => HA3.out.block b hb)).up HA3.out.size
        obtain ⟨k0, k1, k2, k3, k4⟩ := HX3.out.box
        obtain ⟨j0, j1, j2, j3, j4⟩ := HY3.out.box
        clear b3 hf2
        go_wp2_with fail
        try rw [hW3]
        refine (H4.out _ _ _ _ _ _ HG3.out HF3.out (Nat.le_refl _)).mono ?_
        rintro e w4 ⟨rfl, b4⟩
        have HB4 : Hid (Below w.heap.size w w4) := HB3.out.trans (b4.mono HB3.out.size)
        clear b4 k0 k1 k2 k3 k4 j0 j1 j2 j3 j4
        go_wp2_with fail
        refine (H5.out k _ hk2 HKE.out HB4.out).mono ?_
        rintro e w5 ⟨met5, tar5, va5, vn5, vc5, body5, shut5, n5, rfl, b5⟩
        go_wp2_with fail
        go_ret
        exact ⟨rfl, (HB4.out.trans (b5.mono HB4.out.size)).alloc (Nat.le_trans HB4.out.size b5.size) _⟩
      · obtain ⟨k, hk⟩ : ∃ k : Nat, T = k := ⟨T.toNat, by omega⟩
        subst hk
        have HKE : Hid ((parseR (s.extract 0 k)).err = 4) := HFW.out k (by first | rfl | trivial) (by omega)
        have hk1 : (k : Int) ≤ (s.size : Int) := by omega
        have hk2 : k ≤ 12288 := by omega
        have hk3 : (0 : Int) ≤ (k : Int) := by omega
        clear hneg
        go_enter Tryd.func5, Tryd.ntmps5
        go_wp2_with fail
        refine (H3.out _ (Below.refl _ _)).mono ?_
        rintro e w1 ⟨rfl, b1⟩
        go_wp2_with fail
        refine (H1.out _ b1).mono ?_
        rintro e w2 ⟨a1, c1, rfl, hf1, b2⟩
        obtain ⟨W2, hW2⟩ : ∃ W2, w2.alloc (.cells #[.string met, .string tar, .slice a1 F c1, .string body, .bool shut] 24) = W2 := ⟨_, rfl⟩
        have HA2 : Hid (Below w2.heap.size w2 W2) := by rw [Hid, ← hW2]; exact (Below.refl _ _).alloc (Nat.le_refl _) _
        have HB2 : Hid (Below w.heap.size w W2) := (b1.trans (b2.mono b1.size)).trans (HA2.out.mono (Nat.le_trans b1.size b2.size))
        have HX2 : Hid (RB W2 w2.heap.size met tar (.slice a1 F c1) body shut) := by rw [Hid, ← hW2]; exact block_alloc_at _ _
        have HF2 : Hid (FA W2.heap.size W2 a1 fs) := (FA.below hf1 (fun b hb => HA2.out.block b hb)).up HA2.out.size
        clear b1 b2 hf1
        go_wp2_with fail
        try rw [hW2]
        refine (H2.out _ HB2.out).mono ?_
        rintro e w3 ⟨a2, c2, rfl, hf2, b3⟩
        obtain ⟨W3, hW3⟩ : ∃ W3, w3.alloc (.cells #[.string met, .string tar, .slice a2 F c2, .string body, .bool shut] 24) = W3 := ⟨_, rfl⟩
        have HA3 : Hid (Below w3.heap.size w3 W3) := by rw [Hid, ← hW3]; exact (Below.refl _ _).alloc (Nat.le_refl _) _
        have HB23 : Hid (Below W2.heap.size W2 W3) := b3.trans (HA3.out.mono b3.size)
        have HB3 : Hid (Below w.heap.size w W3) := HB2.out.trans (HB23.out.mono HB2.out.size)
        have HX3 : Hid (RB W3 w2.heap.size met tar (.slice a1 F c1) body shut) := HX2.out.below HB23.out
        have HY3 : Hid (RB W3 w3.heap.size met tar (.slice a2 F c2) body shut) := by rw [Hid, ← hW3]; exact block_alloc_at _ _
        have HF3 : Hid (FA W3.heap.size W3 a1 fs) := (FA.below HF2.out (fun b hb => HB23.out.block b hb)).up HB23.out.size
        have HG3 : Hid (FA W3.heap.size W3 a2 fs) := (FA.below hf2 (fun b hb => HA3.out.block b hb)).up HA3.out.size
        obtain ⟨k0, k1, k2, k3, k4⟩ := HX3.out.box
        obtain ⟨j0, j1, j2, j3, j4⟩ := HY3.out.box
        clear b3 hf2
        go_wp2_with fail
        try rw [hW3]
        refine (H4.out _ _ _ _ _ _ HG3.out HF3.out (Nat.le_refl _)).mono ?_
        rintro e w4 ⟨rfl, b4⟩
        have HB4 : Hid (Below w.heap.size w w4) := HB3.out.trans (b4.mono HB3.out.size)
        clear b4 k0 k1 k2 k3 k4 j0 j1 j2 j3 j4
        go_wp2_with fail
        refine (H5.out k _ hk2 HKE.out HB4.out).mono ?_
        rintro e w5 ⟨met5, tar5, va5, vn5, vc5, body5, shut5, n5, rfl, b5⟩
        go_wp2_with fail
        go_ret
        exact ⟨rfl, (HB4.out.trans (b5.mono HB4.out.size)).alloc (Nat.le_trans HB4.out.size b5.size) _⟩
    · have hp := HN.out (by simpa using hE)
      have hz : size = 0 := by have := congrArg Ps.size hp; exact this
      subst hz
      have e3 : (err != 0) = true := by simp [hE]
      go_enter Tryd.func5, Tryd.ntmps5
      go_wp2_with fail
      refine (H3.out _ (Below.refl _ _)).mono ?_
      rintro e w1 ⟨rfl, b1⟩
      go_wp2_with fail
      refine (H1.out _ b1).mono ?_
      rintro e w2 ⟨a1, c1, rfl, hf1, b2⟩
      obtain ⟨W2, hW2⟩ : ∃ W2, w2.alloc (.cells #[.string met, .string tar, .slice a1 F c1, .string body, .bool shut] 24) = W2 := ⟨_, rfl⟩
      have HA2 : Hid (Below w2.heap.size w2 W2) := by rw [Hid, ← hW2]; exact (Below.refl _ _).alloc (Nat.le_refl _) _
      have HB2 : Hid (Below w.heap.size w W2) := (b1.trans (b2.mono b1.size)).trans (HA2.out.mono (Nat.le_trans b1.size b2.size))
      have HX2 : Hid (RB W2 w2.heap.size met tar (.slice a1 F c1) body shut) := by rw [Hid, ← hW2]; exact block_alloc_at _ _
      have HF2 : Hid (FA W2.heap.size W2 a1 fs) := (FA.below hf1 (fun b hb => HA2.out.block b hb)).up HA2.out.size
      clear b1 b2 hf1
      go_wp2_with fail
      try rw [hW2]
      refine (H2.out _ HB2.out).mono ?_
      rintro e w3 ⟨a2, c2, rfl, hf2, b3⟩
      obtain ⟨W3, hW3⟩ : ∃ W3, w3.alloc (.cells #[.string met, .string tar, .slice a2 F c2, .string body, .bool shut] 24) = W3 := ⟨_, rfl⟩
      have HA3 : Hid (Below w3.heap.size w3 W3) := by rw [Hid, ← hW3]; exact (Below.refl _ _).alloc (Nat.le_refl _) _
      have HB23 : Hid (Below W2.heap.size W2 W3) := b3.trans (HA3.out.mono b3.size)
      have HB3 : Hid (Below w.heap.size w W3) := HB2.out.trans (HB23.out.mono HB2.out.size)
      have HX3 : Hid (RB W3 w2.heap.size met tar (.slice a1 F c1) body shut) := HX2.out.below HB23.out
      have HY3 : Hid (RB W3 w3.heap.size met tar (.slice a2 F c2) body shut) := by rw [Hid, ← hW3]; exact block_alloc_at _ _
      have HF3 : Hid (FA W3.heap.size W3 a1 fs) := (FA.below HF2.out (fun b hb => HB23.out.block b hb)).up HB23.out.size
      have HG3 : Hid (FA W3.heap.size W3 a2 fs) := (FA.below hf2 (fun b hb => HA3.out.block b hb)).up HA3.out.size
      obtain ⟨k0, k1, k2, k3, k4⟩ := HX3.out.box
      obtain ⟨j0, j1, j2, j3, j4⟩ := HY3.out.box
      clear b3 hf2
      go_wp2_with fail
      try rw [hW3]
      refine (H4.out _ _ _ _ _ _ HG3.out HF3.out (Nat.le_refl _)).mono ?_
      rintro e w4 ⟨rfl, b4⟩
      have HB4 : Hid (Below w.heap.size w w4) := HB3.out.trans (b4.mono HB3.out.size)
      clear b4 k0 k1 k2 k3 k4 j0 j1 j2 j3 j4
      go_wp2_with fail
      go_ret
      exact ⟨rfl, HB4.out⟩
end Go.Proofs.YthhhoppmbimeiaaDoor
