/-
  The contracts of the twin's high and fragment.
-/
import Derived.Test.YtefigcnfcbdecaaLay
namespace Go.Proofs.Ytefigcnfcbdecaa
open Go.RowKit
theorem owns_mono {W : World} {base base' : Nat} {e : TypeId} {size : Nat} {v : Value} {n : Nat} {xs : List Value} (h : W.ownsRow base e size v n xs) (hb : base' ≤ base) : W.ownsRow base' e size v n xs := by
  refine ⟨h.1, ?_⟩
  rcases h.2 with h0 | ⟨g, cap, cur, hv, hB, rest⟩
  · exact Or.inl h0
  · exact Or.inr ⟨g, cap, cur, hv, Nat.le_trans hb hB, rest⟩
/-- A number's lowest bytes, the highest first. -/
def beL : Nat → Nat → List UInt8
  | 0, _ => []
  | i + 1, x => bt (x / 256 ^ i) :: beL i x
theorem beL_len (x : Nat) : ∀ i, (beL i x).length = i
  | 0 => rfl
  | i + 1 => by rw [beL, List.length_cons, beL_len x i]
def hiRow (n i x : Nat) : List UInt8 := List.replicate (n - i) 0 ++ beL i x
theorem hiRow_len {n i : Nat} (x : Nat) (h : i ≤ n) : (hiRow n i x).length = n := by rw [hiRow, List.length_append, List.length_replicate, beL_len]; omega
theorem hiRow_step {n i : Nat} (x : Nat) (h : i < n) : (hiRow n i x).set (n - 1 - i) (bt (x / 256 ^ i)) = hiRow n (i + 1) x := by
  obtain ⟨k, hk⟩ : ∃ k, n - i = k + 1 := ⟨n - i - 1, by omega⟩
  rw [hiRow, hiRow, hk, show n - 1 - i = k by omega, show n - (i + 1) = k by omega, List.replicate_succ', List.append_assoc, List.set_append_right _ _ (by simp), List.length_replicate, Nat.sub_self]
  rfl
set_option maxRecDepth 100000 in
set_option maxHeartbeats 2000000 in
theorem high_any (x n : Nat) (w : World) (hx : x < 18446744073709551616) (hn : n ≤ 8) (hn0 : 0 < n) :
    Calls Try.prog 36 #[.int .u64 x, .int .i64 n] w fun r w' => ∃ g, r = .returned (.slice (some ⟨g, 0, none⟩) n n) ∧ OR w w' g n n (beL n x) := by
  obtain ⟨i0, hi, hz0, hz1, hz2⟩ := info_parts info5
  go_enter Try.func36, Try.ntmps36
  go_upto_region 2 with (refine wpList_make_full _ rfl _ _ 33 rfl w.heap.size 5 i0 (.int .u8 0) 1 Try.underlying33 hi hz0 hz1 .i64 .i64 _ _ n rfl rfl rfl rfl (by rw [hz2]; omega) (by unfold maxLen; omega) (Nat.le_refl _) ?_; intro w1 hown1 hg1)
  have B1 : Below w.heap.size w w1 := (Below.refl _ w).grown hg1 (Nat.le_refl _) (fun k e => by cases e)
  rw [made_zero] at hown1
  have S0 : OR w w1 w.heap.size n n (hiRow n 0 x) := ⟨by rw [hiRow]; simp only [beL, List.append_nil, Nat.sub_zero]; exact hown1, hiRow_len x (Nat.zero_le _), B1⟩
  obtain ⟨g, hg⟩ : ∃ g, w.heap.size = g := ⟨_, rfl⟩
  rw [hg] at S0
  rw [hg]
  clear hown1 hg1 B1 hg
  go_wp2_with fail
  go_loopw [0, 6] (fun r0 r6 wr => ∃ i : Nat, i ≤ n ∧ r6 = .int .i64 (i : Nat) ∧ r0 = .int .u64 (x / 256 ^ i : Nat) ∧ OR w wr g n n (hiRow n i x)) (fun _ r6 _ => n - (intOf r6).toNat)
  case atStart => exact ⟨0, by omega, rfl, by simp, S0⟩
  case round =>
    obtain ⟨i, hin, rfl, rfl, hR⟩ := hrel
    clear S0
    have hyl : x / 256 ^ i < 18446744073709551616 := Nat.lt_of_le_of_lt (Nat.div_le_self _ _) hx
    have hnx : ((x / 256 ^ i : Nat) : Int) / 256 = ((x / 256 ^ (i + 1) : Nat) : Int) := by
      rw [Nat.pow_succ, ← Nat.div_div_eq_div_mul]; omega
    have hbt := bt_mod (x / 256 ^ i)
    by_cases hlt : i < n
    · have hs := hR.set (n - 1 - i) (bt (x / 256 ^ i))
      rw [hiRow_step x hlt] at hs
      have hcc := hR.cell (j := n - 1 - i) (by omega)
      have hff := hR.free (n - 1 - i)
      obtain ⟨m, hm⟩ : ∃ m, n - 1 - i = m := ⟨_, rfl⟩
      have hmi : (n : Int) - 1 - (i : Int) = (m : Int) := by omega
      have hmn : m < n := by omega
      rw [hm] at hs hcc hff
      have HS : Hid _ := hs
      obtain ⟨y', hy'⟩ : ∃ y', x / 256 ^ (i + 1) = y' := ⟨_, rfl⟩
      have HY : Hid _ := hy'
      rw [hy'] at hnx
      clear hy'
      generalize ((bt (x / 256 ^ i)).toNat : Int) = b at *
      generalize x / 256 ^ i = y at *
      clear hm hs hR
      go_wp2_with fail
      go_roundw
      case rel => exact ⟨i + 1, by omega, by go_num, by rw [HY.out], HS.out⟩
      case measure => simp [intOf]; omega
    · obtain rfl : i = n := by omega
      have HE : Hid (hiRow i i x = beL i x) := by rw [Hid, hiRow, Nat.sub_self]; rfl
      rw [HE.out] at hR
      clear hnx hbt hyl
      go_wp2_with fail
      go_ret
      exact ⟨g, rfl, hR⟩
theorem one_row (W : World) (c : UInt8) : (W.alloc (.cells #[.int .u8 (c.toNat : Nat)] 5)).ownsRow W.heap.size 5 1 (.slice (some ⟨W.heap.size, 0, none⟩) 1 1) 1 (bl [c]) := by
  refine ⟨rfl, Or.inr ⟨W.heap.size, 1, #[.int .u8 (c.toNat : Nat)], rfl, Nat.le_refl _, World.alloc_heap_new W _, Nat.le_refl _, by unfold maxLen; omega, rfl, ?_⟩⟩
  rfl
theorem beL4 (s : Nat) : beL 4 s = [bt (s / 16777216), bt (s / 65536), bt (s / 256), bt s] := by simp [beL]
theorem beL2 (s : Nat) : beL 2 s = [bt (s / 256), bt s] := by simp [beL]
set_option maxRecDepth 100000 in
set_option maxHeartbeats 4000000 in
theorem fragment_any (c : UInt8) (p : ByteArray) (w : World) (hp : p.size ≤ 1000000) :
    Calls Try.prog 28 #[.int .u8 (c.toNat : Nat), .string p] w fun r w' => ∃ v, r = .returned v ∧ w'.ownsRow w.heap.size 5 1 v (fragL c p.data.toList).length (bl (fragL c p.data.toList)) ∧ Below w.heap.size w w' := by
  obtain ⟨i0, hi, hz0, hz1, hz2⟩ := info_parts info5
  obtain ⟨s, hs⟩ : ∃ s, sumF c p.data.toList = s := ⟨_, rfl⟩
  have hsl : s < 4294967296 := by rw [← hs]; exact Cx.crc_lt _
  have HC : Hid (∀ W : World, Calls Try.prog 35 #[.string ⟨(c :: p.data.toList).toArray⟩] W fun e w' => e = .returned (.int .u32 (s : Nat)) ∧ w' = W) := fun W => by
    have h := refCrc_any ⟨(c :: p.data.toList).toArray⟩ W (by unfold maxLen; show (c :: p.data.toList).toArray.size ≤ _; simp; omega)
    rw [show (ByteArray.mk (c :: p.data.toList).toArray).data.toList = c :: p.data.toList from rfl, show Cx.crc (c :: p.data.toList) = s from hs] at h
    exact h
  have HFR : Hid (fragL c p.data.toList = beL 4 s ++ beL 2 p.size ++ [c] ++ p.data.toList) := by
    rw [Hid, fragL, headL, hs, beL4, beL2]
    simp
  have hpl : p.data.toList.length = p.size := by simp
  have r0 := one_row w c
  have B0 : Below w.heap.size w (w.alloc (.cells #[.int .u8 (c.toNat : Nat)] 5)) := (Below.refl _ w).alloc (Nat.le_refl _) _
  clear hs
  go_enter Try.func28, Try.ntmps28
  go_wp2_with (at_builtin; refine Lib.wpList_append_own_string _ rfl (.tmp 8) (.tmp 9) 33 9 rfl w.heap.size 5 i0 Try.underlying33 Try.underlying9 hi hz0 hz1 hz2 _ _ _ rfl r0 p rfl (by unfold maxLen; omega) (by omega) B0.size ?_; intro v1 w1 hown1 hg1 hnn1; obtain ⟨a1, c1, rfl⟩ := form_of_row hown1; have hcv : (convert 33 9 (.slice a1 (1 + p.size) c1)).run Try.prog w1 = .ok (.string ⟨(c :: p.data.toList).toArray⟩) w1 := ?cv)
  case cv =>
    have e : (c :: p.data.toList).length = 1 + p.size := by rw [List.length_cons, hpl]; omega
    have h := conv_row (W := w1) (base := w.heap.size) (bs := c :: p.data.toList) (a := a1) (cap := c1) (by rw [e]; exact hown1)
    rw [e] at h
    exact h
  have B1 : Below w.heap.size w w1 := B0.grown hg1 B0.size (fun k e => (r0.lt k e).1)
  clear hown1 hg1 hnn1 r0 B0 hcv
  refine (HC.out _).mono ?_
  rintro e w1' ⟨rfl, hw⟩
  subst hw
  have HH4 : Hid (∀ W : World, Calls Try.prog 36 #[.int .u64 (s : Nat), .int .i64 4] W fun r w' => ∃ g, r = .returned (.slice (some ⟨g, 0, none⟩) 4 4) ∧ OR W w' g 4 4 (beL 4 s)) := fun W => high_any s 4 W (by omega) (by decide) (by decide)
  have HH2 : Hid (∀ W : World, Calls Try.prog 36 #[.int .u64 (p.size : Nat), .int .i64 2] W fun r w' => ∃ g, r = .returned (.slice (some ⟨g, 0, none⟩) 2 2) ∧ OR W w' g 2 2 (beL 2 p.size)) := fun W => high_any p.size 2 W (by omega) (by decide) (by decide)
  go_wp2_with fail
  refine (HH4.out _).mono ?_
  rintro e w2 ⟨gA, rfl, oA⟩
  have B2 : Below w.heap.size w w2 := B1.trans (oA.bel.mono B1.size)
  have rA : w2.ownsRow w.heap.size 5 1 (.slice (some ⟨gA, 0, none⟩) 4 4) 4 (bl (beL 4 s)) := owns_mono oA.row B1.size
  clear oA B1
  go_wp2_with fail
  refine (HH2.out _).mono ?_
  rintro e w3 ⟨gB, rfl, oB⟩
  have B3 : Below w.heap.size w w3 := B2.trans (oB.bel.mono B2.size)
  have rA3 : w3.ownsRow w.heap.size 5 1 (.slice (some ⟨gA, 0, none⟩) 4 4) 4 (bl (beL 4 s)) := owns_same rA (fun g hg => oB.bel.block g (rA.lt g hg).2)
  have nB : ∀ j u, (bl (beL 2 p.size))[j]? = some u → w3.cell? ((⟨gB, 0, none⟩ : Addr).add j) = some u := cells_of_bytes oB.bytes
  have HRA : Hid _ := rA3
  have HNB : Hid _ := nB
  have hl2 : (bl (beL 2 p.size)).length = 2 * 1 := by rw [bl_len, beL_len]
  clear rA rA3 nB oB B2
  go_upto_region 3 with (at_builtin; refine wpList_append_own _ rfl (.tmp 15) (.tmp 19) 33 rfl w.heap.size 5 i0 (.int .u8 0) 1 1 Try.underlying33 hi hz0 hz1 hz2 rfl (by decide) _ _ _ rfl HRA.out ⟨gB, 0, none⟩ 2 2 (bl (beL 2 p.size)) rfl hl2 HNB.out (bl_one _) (by decide) (by decide) B3.size ?_; intro v4 w4 hown4 hg4 hnn4)
  have B4 : Below w.heap.size w w4 := B3.grown hg4 B3.size (fun k e => (World.ownsRow.lt HRA.out k e).1)
  have HO4 : Hid ((w4.alloc (.cells #[.int .u8 (c.toNat : Nat)] 5)).ownsRow w.heap.size 5 1 v4 6 (bl (beL 4 s) ++ bl (beL 2 p.size))) := World.ownsRow.alloc hown4 _
  have o4 : ∀ k, v4.ownBlock = some k → w.heap.size ≤ k := fun k e => (hown4.lt k e).1
  have n1 : ∀ j u, (bl [c])[j]? = some u → (w4.alloc (.cells #[.int .u8 (c.toNat : Nat)] 5)).cell? ((⟨w4.heap.size, 0, none⟩ : Addr).add j) = some u := by
    intro j u hj
    have h0 : j = 0 := by have := (List.getElem?_eq_some_iff.1 hj).1; simp [bl] at this; omega
    subst h0
    simp [bl] at hj
    rw [addr_add, ← hj]
    go_simp
  have HN1 : Hid _ := n1
  have B4' : Below w.heap.size w (w4.alloc (.cells #[.int .u8 (c.toNat : Nat)] 5)) := B4.alloc B4.size _
  clear hown4 hg4 hnn4 HRA HNB n1
  go_wp2_with (first
    | (at_builtin; refine wpList_append_own _ rfl (.tmp 21) (.tmp 23) 33 rfl w.heap.size 5 i0 (.int .u8 0) 1 1 Try.underlying33 hi hz0 hz1 hz2 rfl (by decide) _ _ _ rfl HO4.out ⟨w4.heap.size, 0, none⟩ 1 1 (bl [c]) rfl rfl HN1.out (bl_one _) (by decide) (by decide) B4'.size ?_; intro v5 w5 hown5 hg5 hnn5; have B5 := Below.grown B4' hg5 B4'.size o4; have o5 := fun k (e : v5.ownBlock = some k) => (World.ownsRow.lt hown5 k e).1; have HO5 : Hid _ := hown5; clear hown5 hg5 hnn5)
    | (at_builtin; refine Lib.wpList_append_own_string _ rfl (.tmp 24) (.tmp 25) 33 9 rfl w.heap.size 5 i0 Try.underlying33 Try.underlying9 hi hz0 hz1 hz2 _ _ _ rfl HO5.out p rfl (by unfold maxLen; omega) (by omega) B5.size ?_; intro v6 w6 hown6 hg6 hnn6))
  have B6 : Below w.heap.size w w6 := B5.grown hg6 B5.size o5
  have HR : Hid (w6.ownsRow w.heap.size 5 1 v6 (fragL c p.data.toList).length (bl (fragL c p.data.toList))) := by
    have e1 : bl (fragL c p.data.toList) = bl (beL 4 s) ++ bl (beL 2 p.size) ++ bl [c] ++ Lib.strCells p := by
      rw [HFR.out, strCells_bl]
      simp [bl]
    have e2 : (fragL c p.data.toList).length = 6 + 1 + p.size := by
      rw [HFR.out, List.length_append, List.length_append, List.length_append, beL_len, beL_len, hpl]
      rfl
    rw [Hid, e1, e2]
    exact hown6
  clear hown6 hg6 hnn6
  go_ret
  exact ⟨v6, rfl, HR.out, B6⟩
/-- The twin's fragments: noughts where a block's rest is too short, else a fragment. -/
theorem left_step (at_ m : Nat) : leftN (at_ + m) = 1024 - (at_ + m) % 1024 := rfl
end Go.Proofs.Ytefigcnfcbdecaa
