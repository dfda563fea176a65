/-
  The contract of the twin of Build.
-/
import Derived.Test.YtoopgddhkdekmaaRmerge
import Derived.Test.YtoopgddhkdekmaaFMath
import Derived.LoopTactic
import Derived.Deep.Cut
import Derived.RegionTactic
import Derived.BigRegion
namespace Go.Proofs.Ytoopgddhkdekmaa
open Go.RowKit
theorem placeN_lt (key : ByteArray) {m : Nat} (h : 0 < m) (i : Nat) : placeN key m i < m := Nat.mod_lt _ h
set_option maxRecDepth 100000 in
set_option maxHeartbeats 8000000 in
theorem rbuild_any (a : Option Addr) (ca : Nat) (ks : List ByteArray) (bt : Nat) (w : World) (hks : StrsAt w a ks) (hss : ∀ s ∈ ks, s.size ≤ 140737488355328) (h1 : 1 ≤ bt) (h32 : bt ≤ 32) (hn : ks.length ≤ 65536) :
    Calls Try.prog 11 #[.slice a ks.length ca, .int .i64 bt] w fun r w' => ∃ g, r = .returned (.tuple #[.slice (some ⟨g, 0, none⟩) (sizeOfF ks.length bt + 1) (sizeOfF ks.length bt + 1), .int .i64 0]) ∧ OR w w' g (sizeOfF ks.length bt + 1) (sizeOfF ks.length bt + 1) (buildF ks bt) := by
  obtain ⟨i0, hi, hz0, hz1, hz2⟩ := info_parts info5
  obtain ⟨n, hnd⟩ : ∃ n, ks.length = n := ⟨_, rfl⟩
  obtain ⟨P, hP⟩ : ∃ P, n * bt = P := ⟨_, rfl⟩
  have hPl : P ≤ 2097152 := by rw [← hP]; exact Nat.mul_le_mul (by omega : n ≤ 65536) h32
  obtain ⟨Mx, hMx⟩ : ∃ Mx, max P 64 = Mx := ⟨_, rfl⟩
  obtain ⟨S, hS⟩ : ∃ S, (Mx + 7) / 8 = S := ⟨_, rfl⟩
  obtain ⟨k0, hk0⟩ : ∃ k0, bt * 69 / 100 = k0 := ⟨_, rfl⟩
  obtain ⟨k, hk⟩ : ∃ k, max k0 1 = k := ⟨_, rfl⟩
  have HSZ : Hid (sizeOfF ks.length bt = S) := by rw [Hid, sizeOfF, hnd, hP, hMx, hS]
  have HKO : Hid (kOf bt = k) := by rw [Hid, kOf, hk0, hk]; omega
  have hmul : (n : Int) * (bt : Int) = (P : Int) := by rw [← hP]; push_cast; rfl
  have hquo : ((Mx : Int) + 7) / 8 = (S : Int) := by omega
  have hquo2 : (bt : Int) * 69 / 100 = (k0 : Int) := by omega
  have hkw : IntKind.u8.wrap (k : Int) = (k : Int) := by rw [IntKind.wrap_u8]; omega
  have hS8 : 8 ≤ S := by omega
  have hSl : S ≤ 262145 := by omega
  have hkb : 1 ≤ k ∧ k ≤ 22 := by omega
  have HMxl : Mx ≤ 2097152 := by omega
  have hk0l : k0 ≤ 22 := by omega
  have HN : Hid _ := hnd
  have HKS : Hid _ := hks
  have HSS : Hid _ := hss
  have hn' : n ≤ 65536 := by omega
  have HMC : Hid (P < 64 ∧ Mx = 64 ∨ ¬ P < 64 ∧ Mx = P) := by by_cases h : P < 64; exact Or.inl ⟨h, by omega⟩; exact Or.inr ⟨h, by omega⟩
  have HKC : Hid (k0 < 1 ∧ k = 1 ∨ ¬ k0 < 1 ∧ k = k0) := by by_cases h : k0 < 1; exact Or.inl ⟨h, by omega⟩; exact Or.inr ⟨h, by omega⟩
  obtain ⟨M, hM⟩ : ∃ M, S * 8 = M := ⟨_, rfl⟩
  have hMi : (S : Int) * 8 = (M : Int) := by omega
  have hMq : (M : Int) / 8 = (S : Int) := by omega
  have hMl : M ≤ 2097160 := by omega
  have hM0 : 0 < M := by omega
  have HM : Hid _ := hM
  have HP : Hid (∀ (W : World) (key : ByteArray) (i : Nat), key.size ≤ 140737488355328 → i < 256 → Calls Try.prog 42 #[.string key, .int .i64 i, .int .i64 M] W fun r w' => r = .returned (.int .i64 (placeN key M i : Nat)) ∧ w' = W) := fun W key i hk hi => place_any key i M W hk hi hM0 (by omega)
  rw [HSZ.out, hnd]
  clear hP hMx hS hk0 hk hnd hks hss hn hM
  go_enter Try.func11, Try.ntmps11
  go_upto_if 26 with fail
  go_cut [6] from 25 (fun s wc => s = .int .i64 (Mx : Nat) ∧ wc = w)
  case first =>
    rcases HMC.out with ⟨h, rfl⟩ | ⟨h, rfl⟩
    · go_wp2_with fail
      go_meet
      case rel => exact ⟨rfl, rfl⟩
    · go_wp2_with fail
      go_meet
      case rel => exact ⟨rfl, rfl⟩
  case rest =>
  obtain ⟨rfl, rfl⟩ := hcut
  go_upto_if 35 with fail
  go_cut [7] from 25 (fun s w2 => s = .int .i64 (k : Nat) ∧ w2 = wc)
  case first =>
    rcases HKC.out with ⟨h, rfl⟩ | ⟨h, rfl⟩
    · go_wp2_with fail
      go_meet
      case rel => exact ⟨rfl, rfl⟩
    · go_wp2_with fail
      go_meet
      case rel => exact ⟨rfl, rfl⟩
  case rest =>
  rename_i w0
  obtain ⟨rfl, rfl⟩ := hcut
  go_upto_region 15 with (refine wpList_make_full _ rfl _ _ 24 rfl wc.heap.size 5 i0 (.int .u8 0) 1 Try.underlying24 hi hz0 hz1 .i64 .i64 _ _ (S + 1) rfl rfl (by push_cast; rfl) (by push_cast; rfl) (by rw [hz2]; omega) (by unfold maxLen; omega) (Nat.le_refl _) ?_; intro w1 hown1 hg1)
  have B1 : Below wc.heap.size wc w1 := (Below.refl _ wc).grown hg1 (Nat.le_refl _) (fun k e => by cases e)
  rw [made_zero] at hown1
  have S0 : OR wc w1 wc.heap.size (S + 1) (S + 1) (List.replicate (S + 1) 0) := ⟨hown1, by simp, B1⟩
  obtain ⟨g, hg⟩ : ∃ g, wc.heap.size = g := ⟨_, rfl⟩
  rw [hg] at S0
  rw [hg]
  have c2 := S0.cell (j := S) (by omega)
  have f2 := S0.free S
  have S1 := S0.set S (UInt8.ofNat k)
  have hkt : ((UInt8.ofNat k).toNat : Int) = (k : Int) := by
    have : (UInt8.ofNat k).toNat = k := by simp; omega
    omega
  rw [hkt] at S1
  have HZ : Hid ((List.replicate (S + 1) (0 : UInt8)).set S (UInt8.ofNat k) = zeroF S k) := by
    rw [Hid, zeroF, List.replicate_succ', List.set_append_right _ _ (by simp)]
    simp
  rw [HZ.out] at S1
  clear hown1 hg1 B1 hkt hg
  go_wp2_with fail
  generalize w1.setCell ⟨g, S, none⟩ (.int .u8 (k : Int)) = W2 at *
  clear c2 f2 S0
  go_loopw [9] (fun i wr => ∃ j : Nat, j ≤ n ∧ i = .int .i64 j ∧ OR wc wr g (S + 1) (S + 1) ((ks.take j).foldl (addKey M k) (zeroF S k))) (fun i _ => n - (intOf i).toNat)
  case atStart => exact ⟨0, by omega, rfl, S1⟩
  case round =>
    obtain ⟨j, hj, rfl, hR⟩ := hrel
    clear S1
    by_cases hlt : j < n
    · obtain ⟨key, hkey⟩ : ∃ key, ks[j]? = some key := ⟨ks[j]'(by rw [HN.out]; exact hlt), List.getElem?_eq_getElem _⟩
      obtain ⟨b, off, rfl, hb, hc⟩ := HKS.out j key hkey
      have hkz := HSS.out key (List.mem_of_getElem? hkey)
      have HTK : Hid ((ks.take (j + 1)).foldl (addKey M k) (zeroF S k) = addKey M k ((ks.take j).foldl (addKey M k) (zeroF S k)) key) := by
        rw [Hid, List.take_add_one, hkey, Option.toList_some, List.foldl_append]; rfl
      generalize (ks.take j).foldl (addKey M k) (zeroF S k) = cur at *
      have HAK : Hid ((List.range k).foldl (fun b i => setBit b (placeN key M i)) cur = addKey M k cur key) := rfl
      have HC : Hid _ := hc
      have HKEY : Hid _ := hkey
      clear hc hkey
      go_wp2_with fail
      go_loopw [10] (fun i wr => ∃ t : Nat, t ≤ k ∧ i = .int .i64 t ∧ OR wc wr g (S + 1) (S + 1) ((List.range t).foldl (fun b i => setBit b (placeN key M i)) cur)) (fun i _ => k - (intOf i).toNat)
      case atStart => exact ⟨0, by omega, rfl, hR⟩
      case round =>
        obtain ⟨t, ht, rfl, hR2⟩ := hrel
        clear hR
        by_cases htl : t < k
        · have hcc := (hR2.bel.cell (p := ⟨b, off + j, none⟩) hb).trans HC.out
          have HNX : Hid ((List.range (t + 1)).foldl (fun b i => setBit b (placeN key M i)) cur = setBit ((List.range t).foldl (fun b i => setBit b (placeN key M i)) cur) (placeN key M t)) := by rw [Hid, List.range_succ, List.foldl_append]; rfl
          generalize (List.range t).foldl (fun b i => setBit b (placeN key M i)) cur = cu at *
          have hpl := HP.out wr key t hkz (by omega)
          have hpm := placeN_lt key hM0 t
          obtain ⟨p, hp⟩ : ∃ p, placeN key M t = p := ⟨_, rfl⟩
          rw [hp] at hpl hpm HNX
          have hq : p / 8 < S + 1 := by have := HM.out; omega
          have hbx := hR2.cell hq
          have hfx := hR2.free (p / 8)
          have hcl : (cu.getD (p / 8) 0).toNat < 256 := UInt8.toNat_lt _
          have hbl := bitN_lt2 p
          have hor := u8_or_nat (cu.getD (p / 8) 0).toNat (bitN p) hcl hbl
          have hol : (cu.getD (p / 8) 0).toNat ||| bitN p < 256 := Nat.or_lt_two_pow (n := 8) hcl hbl
          have HSB : Hid (setBit cu p = cu.set (p / 8) (UInt8.ofNat ((cu.getD (p / 8) 0).toNat ||| bitN p))) := rfl
          have hsh : (2 : Int) ^ (p % 8) = ((bitN p : Nat) : Int) := by rw [bitN]; push_cast; rfl
          obtain ⟨c, hcd⟩ : ∃ c, (cu.getD (p / 8) 0).toNat = c := ⟨_, rfl⟩
          obtain ⟨u, hud⟩ : ∃ u, bitN p = u := ⟨_, rfl⟩
          rw [hcd] at hbx hor HSB hcl hol
          rw [hud] at hor HSB hbl hol hsh
          obtain ⟨z, hz⟩ : ∃ z, c ||| u = z := ⟨_, rfl⟩
          rw [hz] at hor HSB hol
          have hr8 : p % 8 < 8 := Nat.mod_lt _ (by decide)
          have hqd : (p : Int) / 8 = ((p / 8 : Nat) : Int) := by omega
          have hrd : (p : Int) % 8 = ((p % 8 : Nat) : Int) := by omega
          generalize p / 8 = q at *
          generalize p % 8 = r at *
          have HOUT : Hid (OR wc (wr.setCell ⟨g, q, none⟩ (.int .u8 (z : Int))).drew g (S + 1) (S + 1) ((List.range (t + 1)).foldl (fun b i => setBit b (placeN key M i)) cur)) := by
            rw [Hid, HNX.out, HSB.out]
            have e := (hR2.set q (UInt8.ofNat z)).drew
            rw [show ((UInt8.ofNat z).toNat : Int) = (z : Int) from by have : (UInt8.ofNat z).toNat = z := (by simp; omega); omega] at e
            exact e
          clear hcd hud hz hp hR2
          go_wp2_with fail
          refine hpl.mono ?_
          rintro e w2 ⟨rfl, hw2⟩
          subst hw2
          go_wp2_with fail
          go_region
          all_goals go_wp2_with fail
          all_goals exact ⟨⟨t + 1, by omega, by go_num, HOUT.out⟩, by simp [intOf]; omega⟩
        · obtain rfl : t = k := by omega
          rw [HAK.out, ← HTK.out] at hR2
          go_wp2_with fail
          go_roundw
          case rel => exact ⟨j + 1, by omega, by go_num, hR2⟩
          case measure => simp [intOf]; omega
    · obtain rfl : j = n := by omega
      have HE : Hid (buildF ks bt = (ks.take j).foldl (addKey M k) (zeroF S k)) := by
        rw [Hid, List.take_of_length_le (by rw [HN.out]; exact Nat.le_refl _), buildF, HSZ.out, HKO.out, HM.out]
      rw [← HE.out] at hR
      go_wp2_with fail
      go_ret2
      exact ⟨g, rfl, hR⟩
end Go.Proofs.Ytoopgddhkdekmaa
