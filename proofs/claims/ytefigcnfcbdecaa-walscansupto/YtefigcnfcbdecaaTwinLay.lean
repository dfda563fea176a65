/-
  The contract of the twin's lay: a record's bytes behind so many of a log.
-/
import Derived.Test.YtefigcnfcbdecaaTwin
namespace Go.Proofs.Ytefigcnfcbdecaa
open Go.RowKit
/-- What is still to come behind so many bytes. -/
def toCome (g : Nat) (pos : Nat) (first : Bool) (rec : List UInt8) : List UInt8 :=
  if leftN pos < 7 then List.replicate (leftN pos) 0 ++ layR g first 1017 rec else layR g first (leftN pos - 7) rec
theorem layL_toCome (at_ : Nat) (rec : List UInt8) : layL at_ rec = toCome (rec.length + 2) at_ true rec := by
  unfold layL toCome skipN roomN
  split <;> rfl
theorem form_pos {w : World} {base : Nat} {v : Value} {n : Nat} {xs : List Value} (h : w.ownsRow base 5 1 v n xs) (hn : 0 < n) : ∃ g cap, v = .slice (some ⟨g, 0, none⟩) n cap := by
  rcases h.2 with ⟨_, h0⟩ | ⟨g, cap, _, rfl, _⟩
  · omega
  · exact ⟨g, cap, rfl⟩
theorem frag_len (c : UInt8) (p : List UInt8) : (fragL c p).length = 7 + p.length := by
  rw [fragL, List.length_append]
  rfl
theorem news_of {W : World} {base g n cap : Nat} {xs : List Value} (h : W.ownsRow base 5 1 (.slice (some ⟨g, 0, none⟩) n cap) n xs) : ∀ j u, xs[j]? = some u → W.cell? ((⟨g, 0, none⟩ : Addr).add j) = some u := h.cells rfl
set_option maxRecDepth 100000 in
set_option maxHeartbeats 8000000 in
theorem rlay_any (at_ : Nat) (rec : ByteArray) (w : World) (hat : at_ ≤ 1048576) (hrec : rec.size ≤ 262144) :
    Calls Try.prog 23 #[.int .i64 at_, .string rec] w fun r w' => ∃ v, r = .returned v ∧ w'.ownsRow w.heap.size 5 1 v (layL at_ rec.data.toList).length (bl (layL at_ rec.data.toList)) ∧ Below w.heap.size w w' := by
  obtain ⟨i0, hi, hz0, hz1, hz2⟩ := info_parts info5
  have HL0 : Hid (toCome (rec.size + 2) (at_ + 0) true rec.data.toList = layL at_ rec.data.toList) := by rw [Hid, layL_toCome]; simp
  have HLL : Hid ((layL at_ rec.data.toList).length ≤ 1000000) := by
    rw [Hid, layL_len, spanN]
    have h1 : rec.data.toList.length = rec.size := by simp
    have h2 : skipN at_ ≤ 6 := by unfold skipN; split <;> omega
    split <;> omega
  generalize layL at_ rec.data.toList = all at *
  go_enter Try.func23, Try.ntmps23
  go_wp2_with fail
  go_loopg [1, 5, 6] (rec.size + 3) (fun gk r1 r5 r6 wr => ∃ (g : Nat) (acc : List UInt8) (first : Bool) (rc : ByteArray), r1 = .string rc ∧ r6 = .bool first ∧ wr.ownsRow w.heap.size 5 1 r5 acc.length (bl acc) ∧ Below w.heap.size w wr ∧ Hid (acc ++ toCome g (at_ + acc.length) first rc.data.toList = all) ∧ rc.size + 2 ≤ g + (if leftN (at_ + acc.length) = 7 then 0 else 1) ∧ g + (if leftN (at_ + acc.length) < 7 then 1 else 0) ≤ gk ∧ rc.size ≤ 262144)
  case atStart => exact ⟨rec.size + 2, [], true, rec, rfl, rfl, World.ownsRow_nil _ _ _ _, Below.refl _ _, HL0, by split <;> omega, by split <;> omega, hrec⟩
  case round =>
    obtain ⟨g, acc, first, rc, rfl, rfl, hown, hB, HA, hfu, hgk, hrcs⟩ := hrel
    clear HL0
    obtain ⟨va, vc, rfl⟩ := form_of_row hown
    have hal : acc.length ≤ 1000000 := by have := HLL.out; rw [← HA.out, List.length_append] at this; omega
    obtain ⟨lf, hlf⟩ : ∃ lf, leftN (at_ + acc.length) = lf := ⟨_, rfl⟩
    have hmod : ((at_ : Int) + (acc.length : Int)) % 1024 = (((at_ + acc.length) % 1024 : Nat) : Int) := by omega
    have hml : (at_ + acc.length) % 1024 < 1024 := Nat.mod_lt _ (by decide)
    have hlfi : (1024 : Int) - (((at_ + acc.length) % 1024 : Nat) : Int) = (lf : Int) := by rw [← hlf, leftN]; omega
    have hlf1 : 1 ≤ lf ∧ lf ≤ 1024 := by rw [← hlf, leftN]; omega
    have HMD : Hid ((at_ + acc.length) % 1024 + lf = 1024) := by rw [Hid, ← hlf, leftN]; omega
    generalize hmm : (at_ + acc.length) % 1024 = md at *
    have HMM : Hid _ := hmm
    rw [hlf] at hfu hgk
    have HLF : Hid _ := hlf
    have hrl : rc.data.toList.length = rc.size := by simp
    clear hmm hlf
    by_cases h7 : lf < 7
    · have HA2 : Hid ((acc ++ List.replicate lf 0) ++ layR g first 1017 rc.data.toList = all) := by rw [Hid, ← HA.out, toCome, HLF.out, if_pos h7, List.append_assoc]
      have HL2 : Hid (leftN (at_ + (acc ++ List.replicate lf 0).length) = 1024) := by
        rw [Hid, leftN, List.length_append, List.length_replicate]
        have h1 := HMD.out
        have h2 := HMM.out
        omega
      rw [if_pos h7] at hgk
      have hO : ∀ k, (Value.slice va acc.length vc).ownBlock = some k → w.heap.size ≤ k := fun k e => (hown.lt k e).1
      have HO : Hid _ := hown
      clear hown
      go_wp2_with (at_builtin; refine wpList_append_zeros rfl (.tmp 19) (.tmp 20) rfl w.heap.size _ _ _ rfl HO.out lf rfl (by omega) hB.size ?_; intro v2 w2 hown2 hg2 hnn)
      have hB2 : Below w.heap.size w w2 := hB.grown hg2 hB.size hO
      have hown2' : w2.ownsRow w.heap.size 5 1 v2 (acc ++ List.replicate lf 0).length (bl (acc ++ List.replicate lf 0)) := by
        rw [List.length_append, List.length_replicate, show bl (acc ++ List.replicate lf 0) = bl acc ++ List.replicate lf z0 by simp [bl, z0]]
        exact hown2
      go_roundg g
      case measure => omega
      case rel =>
        refine ⟨g, acc ++ List.replicate lf 0, first, rc, rfl, rfl, hown2', hB2, ?_, ?_, ?_, hrcs⟩
        · rw [Hid, toCome, HL2.out, if_neg (by decide)]
          exact HA2.out
        · rw [HL2.out]
          split at hfu <;> simp <;> omega
        · rw [HL2.out]
          simp
    · have hroom : ∃ room, lf = room + 7 := ⟨lf - 7, by omega⟩
      obtain ⟨room, rfl⟩ := hroom
      rw [if_neg h7] at hgk
      have HA2 : Hid (acc ++ layR g first room rc.data.toList = all) := by rw [Hid, ← HA.out, toCome, HLF.out, if_neg h7, Nat.add_sub_cancel]
      obtain ⟨g', rfl⟩ : ∃ g', g = g' + 1 := ⟨g - 1, by split at hfu <;> omega⟩
      obtain ⟨n, last, hn2, hlast, hle⟩ : ∃ (n : Nat) (last : Bool), n ≤ rc.size ∧ ((n : Int) == (rc.size : Int)) = last ∧ ((last = true ∧ n = rc.size ∧ rc.size ≤ room) ∨ (last = false ∧ n = room ∧ room < rc.size)) := by
        by_cases h : room < rc.size
        · exact ⟨room, false, by omega, by simp; omega, Or.inr ⟨rfl, rfl, h⟩⟩
        · exact ⟨rc.size, true, by omega, by simp, Or.inl ⟨rfl, rfl, by omega⟩⟩
      obtain ⟨k, hk⟩ : ∃ k : UInt8, UInt8.ofNat (kindN first last) = k := ⟨_, rfl⟩
      have hkn : ((kindN first last : Nat) : Int) = (k.toNat : Nat) := by rw [← hk]; exact (kind_u8 first last).symm
      have HKN : Hid _ := hkn
      have HKK : Hid _ := hk
      have hpe : (rc.extract 0 n).data.toList = rc.data.toList.take n := extract_toList rc n
      have hps : (rc.extract 0 n).size = n := by simp; omega
      have HFR : Hid (∀ (kv : Int), kv = (k.toNat : Nat) → ∀ W : World, Calls Try.prog 28 #[.int .u8 kv, .string (rc.extract 0 n)] W fun r w' => ∃ v, r = .returned v ∧ w'.ownsRow W.heap.size 5 1 v (fragL k (rc.data.toList.take n)).length (bl (fragL k (rc.data.toList.take n))) ∧ Below W.heap.size W w') := fun kv hkv W => by
        subst hkv
        have := fragment_any k (rc.extract 0 n) W (by omega)
        rw [hpe] at this
        exact this
      have hfl : (fragL k (rc.data.toList.take n)).length = 7 + n := by rw [frag_len, List.length_take, hrl]; omega
      have HFL : Hid _ := hfl
      rw [hfl] at HFR
      have h7i : ¬ ((room : Int) + 7 < 7) := by omega
      have HLE : Hid _ := hle
      clear hk hkn hpe hfl hle h7
      go_upto_if 27 with fail
      go_cut [8] from 11 to 54 (fun s8 wc => s8 = .int .i64 (n : Nat) ∧ wc = wr)
      case first =>
        by_cases hgt : rc.size < room
        · have hne : n = rc.size := by rcases HLE.out with h | h <;> omega
          subst hne
          go_wp2_with fail
          go_meet
          case rel => exact ⟨rfl, rfl⟩
        · have hne : n = room := by rcases HLE.out with h | h <;> omega
          subst hne
          go_wp2_with fail
          go_meet
          case rel => exact ⟨rfl, rfl⟩
      case rest =>
      obtain ⟨rfl, rfl⟩ := hcut
      have hO : ∀ k, (Value.slice va acc.length vc).ownBlock = some k → w.heap.size ≤ k := fun k e => (hown.lt k e).1
      have HOS : Hid (∀ w5 : World, Below wc.heap.size wc w5 → Hid (w5.ownsRow w.heap.size 5 1 (.slice va acc.length vc) acc.length (bl acc))) := fun w5 b5 => owns_same hown (fun g hg => b5.block g (hown.lt g hg).2)
      have HBL : Hid ((bl (fragL k (rc.data.toList.take n))).length = (7 + n) * 1) := by rw [Hid, bl_len, HFL.out, Nat.mul_one]
      clear hown
      rcases HLE.out with ⟨rfl, hne, hlr⟩ | ⟨rfl, hne, hlr⟩
      · have HF : Hid (acc ++ fragL k (rc.data.toList.take n) = all) := by
          rw [Hid, ← HA2.out, layR_last (by rw [hrl]; exact hlr), HKK.out, List.take_of_length_le (by rw [hrl, hne]; exact Nat.le_refl _)]
        clear hne hlr
        cases first
        all_goals
          go_wp2_with fail
          refine (HFR.out _ HKN.out _).mono ?_
          rintro e w5 ⟨v5, rfl, ho5, b5⟩
          obtain ⟨gf, cf, rfl⟩ := form_pos ho5 (by omega)
          have hB5 := Below.trans hB (Below.mono b5 hB.size)
          have HO5 := HOS.out w5 b5
          have HNW : Hid _ := news_of ho5
          clear ho5 b5
          go_upto_region 18 with (at_builtin; refine wpList_append_own _ rfl (.tmp 43) (.tmp 48) 33 rfl w.heap.size 5 i0 (.int .u8 0) 1 1 Try.underlying33 hi hz0 hz1 hz2 rfl (by decide) _ _ _ rfl HO5.out ⟨gf, 0, none⟩ (7 + n) cf (bl (fragL k (rc.data.toList.take n))) rfl HBL.out HNW.out (bl_one _) (by unfold maxLen; omega) (by omega) hB5.size ?_; intro v6 w6 hown6 hg6 hnn6)
          have hB6 : Below w.heap.size w w6 := hB5.grown hg6 hB5.size hO
          have HAC : Hid (w6.ownsRow w.heap.size 5 1 v6 (acc ++ fragL k (rc.data.toList.take n)).length (bl (acc ++ fragL k (rc.data.toList.take n)))) := by
            rw [Hid, List.length_append, HFL.out, show bl (acc ++ fragL k (rc.data.toList.take n)) = bl acc ++ bl (fragL k (rc.data.toList.take n)) by simp [bl]]
            exact hown6
          clear hown6 hg6 hnn6 HO5 HNW
          rw [HF.out] at HAC
          go_wp2_with fail
          go_ret
          exact ⟨v6, rfl, HAC.out, hB6⟩
      · subst hne
        have HF : Hid ((acc ++ fragL k (rc.data.toList.take n)) ++ layR g' false 1017 (rc.extract n rc.size).data.toList = all) := by
          rw [Hid, ← HA2.out, layR_step (by rw [hrl]; omega), HKK.out, extract_drop, List.append_assoc]
        have HLN : Hid (leftN (at_ + (acc ++ fragL k (rc.data.toList.take n)).length) = 1024) := by
          rw [Hid, leftN, List.length_append, HFL.out]
          have h1 := HMD.out
          have h2 := HMM.out
          omega
        have hsz : (rc.extract n rc.size).size = rc.size - n := by simp
        cases first
        all_goals
          go_wp2_with fail
          refine (HFR.out _ HKN.out _).mono ?_
          rintro e w5 ⟨v5, rfl, ho5, b5⟩
          obtain ⟨gf, cf, rfl⟩ := form_pos ho5 (by omega)
          have hB5 := Below.trans hB (Below.mono b5 hB.size)
          have HO5 := HOS.out w5 b5
          have HNW : Hid _ := news_of ho5
          clear ho5 b5
          go_upto_region 18 with (at_builtin; refine wpList_append_own _ rfl (.tmp 43) (.tmp 48) 33 rfl w.heap.size 5 i0 (.int .u8 0) 1 1 Try.underlying33 hi hz0 hz1 hz2 rfl (by decide) _ _ _ rfl HO5.out ⟨gf, 0, none⟩ (7 + n) cf (bl (fragL k (rc.data.toList.take n))) rfl HBL.out HNW.out (bl_one _) (by unfold maxLen; omega) (by omega) hB5.size ?_; intro v6 w6 hown6 hg6 hnn6)
          have hB6 : Below w.heap.size w w6 := hB5.grown hg6 hB5.size hO
          have HAC : Hid (w6.ownsRow w.heap.size 5 1 v6 (acc ++ fragL k (rc.data.toList.take n)).length (bl (acc ++ fragL k (rc.data.toList.take n)))) := by
            rw [Hid, List.length_append, HFL.out, show bl (acc ++ fragL k (rc.data.toList.take n)) = bl acc ++ bl (fragL k (rc.data.toList.take n)) by simp [bl]]
            exact hown6
          clear hown6 hg6 hnn6 HO5 HNW
          go_wp2_with fail
          go_roundg g'
          case measure => omega
          case rel =>
            refine ⟨g', _, false, rc.extract n rc.size, rfl, rfl, HAC.out, hB6, ?_, ?_, ?_, by omega⟩
            · rw [Hid, toCome, HLN.out, if_neg (by decide)]
              exact HF.out
            · rw [HLN.out, hsz]
              split at hfu <;> simp <;> omega
            · rw [HLN.out]
              simp
end Go.Proofs.Ytefigcnfcbdecaa
