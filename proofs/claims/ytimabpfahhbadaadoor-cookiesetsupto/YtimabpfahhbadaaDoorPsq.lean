/-
  The contract of the twin's Parse.
-/
import Derived.Test.YtimabpfahhbadaaDoorPse
namespace Go.Proofs.YtimabpfahhbadaaDoor
open Go.RowKit
theorem allS_at {l : List ByteArray} {k : Nat} {x : ByteArray} (h : l[k]? = some x) (hx : okS x = false) : l.all okS = false := by
  cases hq : l.all okS with
  | false => rfl
  | true =>
    have := List.all_eq_true.1 hq x (List.mem_of_getElem? h)
    rw [hx] at this
    cases this
theorem allS_take {l : List ByteArray} {k : Nat} {x : ByteArray} (h : l[k]? = some x) (h0 : (l.take k).all okS = true) (hx : okS x = true) : (l.take (k + 1)).all okS = true := by
  rw [List.take_add_one, h, Option.toList, List.all_append, h0, Bool.true_and, List.all_cons, hx]
  rfl
theorem parseR_bad {v : ByteArray} (h : (parts v).all okS = false) : parseR v = ([], 190) := by
  unfold parseR
  rw [if_neg (by rintro ⟨_, q⟩; rw [h] at q; cases q)]
theorem parseR_many {v : ByteArray} (h : ¬ (parts v).length ≤ 16) : parseR v = ([], 190) := by
  unfold parseR
  rw [if_neg (by rintro ⟨q, _⟩; exact h q)]
theorem parseR_good {v : ByteArray} (h1 : (parts v).length ≤ 16) (h : (parts v).all okS = true) : parseR v = ((parts v).map rdP, 0) := by
  unfold parseR
  rw [if_pos ⟨h1, h⟩]
set_option maxRecDepth 20000 in
set_option maxHeartbeats 8000000 in
theorem qparse_any (v : ByteArray) (hs : v.size ≤ 1000000000) (w : World) :
    Calls Tryd.prog 9 #[.string v] w fun e w' => ∃ a c, e = .returned (.tuple #[.slice a (parseR v).1.length c, .int .i64 (parseR v).2]) ∧ w'.ownsRow w.heap.size 44 2 (.slice a (parseR v).1.length c) (parseR v).1.length (flF (parseR v).1) ∧ Below w.heap.size w w' := by
  obtain ⟨i0, hi, hz⟩ := Option.map_eq_some_iff.1 info53
  simp only [Prod.mk.injEq] at hz
  obtain ⟨hz0, hz1, hz2⟩ := hz
  have H1 : Hid (∀ W : World, _) := fun W => qsplit_any v hs W
  have HPZ : Hid (∀ l ∈ parts v, l.size ≤ 1000000000) := split_sizes smb _ v _ hs
  have hln : 1 ≤ (parts v).length ∧ (parts v).length ≤ 1000000001 := by
    have h1 := parts_len (sep := smb) (by decide) v
    have h2 := Lib.countB_le smb (by decide) v.size v (Nat.le_refl _)
    rw [show partsOf smb v = parts v from rfl] at h1
    omega
  have HB1' : Hid ((parts v).all okS = false → parseR v = ([], 190)) := parseR_bad
  have HB2' : Hid (¬ (parts v).length ≤ 16 → parseR v = ([], 190)) := parseR_many
  have HB3' : Hid ((parts v).length ≤ 16 → (parts v).all okS = true → parseR v = ((parts v).map rdP, 0)) := parseR_good
  obtain ⟨P, hP⟩ : ∃ P, parts v = P := ⟨_, rfl⟩
  obtain ⟨T, hT⟩ : ∃ T, parseR v = T := ⟨_, rfl⟩
  rw [hP] at H1 HPZ hln HB1' HB2' HB3'
  rw [hT] at HB1' HB2' HB3' ⊢
  obtain ⟨n, hn⟩ : ∃ n, P.length = n := ⟨_, rfl⟩
  rw [hn] at H1 hln HB2' HB3'
  have HL : Hid _ := hn
  clear hP hT hn
  go_enter Tryd.func9, Tryd.ntmps9
  go_wp2_with fail
  refine (H1.out _).mono ?_
  rintro e w1 ⟨pa, pc, rfl, hpo, hb1⟩
  have HTX : Hid (TextsAt w1 pa P) := row_texts hpo
  have HB1 : Hid (Below w.heap.size w w1) := hb1
  clear hpo hb1 H1
  go_wp2_with fail
  go_loopw [4, 6] (fun v i wr => ∃ k : Nat, k ≤ n ∧ i = .int .i64 (k : Nat) ∧ wr.ownsRow w1.heap.size 44 2 v k (flF ((P.take k).map rdP)) ∧ Hid ((P.take k).all okS = true) ∧ Hid (0 < k → n ≤ 16) ∧ Hid (Below w1.heap.size w1 wr)) (fun _ i _ => n - (intOf i).toNat)
  case atStart => exact ⟨0, by omega, rfl, by rw [List.take_zero]; exact World.ownsRow_nil _ _ _ _, by rw [Hid, List.take_zero]; rfl, fun h => by omega, Below.refl _ _⟩
  case round =>
    obtain ⟨k, hkn, rfl, hown, HE, HK, HB⟩ := hrel
    obtain ⟨va, vc, rfl⟩ := row_form hown
    have HOW : Hid _ := hown
    clear hown
    have HBW : Hid (Below w.heap.size w wr) := HB1.out.trans (HB.out.mono HB1.out.size)
    by_cases hlt : k < n
    · have hlz : (k : Int) < (n : Int) := by omega
      obtain ⟨x, hx⟩ : ∃ x, P[k]? = some x := ⟨P[k]'(by rw [HL.out]; exact hlt), List.getElem?_eq_getElem _⟩
      have HX2 : TextsAt wr pa P := TextsAt.below HTX.out HB.out
      obtain ⟨b, off, rfl, _, x0⟩ := HX2 k x hx
      have hxz := HPZ.out x (List.mem_of_getElem? hx)
      have HTK : Hid ((P.take (k + 1)).map rdP = (P.take k).map rdP ++ [rdP x]) := map_take hx
      have H2 : Hid (∀ W : World, _) := fun W => qpair_any x (by omega) W
      have hok := pairR_ok x
      have HRD : Hid (okS x = true → (pairR x).1 = (rdP x).name ∧ (pairR x).2.1 = (rdP x).val) := pairR_rd
      have HG : Hid (okS x = true → (P.take (k + 1)).all okS = true) := fun hq => allS_take hx HE.out hq
      have HF : Hid (okS x = false → T = ([], 190)) := fun hq => HB1'.out (allS_at hx hq)
      obtain ⟨p, hp⟩ : ∃ p, pairR x = p := ⟨_, rfl⟩
      rw [hp] at H2 hok HRD
      obtain ⟨ok, ho⟩ : ∃ ok, okS x = ok := ⟨_, rfl⟩
      rw [ho] at hok HRD HG HF
      obtain ⟨pn, pv, po⟩ := p
      simp only at hok H2 HRD
      subst hok
      clear hx HX2 hxz hp ho
      cases po with
      | false =>
        have HR : Hid (T = ([], 190)) := HF.out rfl
        go_wp2_with fail
        refine (H2.out _).mono ?_
        rintro e w2 ⟨rfl, b2⟩
        go_wp2_with fail
        go_ret2
        refine ⟨none, 0, by rw [HR.out]; rfl, by rw [HR.out]; exact World.ownsRow_nil _ _ _ _, HBW.out.trans (b2.mono HBW.out.size)⟩
      | true =>
        by_cases h16 : n ≤ 16
        · have q0 : ¬ (16 : Int) < (n : Int) := by omega
          have HGG : Hid ((P.take (k + 1)).all okS = true) := HG.out rfl
          obtain ⟨e1, e2⟩ := HRD.out rfl
          have HTK2 : Hid ((P.take (k + 1)).map rdP = (P.take k).map rdP ++ [⟨pn, pv⟩]) := by rw [Hid, HTK.out, e1, e2]
          clear e1 e2 HTK HRD HG HF
          go_wp2_with fail
          refine (H2.out _).mono ?_
          rintro e w2 ⟨rfl, b2⟩
          have HB2 : Hid (Below w1.heap.size w1 w2) := HB.out.trans (b2.mono HB.out.size)
          have HOW2 : Hid (w2.ownsRow w1.heap.size 44 2 (.slice va k vc) k (flF ((P.take k).map rdP))) := owns_on2 HOW.out b2
          have hra : Hid (∀ o, (w2.alloc o).ownsRow w1.heap.size 44 2 (.slice va k vc) k (flF ((P.take k).map rdP))) := fun o => World.ownsRow.alloc HOW2.out o
          have hsz2 := HB2.out.size
          clear b2
          go_wp2_with (at_builtin; refine wpList_append_own _ rfl (.tmp 34) (.tmp 38) 22 rfl w1.heap.size 44 i0 (.agg #[.string ByteArray.empty, .string ByteArray.empty]) 2 32 Tryd.underlying22 hi hz0 hz1 hz2 rfl (by decide) _ _ _ rfl (hra.out _) ⟨_, 0, none⟩ 1 1 [.string pn, .string pv] rfl rfl (new_cells _ [.string pn, .string pv] _) (fdL_one ⟨pn, pv⟩) (by unfold maxLen; omega) (by omega) (by simp; omega) ?_)
          intro v1 w5 hown1 hgrow _
          obtain ⟨a1, cap1, rfl⟩ := row_form hown1
          have HR5 : Hid (w5.ownsRow w1.heap.size 44 2 (.slice a1 (k + 1) cap1) (k + 1) (flF ((P.take (k + 1)).map rdP))) := by
            rw [Hid, HTK2.out, flF_snoc]; first | exact hown1 | (rw [List.map_take]; exact hown1)
          have HB5 : Hid (Below w1.heap.size w1 w5) := (HB2.out.alloc hsz2 _).grown hgrow (by simp; omega) (fun i hi => (World.ownsRow.lt HOW2.out i hi).1)
          clear hown1 hgrow
          go_wp2_with fail
          go_roundw
          case rel => exact ⟨k + 1, by omega, by go_num, HR5.out, HGG.out, fun _ => h16, HB5.out⟩
          case measure => simp [intOf]; omega
        · have q0 : (16 : Int) < (n : Int) := by omega
          have HR : Hid (T = ([], 190)) := HB2'.out h16
          clear h16
          go_wp2_with fail
          refine (H2.out _).mono ?_
          rintro e w2 ⟨rfl, b2⟩
          go_wp2_with fail
          go_ret2
          refine ⟨none, 0, by rw [HR.out]; rfl, by rw [HR.out]; exact World.ownsRow_nil _ _ _ _, HBW.out.trans (b2.mono HBW.out.size)⟩
    · obtain rfl : k = n := by omega
      have hlz : ¬ (k : Int) < (k : Int) := by omega
      have hq := HOW.out
      have he := HE.out
      rw [List.take_of_length_le (by rw [HL.out]; omega)] at hq he
      have HR : Hid (T = (P.map rdP, 0)) := HB3'.out (HK.out (by omega)) he
      have HML : Hid ((P.map rdP).length = k) := by rw [Hid, List.length_map, HL.out]
      have HQ : Hid _ := owns_down2 hq HB1.out.size
      clear hq he
      go_wp2_with fail
      go_ret2
      refine ⟨va, vc, ?_, ?_, HBW.out⟩
      · rw [HR.out]; show _ = Ending.returned (.tuple #[.slice va (P.map rdP).length vc, .int .i64 0]); rw [HML.out]; rfl
      · rw [HR.out]; show World.ownsRow _ _ _ _ (.slice va (P.map rdP).length vc) (P.map rdP).length (flF (P.map rdP)); rw [HML.out]; exact HQ.out
end Go.Proofs.YtimabpfahhbadaaDoor
