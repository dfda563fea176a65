/-
  Tenants in memory; the contract of the twin's Check.
-/
import Derived.Test.YtedibkcempcpnaaDoorTMnt
import Derived.Test.YtedibkcempcpnaaDoorTBea
import Derived.BigQuiet
namespace Go.Proofs.YtedibkcempcpnaaDoor.T
open Go.RowKit
/-- From an address on there stand these tenants. -/
def TA (B : Nat) (W : World) (a : Option Addr) (l : List Tn) : Prop := ∀ j t, l[j]? = some t → ∃ b off, a = some ⟨b, off, none⟩ ∧ b < B ∧ W.cell? ⟨b, off + j * 3, none⟩ = some (.string t.name) ∧ W.cell? ⟨b, off + j * 3 + 1, none⟩ = some (.string t.key) ∧ W.cell? ⟨b, off + j * 3 + 2, none⟩ = some (.int .i64 t.quota)
theorem TA.below {B : Nat} {w w' : World} {a : Option Addr} {l : List Tn} (h : TA B w a l) (k : ∀ b, b < B → w'.heap[b]? = w.heap[b]?) : TA B w' a l := by
  intro j t hj
  obtain ⟨b, off, e, hb, h0, h1, h2⟩ := h j t hj
  exact ⟨b, off, e, hb, (World.cell?_of_block (k b hb)).trans h0, (World.cell?_of_block (k b hb)).trans h1, (World.cell?_of_block (k b hb)).trans h2⟩
def tnZ (t : Tn) : Prop := t.name.size ≤ 140737488355328 ∧ t.key.size ≤ 140737488355328
def goodT (l : List Tn) : Prop := 1 ≤ l.length ∧ l.length ≤ 16 ∧ l.all okT = true ∧ (l.map Tn.name).Nodup
instance (l : List Tn) : Decidable (goodT l) := by unfold goodT; infer_instance
def chkR (l : List Tn) : Int := if goodT l then 0 else 1
theorem chkR_bad {l : List Tn} (h : ¬ goodT l) : chkR l = 1 := by rw [chkR, if_neg h]
theorem chkR_good {l : List Tn} (h : goodT l) : chkR l = 0 := by rw [chkR, if_pos h]
theorem allT_at {l : List Tn} {k : Nat} {x : Tn} (h : l[k]? = some x) (hx : okT x = false) : ¬ goodT l := by
  rintro ⟨_, _, q, _⟩
  have := List.all_eq_true.1 q x (List.mem_of_getElem? h)
  rw [hx] at this
  cases this
theorem allT_take {l : List Tn} {k : Nat} {x : Tn} (h : l[k]? = some x) (h0 : (l.take k).all okT = true) (hx : okT x = true) : (l.take (k + 1)).all okT = true := by
  rw [List.take_add_one, h, Option.toList, List.all_append, h0, Bool.true_and, List.all_cons, hx]
  rfl
theorem dup_at {l : List Tn} {i k : Nat} {x y : Tn} (hik : i < k) (hi : l[i]? = some y) (hk : l[k]? = some x) (e : y.name = x.name) : ¬ goodT l := by
  rintro ⟨_, _, _, q⟩
  have h1 : (l.map Tn.name)[i]? = some x.name := by rw [List.getElem?_map, hi, Option.map_some, e]
  have h2 : (l.map Tn.name)[k]? = some x.name := by rw [List.getElem?_map, hk, Option.map_some]
  have := (List.getElem?_inj (List.getElem?_eq_some_iff.1 h1).1 q).1 (h1.trans h2.symm)
  omega
theorem dst_take {l : List Tn} {k : Nat} {x : Tn} (h : l[k]? = some x) (h0 : ((l.take k).map Tn.name).Nodup) (hx : ∀ i y, i < k → l[i]? = some y → y.name ≠ x.name) : ((l.take (k + 1)).map Tn.name).Nodup := by
  rw [List.take_add_one, h, Option.toList, List.map_append, List.nodup_append]
  refine ⟨h0, by simp, fun a ha b hb => ?_⟩
  simp only [List.map_cons, List.map_nil, List.mem_singleton] at hb
  subst hb
  obtain ⟨y, hy, rfl⟩ := List.mem_map.1 ha
  obtain ⟨i, hi⟩ := List.getElem?_of_mem hy
  have hik : i < k := by
    have := (List.getElem?_eq_some_iff.1 hi).1
    rw [List.length_take] at this
    omega
  rw [List.getElem?_take_of_lt hik] at hi
  exact hx i y hik hi
set_option maxRecDepth 20000 in
set_option maxHeartbeats 8000000 in
theorem qcheck_any (a : Option Addr) (c B : Nat) (l : List Tn) (w : World) (h : TA B w a l) (hB : B ≤ w.heap.size) (hl : l.length ≤ 4000000000000) (hz : ∀ t ∈ l, tnZ t) :
    Calls Tryd.prog 12 #[.slice a l.length c] w fun e w' => e = .returned (.int .i64 (chkR l)) ∧ Below w.heap.size w w' := by
  obtain ⟨n, hn⟩ : ∃ n, l.length = n := ⟨_, rfl⟩
  have HL : Hid _ := hn
  have HC : Hid _ := h
  have HZ : Hid _ := hz
  have HF : Hid (¬ goodT l → chkR l = 1) := chkR_bad
  have HG : Hid (goodT l → chkR l = 0) := chkR_good
  obtain ⟨T, hT⟩ : ∃ T, chkR l = T := ⟨_, rfl⟩
  rw [hT] at HF HG ⊢
  rw [hn] at hl ⊢
  clear hn h hz hT
  rcases (by omega : n < 1 ∨ 16 < n ∨ (1 ≤ n ∧ n ≤ 16)) with g | g | g
  · have HR : Hid (T = 1) := HF.out (fun q => by have := q.1; have := HL.out; omega)
    have q0 : (n : Int) < 1 := by omega
    go_enter Tryd.func12, Tryd.ntmps12
    go_wp2_with fail
    go_ret
    exact ⟨by rw [HR.out]; rfl, Below.refl _ _⟩
  · have HR : Hid (T = 1) := HF.out (fun q => by have := q.2.1; have := HL.out; omega)
    have q0 : ¬ (n : Int) < 1 := by omega
    have q1 : (16 : Int) < (n : Int) := by omega
    go_enter Tryd.func12, Tryd.ntmps12
    go_wp2_with fail
    go_ret
    exact ⟨by rw [HR.out]; rfl, Below.refl _ _⟩
  · have q0 : ¬ (n : Int) < 1 := by omega
    have q1 : ¬ (16 : Int) < (n : Int) := by omega
    go_enter Tryd.func12, Tryd.ntmps12
    go_wp2_with fail
    go_loopw [3] (fun i wr => ∃ k : Nat, k ≤ n ∧ i = .int .i64 (k : Nat) ∧ Hid ((l.take k).all okT = true) ∧ Hid (((l.take k).map Tn.name).Nodup) ∧ Hid (Below w.heap.size w wr)) (fun i _ => n - (intOf i).toNat)
    case atStart => exact ⟨0, by omega, rfl, by rw [Hid, List.take_zero]; rfl, by rw [Hid, List.take_zero]; exact List.nodup_nil, Below.refl _ _⟩
    case round =>
      obtain ⟨k, hkn, rfl, HE, HD, HB⟩ := hrel
      by_cases hlt : k < n
      · have hlz : (k : Int) < (n : Int) := by omega
        obtain ⟨x, hx⟩ : ∃ x, l[k]? = some x := ⟨l[k]'(by rw [HL.out]; exact hlt), List.getElem?_eq_getElem _⟩
        have HC2 : TA B wr a l := TA.below HC.out (fun b hb => HB.out.block b (by omega))
        obtain ⟨b, off, rfl, hbl, x0, x1, x2⟩ := HC2 k x hx
        have hxz := HZ.out x (List.mem_of_getElem? hx)
        have H1 : Hid (∀ W : World, _) := fun W => qmay_any x hxz.1 hxz.2 W
        have HX : Hid _ := hx
        simp only [tnV] at H1
        cases hok : okT x with
        | false =>
          rw [hok] at H1
          have HR : Hid (T = 1) := HF.out (allT_at HX.out hok)
          clear hok hx HC2 hxz
          go_wp2_with (go_at_call 26; refine (H1.out _).mono ?_; rintro e w1 ⟨rfl, b1⟩)
          go_ret
          exact ⟨by rw [HR.out]; rfl, HB.out.trans (b1.mono HB.out.size)⟩
        | true =>
          rw [hok] at H1
          have HE2 : Hid ((l.take (k + 1)).all okT = true) := allT_take HX.out HE.out hok
          clear hok hx HC2 hxz
          go_wp2_with fail
          refine (H1.out _).mono ?_
          rintro e w1 ⟨rfl, b1⟩
          have HB1 : Hid (Below w.heap.size w w1) := HB.out.trans (b1.mono HB.out.size)
          have HCC : Hid (TA B w1 (some ⟨b, off, none⟩) l) := TA.below HC.out (fun b hb => HB1.out.block b (by omega))
          clear b1 x0 x1 x2
          obtain ⟨xn, xk, xq⟩ := x
          go_wp2_with fail
          go_loopw [4] (fun i w2 => ∃ j q : Nat, j ≤ k ∧ i = .int .i64 (j : Nat) ∧ Hid (∀ i y, i < j → l[i]? = some y → y.name ≠ xn) ∧ Hid (w2 = w1.drewN q)) (fun i _ => k - (intOf i).toNat)
          case atStart => exact ⟨0, 0, by omega, rfl, fun i y hi => by omega, rfl⟩
          case round =>
            obtain ⟨j, q, hjk, rfl, HJ, HW⟩ := hrel
            by_cases hjl : j < k
            · have hjz : (j : Int) < (k : Int) := by omega
              have hjn : (j : Int) < (n : Int) := by omega
              obtain ⟨y, hy⟩ : ∃ y, l[j]? = some y := ⟨l[j]'(by rw [HL.out]; omega), List.getElem?_eq_getElem _⟩
              obtain ⟨b1, off1, e1, _, y0, _, _⟩ := HCC.out j y hy
              cases e1
              obtain ⟨b2, off2, e2, _, z0, _, _⟩ := HCC.out k _ HX.out
              cases e2
              have y0' : wr.cell? ⟨b, off + j * 3, none⟩ = some (.string y.name) := by rw [HW.out]; exact y0
              have z0' : wr.cell? ⟨b, off + k * 3, none⟩ = some (.string xn) := by rw [HW.out]; exact z0
              have HY : Hid _ := hy
              obtain ⟨yn, yk, yq⟩ := y
              simp only at y0'
              clear hy y0 z0
              by_cases hnm : yn = xn
              · have HR : Hid (T = 1) := HF.out (dup_at hjl HY.out HX.out hnm)
                have hne := toList_eq' hnm
                clear hnm
                go_wp2_with fail
                go_quiet (fail)
                go_wp2_with fail
                go_ret
                exact ⟨by rw [HR.out]; rfl, by rw [HW.out]; exact below_drewN (below_drewN HB1.out _) _⟩
              · have HJ2 : Hid (∀ i y, i < j + 1 → l[i]? = some y → y.name ≠ xn) := fun i y hi hy => by
                  rcases Nat.lt_succ_iff_lt_or_eq.1 hi with h | rfl
                  · exact HJ.out i y h hy
                  · rw [HY.out, Option.some.injEq] at hy
                    subst hy
                    exact hnm
                have hne := toList_ne hnm
                clear hnm
                go_wp2_with fail
                go_quiet (fail)
                go_wp2_with fail
                go_roundw
                case rel => exact ⟨j + 1, q + nq, by omega, by go_num, HJ2.out, by rw [Hid, HW.out]; first | rfl | (simp [World.drewN, Nat.add_assoc])⟩
                case measure => simp [intOf]; omega
            · obtain rfl : j = k := by omega
              have hjz : ¬ (j : Int) < (j : Int) := by omega
              have HD2 : Hid (((l.take (j + 1)).map Tn.name).Nodup) := dst_take HX.out HD.out HJ.out
              go_wp2_with fail
              go_roundw
              case rel => exact ⟨j + 1, by omega, by go_num, HE2.out, HD2.out, by rw [HW.out]; exact below_drewN HB1.out _⟩
              case measure => simp [intOf]; omega
      · have hlz : ¬ (k : Int) < (n : Int) := by omega
        have HR : Hid (T = 0) := HG.out (by
          have h1 := HE.out
          have h2 := HD.out
          rw [List.take_of_length_le (by rw [HL.out]; omega)] at h1 h2
          exact ⟨by have := HL.out; omega, by have := HL.out; omega, h1, h2⟩)
        go_wp2_with fail
        go_ret
        exact ⟨by rw [HR.out]; rfl, HB.out⟩
end Go.Proofs.YtedibkcempcpnaaDoor.T
