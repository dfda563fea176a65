/-
  The contract of has.
-/
import Derived.Test.YtbpfggpljfpfcaaDoorRls
namespace Go.Proofs.YtbpfggpljfpfcaaDoor
open Go.RowKit
theorem toList_ne {a b : ByteArray} (h : a ≠ b) : (a.toList == b.toList) = false := by
  rw [beq_eq_false_iff_ne, ByteArray.toList_eq, ByteArray.toList_eq]
  exact fun e => h (ext_list e)
theorem toList_eq' {a b : ByteArray} (h : a = b) : (a.toList == b.toList) = true := by subst h; simp
theorem bOf_inj {a b : List UInt8} (h : bOf a = bOf b) : a = b := by
  have := congrArg (fun x => x.data.toList) h
  exact this
theorem bOf_empty (l : List UInt8) : (bOf l).toList.isEmpty = l.isEmpty := by rw [ByteArray.toList_eq]; rfl
theorem fit_take : ∀ {P L : List (List UInt8)} {k : Nat} {p r : List UInt8}, fitR (P.take k) (L.take k) = true → P[k]? = some p → L[k]? = some r → fitR (P.take (k + 1)) (L.take (k + 1)) = fitW p r
  | [], _, _, _, _, _, h, _ => by simp at h
  | _ :: _, [], _, _, _, _, _, h => by simp at h
  | a :: P, b :: L, 0, p, r, _, hp, hr => by
    simp only [List.getElem?_cons_zero, Option.some.injEq] at hp hr
    subst hp hr
    simp [fitR]
  | a :: P, b :: L, k + 1, p, r, h0, hp, hr => by
    rw [List.getElem?_cons_succ] at hp hr
    rw [List.take_succ_cons, List.take_succ_cons, fitR, Bool.and_eq_true] at h0
    rw [List.take_succ_cons, List.take_succ_cons, fitR, h0.1, Bool.true_and]
    exact fit_take h0.2 hp hr
theorem fit_false : ∀ {P L : List (List UInt8)} {k : Nat}, fitR (P.take k) (L.take k) = false → k ≤ P.length → k ≤ L.length → fitR P L = false
  | [], L, k, h, h1, _ => by
    simp at h1
    subst h1
    simp [fitR] at h
  | a :: P, [], k, h, _, h2 => by
    simp at h2
    subst h2
    simp [fitR] at h
  | a :: P, b :: L, 0, h, _, _ => by simp [fitR] at h
  | a :: P, b :: L, k + 1, h, h1, h2 => by
    rw [List.take_succ_cons, List.take_succ_cons, fitR, Bool.and_eq_false_iff] at h
    rw [fitR, Bool.and_eq_false_iff]
    rcases h with h | h
    · exact Or.inl h
    · exact Or.inr (fit_false h (by simp at h1; omega) (by simp at h2; omega))
theorem fit_len : ∀ {P L : List (List UInt8)}, P.length ≠ L.length → fitR P L = false
  | [], [], h => absurd rfl h
  | [], _ :: _, _ => rfl
  | _ :: _, [], _ => rfl
  | a :: P, b :: L, h => by
    rw [fitR, fit_len (fun e => h (by simp [e])), Bool.and_false]
theorem fitW_nil {r : List UInt8} : fitW [] r = !r.isEmpty := by unfold fitW; rw [if_pos rfl]
set_option maxRecDepth 20000 in
set_option maxHeartbeats 16000000 in
theorem has_gen (meth : ByteArray) (pb pn : Nat) (kind : Int) (me : Bool) (fv : Value) (fr fw : Nat) (hfv : fv = .nilFunc ∨ ∃ n, fv = .func (.func n) #[] #[]) (P L : List (List UInt8)) (ra : Option Addr) (rc : Nat) (w : World) (hp : TextsAt w (some ⟨pb, 0, none⟩) (P.map bOf)) (hpn : P.length = pn) (hl : TextsAt w ra (L.map bOf)) (hP1 : P.length ≤ 1000000000) (hL1 : L.length ≤ 1000000000) :
    Calls Tryd.prog 40 #[.agg #[.string meth, .slice (some ⟨pb, 0, none⟩) pn pn, .int .i64 kind, .string ⟨#[]⟩, .string ⟨#[]⟩, .int .i64 0, .bool me, fv, .func (.func fr) #[] #[], .func (.func fw) #[] #[]], .slice ra L.length rc] w fun e w' => e = .returned (.bool (fitR P L)) ∧ Below w.heap.size w w' := by
  have HTK : Hid (∀ {k : Nat} {p r : List UInt8}, fitR (P.take k) (L.take k) = true → P[k]? = some p → L[k]? = some r → fitR (P.take (k + 1)) (L.take (k + 1)) = fitW p r) := fun h1 h2 h3 => fit_take h1 h2 h3
  have HFL : Hid (∀ {k : Nat}, fitR (P.take k) (L.take k) = false → k ≤ P.length → k ≤ L.length → fitR P L = false) := fun h1 h2 h3 => fit_false h1 h2 h3
  have HLN : Hid (P.length ≠ L.length → fitR P L = false) := fit_len
  have HAL : Hid (P.length = L.length → fitR (P.take pn) (L.take pn) = fitR P L) := fun h => by rw [List.take_of_length_le (by omega), List.take_of_length_le (by omega)]
  obtain ⟨F, hF⟩ : ∃ F, fitR P L = F := ⟨_, rfl⟩
  rw [hF] at HFL HLN HAL ⊢
  obtain ⟨n, hn⟩ : ∃ n, L.length = n := ⟨_, rfl⟩
  rw [hpn] at hP1 HFL HLN HAL
  rw [hn] at HFL HLN HAL hL1 ⊢
  have HPN : Hid _ := hpn
  have HN : Hid _ := hn
  clear hF hn hpn
  obtain ⟨W0, hW0⟩ : ∃ W0, w.alloc (.cells #[.string meth, .slice (some ⟨pb, 0, none⟩) pn pn, .int .i64 kind, .string ⟨#[]⟩, .string ⟨#[]⟩, .int .i64 0, .bool me, fv, .func (.func fr) #[] #[], .func (.func fw) #[] #[]] 50) = W0 := ⟨_, rfl⟩
  have hb := below_new w (.cells #[.string meth, .slice (some ⟨pb, 0, none⟩) pn pn, .int .i64 kind, .string ⟨#[]⟩, .string ⟨#[]⟩, .int .i64 0, .bool me, fv, .func (.func fr) #[] #[], .func (.func fw) #[] #[]] 50)
  have hx := block_alloc_at w (.cells #[.string meth, .slice (some ⟨pb, 0, none⟩) pn pn, .int .i64 kind, .string ⟨#[]⟩, .string ⟨#[]⟩, .int .i64 0, .bool me, fv, .func (.func fr) #[] #[], .func (.func fw) #[] #[]] 50)
  rw [hW0] at hb hx
  have HB : Hid _ := hb
  have HP : Hid _ := hp.below hb
  have HL : Hid _ := hl.below hb
  have c1 : W0.cell? ⟨w.heap.size, 1, none⟩ = some (.slice (some ⟨pb, 0, none⟩) pn pn) := cell_of_block hx rfl
  clear hb hp hl hx
  rcases hfv with rfl | ⟨fn, rfl⟩
  all_goals
    by_cases hpl : n = pn
    · subst hpl
      have hq : ((n : Int) != (n : Int)) = false := by simp
      have HA : Hid _ := HAL.out rfl
      go_enter Tryd.func40, Tryd.ntmps40
      go_wp2_with fail
      try rw [hW0]
      go_loopw [16] (fun i wr => ∃ k : Nat, k ≤ n ∧ i = .int .i64 (k : Nat) ∧ Hid (fitR (P.take k) (L.take k) = true) ∧ wr = W0) (fun i _ => n - (intOf i).toNat)
      case atStart => exact ⟨0, by omega, rfl, by rw [Hid]; simp [fitR], rfl⟩
      case round =>
        obtain ⟨k, hk, rfl, HE, hwr⟩ := hrel
        rw [hwr]
        clear hwr wr
        by_cases hlt : k < n
        · have hlz : (k : Int) < (n : Int) := by omega
          obtain ⟨p, hp⟩ : ∃ p, P[k]? = some p := ⟨_, List.getElem?_eq_getElem (by rw [HPN.out]; exact hlt)⟩
          obtain ⟨r, hr⟩ : ∃ r, L[k]? = some r := ⟨_, List.getElem?_eq_getElem (by rw [HN.out]; exact hlt)⟩
          obtain ⟨gb, off, hbo, _, c0⟩ := HP.out k (bOf p) (by rw [List.getElem?_map, hp]; rfl)
          obtain ⟨rfl, rfl⟩ : pb = gb ∧ 0 = off := by cases hbo; exact ⟨rfl, rfl⟩
          rw [Nat.zero_add] at c0
          obtain ⟨gr, of2, hbo2, _, d0⟩ := HL.out k (bOf r) (by rw [List.getElem?_map, hr]; rfl)
          subst hbo2
          have HF2 : Hid _ := HTK.out HE.out hp hr
          have e1 := bOf_empty p
          have e2 := bOf_empty r
          clear hp hr hbo
          by_cases hpe : p = []
          · subst hpe
            rw [fitW_nil] at HF2
            rw [show ([] : List UInt8).isEmpty = true from rfl] at e1
            cases hre : r.isEmpty with
            | true =>
              rw [hre] at e2 HF2
              have HZ : Hid (F = false) := HFL.out HF2.out (by omega) (by omega)
              go_wp2_with fail
              go_ret
              exact ⟨by rw [HZ.out]; rfl, HB.out⟩
            | false =>
              rw [hre] at e2 HF2
              go_wp2_with fail
              go_roundw
              case rel => exact ⟨k + 1, by omega, by go_num, HF2.out, by first | rfl | trivial⟩
              case measure => simp [intOf]; omega
          · rw [fit_ne hpe] at HF2
            have e1' : (bOf p).toList.isEmpty = false := by rw [e1]; cases p with
              | nil => exact absurd rfl hpe
              | cons _ _ => rfl
            clear e1 e2
            by_cases hrp : r = p
            · have hrz : ((bOf r).toList == (bOf p).toList) = true := toList_eq' (by rw [hrp])
              rw [decide_eq_true hrp] at HF2
              clear hrp hpe
              go_wp2_with fail
              go_roundw
              case rel => exact ⟨k + 1, by omega, by go_num, HF2.out, by first | rfl | trivial⟩
              case measure => simp [intOf]; omega
            · have hrz : ((bOf r).toList == (bOf p).toList) = false := toList_ne (fun e => hrp (bOf_inj e))
              rw [decide_eq_false hrp] at HF2
              have HZ : Hid (F = false) := HFL.out HF2.out (by omega) (by omega)
              clear hrp hpe
              go_wp2_with fail
              go_ret
              exact ⟨by rw [HZ.out]; rfl, HB.out⟩
        · obtain rfl : k = n := by omega
          have hlz : ¬ (k : Int) < (k : Int) := by omega
          have HZ : Hid (F = true) := by rw [Hid, ← HA.out]; exact HE.out
          go_wp2_with fail
          go_ret
          exact ⟨by rw [HZ.out]; rfl, HB.out⟩
    · have hq : ((n : Int) != (pn : Int)) = true := by simp; omega
      have HZ : Hid (F = false) := HLN.out (fun e => hpl e.symm)
      clear hpl
      go_enter Tryd.func40, Tryd.ntmps40
      go_wp2_with fail
      try rw [hW0]
      go_ret
      exact ⟨by rw [HZ.out]; rfl, HB.out⟩
theorem pfV_cases (o : Option Nat) : pfV o = .nilFunc ∨ ∃ n, pfV o = .func (.func n) #[] #[] := by
  cases o with
  | none => exact Or.inl rfl
  | some n => exact Or.inr ⟨n, rfl⟩
end Go.Proofs.YtbpfggpljfpfcaaDoor
