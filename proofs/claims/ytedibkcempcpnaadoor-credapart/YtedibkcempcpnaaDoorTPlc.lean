/-
  Where tenants stand, by their names (a map); the contracts of places and of Check.
-/
import Derived.Test.YtedibkcempcpnaaDoorTChq
import Derived.Maps.OwnOps
import Derived.Maps.OwnSet
import Derived.Maps.Views
namespace Go.Proofs.YtedibkcempcpnaaDoor.T
open Go.RowKit Go.WideMaps Go.Maps
theorem mlaw : Keyed Tryd.prog 9 := string_keyed Tryd.underlying9
theorem mzero3 (w : World) : (zeroValue 3).run Tryd.prog w = .ok (.int .i64 0) w := by kernel_rfl
theorem data_inj {a b : ByteArray} (h : a.data.toList = b.data.toList) : a = b := by
  cases a; cases b
  simp only [ByteArray.mk.injEq]
  exact Array.toList_inj.1 h
def nmAt (l : List Tn) (k : Nat) : ByteArray := match l[k]? with | some t => t.name | none => ⟨#[]⟩
def keyT (s : ByteArray) : Lit := .string s.data.toList
theorem keyT_lit (s : ByteArray) : WideAt.IsKeyLit (keyT s) := by first | trivial | exact ⟨_, rfl⟩ | simp [keyT, WideAt.IsKeyLit]
theorem keyT_ne {s t : ByteArray} (h : s ≠ t) : keyT s ≠ keyT t := fun q => h (data_inj (Lit.string.inj q))
def plN (l : List Tn) : Nat → DataW Unit
  | 0 => .map []
  | k + 1 => (plN l k).put (keyT (nmAt l k)) (.lit (.int .i64 (k : Nat)))
theorem nmAt_some {l : List Tn} {k : Nat} {x : Tn} (h : l[k]? = some x) : nmAt l k = x.name := by rw [nmAt, h]
theorem plN_tidy (l : List Tn) : ∀ k, Tidy (plN l k)
  | 0 => tidy_empty
  | k + 1 => (plN_tidy l k).put (keyT_lit _) _
theorem plN_has (l : List Tn) (s : ByteArray) : ∀ k, has (plN l k) (keyT s) = true ↔ ∃ i, i < k ∧ nmAt l i = s
  | 0 => by
    constructor
    · intro h; cases h
    · rintro ⟨i, h, _⟩; omega
  | k + 1 => by
    rw [plN]
    by_cases e : nmAt l k = s
    · rw [e, has_put_same (plN_tidy l k).isMap (keyT_lit _)]
      exact ⟨fun _ => ⟨k, by omega, e⟩, fun _ => rfl⟩
    · rw [has_put_other (keyT_ne (fun q => e q.symm)), plN_has l s k]
      constructor
      · rintro ⟨i, h1, h2⟩; exact ⟨i, by omega, h2⟩
      · rintro ⟨i, h1, h2⟩
        refine ⟨i, ?_, h2⟩
        rcases Nat.lt_succ_iff_lt_or_eq.1 h1 with h | rfl
        · exact h
        · exact absurd h2 e
def dstN (l : List Tn) (k : Nat) : Prop := ∀ i j, i < j → j < k → nmAt l i ≠ nmAt l j
theorem plN_size (l : List Tn) : ∀ k, size (plN l k) ≤ k ∧ (size (plN l k) = k ↔ dstN l k)
  | 0 => ⟨Nat.le_refl _, ⟨fun _ i j _ h => by omega, fun _ => rfl⟩⟩
  | k + 1 => by
    obtain ⟨h1, h2⟩ := plN_size l k
    rw [plN, size_put (plN_tidy l k)]
    cases hh : has (plN l k) (keyT (nmAt l k)) with
    | true =>
      rw [if_pos rfl]
      obtain ⟨i, hi, e⟩ := (plN_has l _ k).1 hh
      exact ⟨by omega, ⟨fun h => by omega, fun h => absurd e (h i k hi (by omega))⟩⟩
    | false =>
      rw [if_neg (by simp)]
      refine ⟨by omega, ⟨fun h => ?_, fun h => ?_⟩⟩
      · have hd := h2.1 (by omega)
        intro i j hij hj
        rcases Nat.lt_succ_iff_lt_or_eq.1 hj with h | rfl
        · exact hd i j hij h
        · intro e
          have := (plN_has l _ j).2 ⟨i, hij, e⟩
          rw [hh] at this
          cases this
      · have := h2.2 (fun i j a b => h i j a (by omega))
        omega
theorem plN_at (l : List Tn) (z : DataW Unit) {i : Nat} : ∀ k, dstN l k → i < k → (plN l k).atKey (keyT (nmAt l i)) z = .lit (.int .i64 (i : Nat))
  | 0, _, h => by omega
  | k + 1, hd, hi => by
    rw [plN]
    rcases Nat.lt_succ_iff_lt_or_eq.1 hi with h | rfl
    · rw [atKey_put_other (keyT_ne (hd i k h (by omega)))]
      exact plN_at l z k (fun a b c d => hd a b c (by omega)) h
    · rw [atKey_put_same (plN_tidy l i).isMap (keyT_lit _)]
theorem dstN_iff (l : List Tn) : dstN l l.length ↔ (l.map Tn.name).Nodup := by
  rw [List.Nodup, List.pairwise_iff_getElem]
  constructor
  · intro h i j hi hj hij
    have := h i j hij (by simpa using hj)
    rw [nmAt_some (List.getElem?_eq_getElem (by simpa using hi)), nmAt_some (List.getElem?_eq_getElem (by simpa using hj))] at this
    rw [List.getElem_map, List.getElem_map]
    exact this
  · intro h i j hij hj
    have := h i j (by simp; omega) (by simpa using hj) hij
    rw [List.getElem_map, List.getElem_map] at this
    rw [nmAt_some (List.getElem?_eq_getElem (by omega)), nmAt_some (List.getElem?_eq_getElem hj)]
    exact this
set_option maxRecDepth 20000 in
set_option maxHeartbeats 8000000 in
theorem places_any (a : Option Addr) (c B : Nat) (l : List Tn) (w : World) (h : TA B w a l) (hB : B ≤ w.heap.size) (hl : l.length ≤ 4000000000000) (hz : ∀ t ∈ l, tnZ t) :
    Calls Tryd.prog 29 #[.slice a l.length c] w fun e w' => e = .returned (.map (some w.heap.size)) ∧ w'.ownsMap Tryd.prog 9 (plainElem Tryd.prog 3) w.heap.size l.length (plN l l.length) ∧ Below w.heap.size w w' := by
  obtain ⟨n, hn⟩ : ∃ n, l.length = n := ⟨_, rfl⟩
  have HL : Hid _ := hn
  have HC : Hid _ := h
  have HZ : Hid _ := hz
  rw [hn] at hl ⊢
  clear hn h hz
  have hmm := @run_makeMap Tryd.prog
  go_enter Tryd.func29, Tryd.ntmps29
  go_wp2_with fail
  go_loopw [9] (fun i wr => ∃ k : Nat, k ≤ n ∧ i = .int .i64 (k : Nat) ∧ wr.ownsMap Tryd.prog 9 (plainElem Tryd.prog 3) w.heap.size k (plN l k) ∧ Hid (Below w.heap.size w wr)) (fun i _ => n - (intOf i).toNat)
  case atStart => exact ⟨0, by omega, rfl, World.ownsMap_made _ _ _ _, (Below.refl _ _).alloc (Nat.le_refl _) _⟩
  case round =>
    obtain ⟨k, hkn, rfl, hown, HB⟩ := hrel
    by_cases hlt : k < n
    · have hlz : (k : Int) < (n : Int) := by omega
      obtain ⟨x, hx⟩ : ∃ x, l[k]? = some x := ⟨l[k]'(by rw [HL.out]; exact hlt), List.getElem?_eq_getElem _⟩
      have HC2 : TA B wr a l := TA.below HC.out (fun b hb => HB.out.block b (by omega))
      obtain ⟨b, off, rfl, _, x0, x1, x2⟩ := HC2 k x hx
      have hxz := HZ.out x (List.mem_of_getElem? hx)
      have HP : Hid (plN l (k + 1) = (plN l k).put (keyT x.name) (.lit (.int .i64 (k : Nat)))) := by rw [Hid, plN, nmAt_some hx]
      obtain ⟨D, hD⟩ : ∃ D, plN l k = D := ⟨_, rfl⟩
      rw [hD] at HP hown
      obtain ⟨xn, xk, xq⟩ := x
      simp only at x0 x1 x2 HP
      have hkey : keyOf Tryd.prog 9 (.string xn) = some (keyT xn) := keyOf_string_mk Tryd.underlying9 (by have := hxz.1; unfold maxLen; simp only at this; omega)
      have hown2 : (wr.alloc (.cells #[.string xn, .string xk, .int .i64 xq] 24)).ownsMap Tryd.prog 9 (plainElem Tryd.prog 3) w.heap.size k D := World.ownsMap.alloc hown _
      have HB2 : Hid (Below w.heap.size w (wr.alloc (.cells #[.string xn, .string xk, .int .i64 xq] 24))) := HB.out.alloc HB.out.size _
      clear hx HC2 hD hxz hown
      go_wp2_with (at_mapUpdate; refine wpList_mapUpdate_own _ rfl _ _ _ 48 rfl 9 3 mlaw Tryd.underlying48 _ w.heap.size k _ rfl hown2 (by unfold maxLen; omega) _ _ _ rfl rfl hkey _ [] (plainElem_int Tryd.underlying3 (WalkArith.wf_i64 (by omega))) ?_)
      intro w3 hown3 hgrow3
      have HB3 : Hid (Below w.heap.size w w3) := HB2.out.grown hgrow3 HB2.out.size (fun j hj => by cases hj; exact Nat.le_refl _)
      clear hgrow3 hown2
      go_wp2_with fail
      go_roundw
      case rel => exact ⟨k + 1, by omega, by go_num, by rw [HP.out]; exact hown3, HB3.out⟩
      case measure => simp [intOf]; omega
    · have hlz : ¬ (k : Int) < (n : Int) := by omega
      obtain rfl : k = n := by omega
      go_wp2_with fail
      go_ret
      exact ⟨rfl, hown, HB.out⟩
set_option maxRecDepth 20000 in
set_option maxHeartbeats 8000000 in
theorem check_any (a : Option Addr) (c B : Nat) (l : List Tn) (w : World) (h : TA B w a l) (hB : B ≤ w.heap.size) (hl : l.length ≤ 4000000000000) (hz : ∀ t ∈ l, tnZ t) :
    Calls Tryd.prog 11 #[.slice a l.length c] w fun e w' => e = .returned (.int .i64 (chkR l)) ∧ Below w.heap.size w w' := by
  have HP : Hid (∀ W : World, _) := fun W h1 h2 => places_any a c B l W h1 h2 hl hz
  have HS := plN_size l l.length
  rw [dstN_iff] at HS
  obtain ⟨n, hn⟩ : ∃ n, l.length = n := ⟨_, rfl⟩
  have HL : Hid _ := hn
  have HC : Hid _ := h
  have HZ : Hid _ := hz
  have HF : Hid (¬ goodT l → chkR l = 1) := chkR_bad
  have HG : Hid (goodT l → chkR l = 0) := chkR_good
  obtain ⟨T, hT⟩ : ∃ T, chkR l = T := ⟨_, rfl⟩
  rw [hT] at HF HG ⊢
  rw [hn] at hl HP HS ⊢
  obtain ⟨D, hD⟩ : ∃ D, plN l n = D := ⟨_, rfl⟩
  rw [hD] at HP HS
  obtain ⟨m, hm⟩ : ∃ m, size D = m := ⟨_, rfl⟩
  have HM : Hid _ := hm
  rw [hm] at HS
  have HSS : Hid _ := HS
  have hmn := HS.1
  clear hn h hz hT hD hm HS
  rcases (by omega : n < 1 ∨ 16 < n ∨ (1 ≤ n ∧ n ≤ 16)) with g | g | g
  · have HR : Hid (T = 1) := HF.out (fun q => by have := q.1; have := HL.out; omega)
    have q0 : (n : Int) < 1 := by omega
    go_enter Tryd.func11, Tryd.ntmps11
    go_wp2_with fail
    go_ret
    exact ⟨by rw [HR.out]; rfl, Below.refl _ _⟩
  · have HR : Hid (T = 1) := HF.out (fun q => by have := q.2.1; have := HL.out; omega)
    have q0 : ¬ (n : Int) < 1 := by omega
    have q1 : (16 : Int) < (n : Int) := by omega
    go_enter Tryd.func11, Tryd.ntmps11
    go_wp2_with fail
    go_ret
    exact ⟨by rw [HR.out]; rfl, Below.refl _ _⟩
  · have q0 : decide ((n : Int) < 1) = false := by simp; omega
    have q1 : decide ((16 : Int) < (n : Int)) = false := by simp; omega
    go_enter Tryd.func11, Tryd.ntmps11
    go_wp2_with fail
    refine (HP.out _ HC.out hB).mono ?_
    rintro e w1 ⟨rfl, hown, b1⟩
    have hln := hown.len Tryd.underlying48 3
    rw [HM.out] at hln
    have HB1 : Hid _ := b1
    clear hown b1
    by_cases hmm : m < n
    · have q2 : (m : Int) < (n : Int) := by omega
      have HR : Hid (T = 1) := HF.out (fun q => by have := HSS.out.2.2 q.2.2.2; omega)
      go_wp2_with fail
      go_ret
      exact ⟨by rw [HR.out]; rfl, HB1.out⟩
    · have q2 : decide ((m : Int) < (n : Int)) = false := by simp; omega
      have HND : Hid ((l.map Tn.name).Nodup) := HSS.out.2.1 (by omega)
      go_wp2_with fail
      go_loopw [23] (fun i wr => ∃ k : Nat, k ≤ n ∧ i = .int .i64 (k : Nat) ∧ Hid ((l.take k).all okT = true) ∧ Hid (Below w.heap.size w wr)) (fun i _ => n - (intOf i).toNat)
      case atStart => exact ⟨0, by omega, rfl, by rw [Hid, List.take_zero]; rfl, HB1.out⟩
      case round =>
        obtain ⟨k, hkn, rfl, HE, HB⟩ := hrel
        by_cases hlt : k < n
        · have hlz : (k : Int) < (n : Int) := by omega
          obtain ⟨x, hx⟩ : ∃ x, l[k]? = some x := ⟨l[k]'(by rw [HL.out]; exact hlt), List.getElem?_eq_getElem _⟩
          have HC2 : TA B wr a l := TA.below HC.out (fun b hb => HB.out.block b (by omega))
          obtain ⟨b, off, rfl, hbl, x0, x1, x2⟩ := HC2 k x hx
          have hxz := HZ.out x (List.mem_of_getElem? hx)
          have H1 : Hid (∀ W : World, _) := fun W => mayBe_any x hxz.1 hxz.2 W
          have HX : Hid _ := hx
          simp only [tnV] at H1
          have HB2 : Hid (∀ o, Below w.heap.size w (wr.alloc o)) := fun o => HB.out.alloc HB.out.size o
          cases hok : okT x with
          | false =>
            rw [hok] at H1
            have HR : Hid (T = 1) := HF.out (allT_at HX.out hok)
            clear hok hx HC2 hxz
            go_wp2_with (go_at_call 23; refine (H1.out _).mono ?_; rintro e w2 ⟨rfl, b2⟩)
            go_ret
            exact ⟨by rw [HR.out]; rfl, (HB2.out _).trans (b2.mono (HB2.out _).size)⟩
          | true =>
            rw [hok] at H1
            have HE2 : Hid ((l.take (k + 1)).all okT = true) := allT_take HX.out HE.out hok
            clear hok hx HC2 hxz
            go_wp2_with (go_at_call 23; refine (H1.out _).mono ?_; rintro e w2 ⟨rfl, b2⟩)
            go_roundw
            case rel => exact ⟨k + 1, by omega, by go_num, HE2.out, (HB2.out _).trans (b2.mono (HB2.out _).size)⟩
            case measure => simp [intOf]; omega
        · have hlz : ¬ (k : Int) < (n : Int) := by omega
          have HR : Hid (T = 0) := HG.out (by
            have h1 := HE.out
            rw [List.take_of_length_le (by rw [HL.out]; omega)] at h1
            exact ⟨by have := HL.out; omega, by have := HL.out; omega, h1, HND.out⟩)
          go_wp2_with fail
          go_ret
          exact ⟨by rw [HR.out]; rfl, HB.out⟩
end Go.Proofs.YtedibkcempcpnaaDoor.T
