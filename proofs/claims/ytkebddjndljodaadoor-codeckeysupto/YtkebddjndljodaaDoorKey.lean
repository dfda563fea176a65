/-
  The contract of Key: the key of any parts, or why there is none.
-/
import Derived.Test.YtkebddjndljodaaDoorPutPart
import Derived.Test.YtkebddjndljodaaDoorBelow
namespace Go.Proofs.YtkebddjndljodaaDoor
open Go.RowKit
/-- A part may be. -/
def okB (p : Prt) : Bool := if p.isNum then p.text.toList.isEmpty else p.num == 0
theorem okB_ok {p : Prt} (h : okB p = true) (hn : p.num < 18446744073709551616) : p.ok := by
  obtain ⟨t, n, i⟩ := p
  unfold okB at h
  refine ⟨hn, fun e => ?_, fun e => ?_⟩
  · dsimp only at e h ⊢
    subst e
    simp [ByteArray.toList_eq] at h
    simp [h]
  · dsimp only at e h ⊢
    subst e
    simpa using h
/-- Why parts have no key; 0: they have one. -/
def keyErr (ps : List Prt) : Int := if 8 < ps.length then 3 else if ps.all okB then 0 else 1
/-- Their key, or nothing. -/
def keyBytes (ps : List Prt) : List UInt8 := if keyErr ps = 0 then keyOf ps else []
/-- Parts in memory, of which no more is asked than that they are small. -/
structure Small (w : World) (a : Option Addr) (ps : List Prt) : Prop where
  lies : PartsAt w a ps
  few : ps.length ≤ 1048576
  texts : ∀ p ∈ ps, p.text.size ≤ 1048576
  nums : ∀ p ∈ ps, p.num < 18446744073709551616
theorem Small.below {w w' : World} {a : Option Addr} {ps : List Prt} {B : Nat} (h : Small w a ps) (hB : w.heap.size ≤ B) (k : Below B w w') : Small w' a ps := ⟨h.lies.below hB k, h.few, h.texts, h.nums⟩
theorem mem_at {ps : List Prt} {k : Nat} {x : Prt} (h : ps[k]? = some x) : x ∈ ps := List.mem_of_getElem? h
theorem take_at {ps : List Prt} {k : Nat} {x : Prt} (h : ps[k]? = some x) : ps.take (k + 1) = ps.take k ++ [x] := by
  rw [List.take_add_one, h]; rfl
theorem enc_len {p : Prt} (h : p.text.size ≤ 1048576) : (enc p).length ≤ 2097160 := by
  have h1 := esc_len p.text.data.toList
  have h2 := size_list p.text
  unfold enc
  split
  · simp [be8]
  · simp; omega
theorem keyOf_len : ∀ {ps : List Prt}, (∀ p ∈ ps, p.text.size ≤ 1048576) → (keyOf ps).length ≤ 2097160 * ps.length
  | [], _ => by simp [keyOf]
  | p :: ps, h => by
    have h1 := keyOf_len (ps := ps) (fun q hq => h q (by simp [hq]))
    have h2 := enc_len (h p (by simp))
    rw [keyOf_cons, List.length_append, List.length_cons]
    omega
theorem keyErr_long {ps : List Prt} (h : 8 < ps.length) : keyErr ps = 3 ∧ keyBytes ps = [] := by simp [keyBytes, keyErr, h]
theorem keyErr_bad {ps : List Prt} {k : Nat} {x : Prt} (h : ¬ 8 < ps.length) (hx : ps[k]? = some x) (hb : okB x = false) : keyErr ps = 1 ∧ keyBytes ps = [] := by
  have : ps.all okB = false := by
    rw [List.all_eq_false]
    exact ⟨x, mem_at hx, by simp [hb]⟩
  simp [keyBytes, keyErr, h, this]
theorem keyErr_ok {ps : List Prt} (h : ¬ 8 < ps.length) (hb : ∀ p ∈ ps, okB p = true) : keyErr ps = 0 ∧ keyBytes ps = keyOf ps := by
  have : ps.all okB = true := List.all_eq_true.2 hb
  simp [keyBytes, keyErr, h, this]
set_option maxRecDepth 100000 in
set_option maxHeartbeats 4000000 in
theorem key_any (a : Option Addr) (ca : Nat) (ps : List Prt) (m : Int) (w : World) (hp : Small w a ps) (hm : w.cell? ⟨0, 0, none⟩ = some (.int .i64 m)) :
    Calls Tryd.prog 7 #[.slice a ps.length ca] w fun r w' => r = .returned (.tuple #[.string ⟨(keyBytes ps).toArray⟩, .int .i64 (keyErr ps)]) ∧ Below w.heap.size w w' := by
  have HA : Hid _ := hp
  have hl := hp.few
  clear hp
  have HM : Hid _ := hm
  clear hm
  obtain ⟨n, hn⟩ : ∃ n, ps.length = n := ⟨_, rfl⟩
  have HN : Hid _ := hn
  rw [hn] at hl
  rw [hn]
  clear hn
  by_cases h8 : 8 < n
  · have HK := keyErr_long (ps := ps) (by rw [HN.out]; exact h8)
    rw [HK.1, HK.2]
    clear HK
    go_enter Tryd.func7, Tryd.ntmps7
    go_wp2_with fail
    go_ret2
    exact ⟨rfl, Below.refl _ _⟩
  · go_enter Tryd.func7, Tryd.ntmps7
    go_wp2_with fail
    go_loopw [14] (fun i wr => ∃ k : Nat, k ≤ n ∧ i = .int .i64 k ∧ Hid (∀ j x, j < k → ps[j]? = some x → okB x = true) ∧ Below w.heap.size w wr) (fun i _ => n - (intOf i).toNat)
    case atStart => exact ⟨0, by omega, rfl, fun j x hj => by omega, Below.refl _ _⟩
    case round =>
      obtain ⟨k, hk, rfl, HE, hbel⟩ := hrel
      by_cases hlt : k < n
      · obtain ⟨x, hx⟩ : ∃ x, ps[k]? = some x := ⟨ps[k]'(by rw [HN.out]; exact hlt), List.getElem?_eq_getElem _⟩
        obtain ⟨g, og, rfl, hg1, x0, x1, x2⟩ := HA.out.lies k x hx
        have HX : Hid _ := hx
        clear hx
        replace x0 := (hbel.cell (p := ⟨g, og + k * 3, none⟩) hg1).trans x0
        replace x1 := (hbel.cell (p := ⟨g, og + k * 3 + 1, none⟩) hg1).trans x1
        replace x2 := (hbel.cell (p := ⟨g, og + k * 3 + 2, none⟩) hg1).trans x2
        have HB1 : Hid (∀ o, Below w.heap.size w (wr.alloc o)) := fun o => hbel.alloc hbel.size _
        have HOK : Hid (∀ b, okB x = b → b = true → ∀ j y, j < k + 1 → ps[j]? = some y → okB y = true) := by
          intro b e1 e2 j y hj hy
          by_cases hjk : j < k
          · exact HE.out j y hjk hy
          · obtain rfl : j = k := by omega
            rw [HX.out] at hy
            cases hy
            rw [e1, e2]
        have HBAD : Hid (okB x = false → keyErr ps = 1 ∧ keyBytes ps = []) := fun e => keyErr_bad (by rw [HN.out]; exact h8) HX.out e
        obtain ⟨t, q, i⟩ := x
        dsimp only at x0 x1 x2
        cases i with
        | true =>
          cases ht : t.toList.isEmpty with
          | true =>
            have HO : Hid (okB ⟨t, q, true⟩ = true) := by simp [Hid, okB, ht]
            go_wp2_with fail
            go_roundw
            case rel => exact ⟨k + 1, by omega, by go_num, HOK.out _ HO.out rfl, HB1.out _⟩
            case measure => simp [intOf]; omega
          | false =>
            have HO : Hid (okB ⟨t, q, true⟩ = false) := by simp [Hid, okB, ht]
            have HBD := HBAD.out HO.out
            go_wp2_with fail
            go_ret2
            rw [HBD.1, HBD.2]
            exact ⟨rfl, HB1.out _⟩
        | false =>
          cases hq : ((q : Int) == 0) with
          | true =>
            have HO : Hid (okB ⟨t, q, false⟩ = true) := by simp at hq; simp [Hid, okB, hq]
            go_wp2_with fail
            go_roundw
            case rel => exact ⟨k + 1, by omega, by go_num, HOK.out _ HO.out rfl, HB1.out _⟩
            case measure => simp [intOf]; omega
          | false =>
            have HO : Hid (okB ⟨t, q, false⟩ = false) := by simp at hq; simp [Hid, okB, hq]
            have HBD := HBAD.out HO.out
            go_wp2_with fail
            go_ret2
            rw [HBD.1, HBD.2]
            exact ⟨rfl, HB1.out _⟩
      · obtain rfl : k = n := by omega
        have HALL : Hid (∀ x ∈ ps, okB x = true) := by
          intro x hx
          obtain ⟨j, hj, e⟩ := List.getElem_of_mem hx
          exact HE.out j x (by have := HN.out; omega) (by rw [List.getElem?_eq_getElem hj, e])
        have HK : Hid _ := keyErr_ok (ps := ps) (by rw [HN.out]; exact h8) HALL.out
        go_wp2_with fail
        refine (newWriter_any 9223372036854775807 _).mono ?_
        rintro e w1 ⟨rfl, h1, k1⟩
        rw [show max (9223372036854775807 : Int) 0 = 9223372036854775807 from rfl] at h1
        replace h1 := h1.none (w.heap.size)
        have B1 : Below w.heap.size w w1 := hbel.trans (k1.below hbel.size (fun _ f => f.elim))
        have z0 := hbel.size
        have z00 : 0 < w.heap.size := World.block_lt_of_cell? w _ HM.out
        obtain ⟨b, hbd⟩ : ∃ b, wr.heap.size = b := ⟨_, rfl⟩
        rw [hbd] at h1 z0 ⊢
        clear hbd k1 hbel HE
        go_wp2_with fail
        go_loopw [39] (fun i ws => ∃ j : Nat, ∃ v, j ≤ k ∧ i = .int .i64 j ∧ WIs ws w.heap.size b 9223372036854775807 (keyOf (ps.take j)) false v ∧ Below w.heap.size w ws) (fun i _ => k - (intOf i).toNat)
        case atStart => exact ⟨0, _, by omega, rfl, h1, B1⟩
        case round =>
          obtain ⟨j, v, hj, rfl, hW, hbel⟩ := hrel
          clear h1 B1
          by_cases hlt : j < k
          · obtain ⟨x, hx⟩ : ∃ x, ps[j]? = some x := ⟨ps[j]'(by rw [HN.out]; exact hlt), List.getElem?_eq_getElem _⟩
            obtain ⟨g, og, rfl, hg1, x0, x1, x2⟩ := HA.out.lies j x hx
            have hmem := mem_at hx
            have HXS := HA.out.texts x hmem
            have HXO : x.ok := okB_ok (HALL.out x hmem) (HA.out.nums x hmem)
            have HKL : (keyOf (ps.take j)).length ≤ 1073741824 := by
              have h9 := keyOf_len (ps := ps.take j) (fun p hp => HA.out.texts p (List.mem_of_mem_take hp))
              rw [List.length_take] at h9
              have := HN.out
              omega
            have HNX : Hid (keyOf (ps.take (j + 1)) = keyOf (ps.take j) ++ enc x) := by rw [Hid, take_at hx, keyOf_snoc]
            clear hx hmem
            replace x0 := (hbel.cell (p := ⟨g, og + j * 3, none⟩) hg1).trans x0
            replace x1 := (hbel.cell (p := ⟨g, og + j * 3 + 1, none⟩) hg1).trans x1
            replace x2 := (hbel.cell (p := ⟨g, og + j * 3 + 2, none⟩) hg1).trans x2
            have HC : Hid (∀ o, Calls Tryd.prog 23 #[.pointer (some ⟨b, 0, none⟩), .agg #[.string x.text, .int .u64 x.num, .bool x.isNum]] (wr.alloc o) fun r w' => r = .returned (.tuple #[]) ∧ (∃ v', WIs w' w.heap.size b 9223372036854775807 (keyOf (ps.take j) ++ enc x) false v') ∧ WKeeps w.heap.size b (wr.alloc o) w') := fun o =>
              putPart_any x m HXO (hW.alloc o) (by have := hbel.size; simp; omega) (by omega) z00 (by decide) (by decide) HXS HKL (by decide) (cell_more o ((hbel.cell (p := ⟨0, 0, none⟩) z00).trans HM.out))
            have HB1 : Hid (∀ o, Below w.heap.size w (wr.alloc o)) := fun o => hbel.alloc hbel.size _
            have z1 := hbel.size
            clear HXO HXS HKL
            go_wp2_with fail
            refine (HC.out _).mono ?_
            rintro e w3 ⟨rfl, ⟨v3, h3⟩, k3⟩
            rw [← HNX.out] at h3
            have HB3 : Hid (Below w.heap.size w w3) := (HB1.out _).trans (k3.below (by simp; omega) (by rintro i (rfl | hi) <;> omega))
            clear x0 x1 x2 hW k3
            go_wp2_with fail
            go_roundw
            case rel => exact ⟨j + 1, v3, by omega, by go_num, h3, HB3.out⟩
            case measure => simp [intOf]; omega
          · obtain rfl : j = k := by omega
            rw [List.take_of_length_le (by rw [HN.out]; exact Nat.le_refl _)] at hW
            go_wp2_with fail
            refine (wdone_ok hW).mono ?_
            rintro e5 w5 ⟨rfl, rfl⟩
            go_wp2_with fail
            go_ret2
            rw [HK.out.1, HK.out.2]
            exact ⟨rfl, hbel⟩
end Go.Proofs.YtkebddjndljodaaDoor
