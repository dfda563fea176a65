/-
  A further task of both loops, where there is no place.
-/
import Derived.Test.YtefmhghdehokcaaNewAt
namespace Go.Proofs.Ytefmhghdehokcaa
open Go.RowKit
theorem add_full (p q : Nat) (a8 : Option Addr) (cs : Nat) (v0 v1 v3 v4 v5 v6 v7 : Value) (w : World) (hp : w.heap[p]? = some (.cells #[v0, v1, .slice a8 64 cs, v3, v4, v5, v6, v7] 83 (0, 0))) :
    Calls Try.prog 22 #[.pointer (some ⟨p, 0, none⟩), .iface 58 (.pointer (some ⟨q, 0, none⟩))] w fun r w' => r = .returned (.tuple #[.int .i64 0, .int .i64 2]) ∧ w' = w := by
  have hin := iface_nil q
  have c2 : w.cell? ⟨p, 2, none⟩ = some (.slice a8 64 cs) := by have := cells_of_block hp 2; simpa using this
  clear hp
  go_enter Try.func22, Try.ntmps22
  go_wp2_with fail
  go_ret2
  exact ⟨rfl, rfl⟩
set_option maxRecDepth 100000 in
set_option maxHeartbeats 4000000 in
/-- A further task of loops that are full. -/
theorem law_addXG (b p x : Nat) (ad : Addr) (n c : Nat) (va : Value) (a8 aT : Option Addr) (cs cT : Nat) (v0 v1 v3 v4 v5 v6 v7 x0 x1 x2 x4 x5 x6 x7 : Value) (la : List (Int × Int)) (w : World)
    (hb : w.heap[b]? = some (.cells #[.pointer (some ⟨p, 0, none⟩), va, .pointer (some ⟨x, 0, none⟩)] 43 (0, 0)))
    (hx : w.heap[x]? = some (.cells #[x0, x1, x2, .slice aT 64 cT, x4, x5, x6, x7] 75 (0, 0)))
    (hp : w.heap[p]? = some (.cells #[v0, v1, .slice a8 64 cs, v3, v4, v5, v6, v7] 83 (0, 0)))
    (hl : la.length = n) (hn1 : n * 16 ≤ 140737488355328) (hla : ∀ j u, (flA la)[j]? = some u → w.cell? (ad.add j) = some u) :
    Calls Try.prog 10 #[.pointer (some ⟨b, 0, none⟩), .slice (some ad) n c] w fun r w' => r = .returned (.bool true) ∧ Below w.heap.size w w' := by
  obtain ⟨i0, hi, hz0, hz1, hz2⟩ := info_parts info54
  have er := empty_row54 w
  have hvs : ∀ o j u, (flA la)[j]? = some u → (w.alloc o).cell? (ad.add j) = some u := fun o j u hj => (((Below.refl _ w).alloc (Nat.le_refl _) o).cell (p := ad.add j) (World.block_lt_of_cell? _ _ (hla j u hj))).trans (hla j u hj)
  have H1 : Hid (∀ u ∈ flA la, u.oneCell' = true) := fun u hu => by
    simp only [flA, List.mem_flatMap] at hu
    obtain ⟨y, _, hy⟩ := hu
    simp at hy
    rcases hy with rfl | rfl <;> rfl
  have HLn : Hid ((flA la).length = n * 2) := by rw [Hid, flA_len, hl]
  have HB : Hid _ := hb
  have HX : Hid _ := hx
  have HPP : Hid _ := hp
  have HLL : Hid _ := hl
  have HVS : Hid _ := hvs
  have HER : Hid _ := er
  clear hb hx hp hl hvs hla er
  go_enter Try.func10, Try.ntmps10
  go_wp2_with (at_builtin; refine wpList_append_own _ rfl (.tmp 10) (.tmp 11) 32 rfl w.heap.size 54 i0 (.agg #[.int .i64 0, .int .i64 0]) 2 16 Try.underlying32 hi hz0 hz1 hz2 rfl (by decide) _ _ _ rfl HER.out ad n c (flA la) rfl HLn.out (HVS.out _) H1.out (by unfold maxLen; omega) (by omega) (by simp) ?_)
  intro v2 w2 hown2 hg2 hnn
  try simp only [List.nil_append, Nat.zero_add] at hown2
  have hB : Below w.heap.size w w2 := ((Below.refl _ w).alloc (Nat.le_refl _) _).grown hg2 (by simp) (fun i hi => ((empty_row54 w).lt i hi).1)
  rcases hown2.2 with ⟨rfl, _⟩ | ⟨g, cap, cur, rfl, hgb, hgh, hc1, _⟩
  · exfalso
    revert hnn
    simp
    try omega
  have hgs := (Array.getElem?_eq_some_iff.1 hgh).1
  have HO : Hid (w2.ownsRow w.heap.size 54 2 (.slice (some ⟨g, 0, none⟩) n cap) n (flA la)) := hown2
  have HBW : Hid _ := hB
  have HN : Hid (Calls Try.prog 23 #[.slice (some ⟨g, 0, none⟩) n cap] w2 fun r w' => ∃ q g' ca', r = .returned (.pointer (some ⟨q, 0, none⟩)) ∧ w2.heap.size ≤ q ∧ w2.heap.size ≤ g' ∧ n ≤ ca' ∧ w'.heap[q]? = some (.cells #[.slice (some ⟨g', 0, none⟩) n ca', .slice none 0 0] 91 (0, 0)) ∧ ActsAt w' (some ⟨g', 0, none⟩) la ∧ (∃ c f, w'.heap[g']? = some (.cells c 54 f)) ∧ Below w2.heap.size w2 w') := newActs_at g n cap la w2 HLL.out (by omega) (fun j y hj => by
    obtain ⟨h1, h2⟩ := flA_to la j y hj
    have c1 := World.ownsRow.cells HO.out (g := g) rfl (2 * j) _ h1
    have c2 := World.ownsRow.cells HO.out (g := g) rfl (2 * j + 1) _ h2
    rw [addr_add, Nat.zero_add] at c1 c2
    exact ⟨c1, c2⟩) hgs
  have HGB : Hid (w.heap.size ≤ g) := hgb
  have HGS : Hid (g < w2.heap.size) := hgs
  clear hown2 hg2 hnn hB hgh hgb hgs HVS HER H1
  go_wp2_with fail
  refine (HN.out).mono ?_
  rintro e w3 ⟨q, g', ca', rfl, hq, hg', hca, hqh, hacts, hty, hB3⟩
  have HO3 : Hid (w3.ownsRow w.heap.size 54 2 (.slice (some ⟨g, 0, none⟩) n cap) n (flA la)) := owns_same HO.out (fun k e => hB3.block k (by
    simp only [Value.ownBlock, Option.some.injEq] at e
    subst e
    exact HGS.out))
  have HB3 : Hid _ := hB3
  have HQ : Hid _ := hqh
  have HAC : Hid _ := hacts
  have HQG : Hid (w2.heap.size ≤ q ∧ w2.heap.size ≤ g' ∧ n ≤ ca') := ⟨hq, hg', hca⟩
  have hne := ptr_nil58 q
  clear hB3 hqh hacts HO HN hq hg' hca hty
  go_wp2_with fail
  go_loopw [7] (fun i wr => ∃ k : Nat, k ≤ n ∧ i = .int .i64 k ∧ (∃ vs : List Value, Hid (wr.ownsRow w.heap.size 54 2 (.slice (some ⟨g, 0, none⟩) n cap) n vs) ∧ Hid (∀ (j : Nat) (v : Value), vs[j]? = some v → ∃ z : Int, v = Value.int .i64 z)) ∧ Hid (Kb (fun k => k = g) w3 wr)) (fun i _ => n - (intOf i).toNat)
  case atStart => exact ⟨0, by omega, rfl, ⟨flA la, HO3.out, fun j v hj => by
      obtain ⟨i, y, _, h2⟩ := flA_at la j v hj
      rcases h2 with ⟨_, e⟩ | ⟨_, e⟩
      · exact ⟨_, e⟩
      · exact ⟨_, e⟩⟩, Kb.refl _ _⟩
  case round =>
    obtain ⟨k, hk, rfl, ⟨vs, HR, HV⟩, HK⟩ := hrel
    by_cases hlt : k < n
    · have hlv : vs.length = n * 2 := HR.out.1
      obtain ⟨v, hv⟩ : ∃ v, vs[k * 2]? = some v := ⟨vs[k * 2]'(by omega), List.getElem?_eq_getElem _⟩
      obtain ⟨z, rfl⟩ := HV.out _ _ hv
      have hc := World.ownsRow.cells HR.out (g := g) rfl (k * 2) _ hv
      rw [addr_add, Nat.zero_add] at hc
      have hfz : wr.frozen? ⟨g, k * 2, none⟩ = false := World.ownsRow.frozenAt HR.out _
      have HS : Hid (∀ u, (wr.setCell ⟨g, k * 2, none⟩ u).ownsRow w.heap.size 54 2 (.slice (some ⟨g, 0, none⟩) n cap) n (vs.set (k * 2) u)) := fun u => (World.ownsRow.stored HR.out (k * 2) u).1
      have HK2 : Hid (∀ u, Kb (fun k => k = g) w3 (wr.setCell ⟨g, k * 2, none⟩ u)) := fun u => HK.out.setCell rfl _ _
      clear hv hlv
      go_wp2_with fail
      go_roundw
      case rel => exact ⟨k + 1, by omega, by go_num, ⟨_, HS.out _, fun j v hj => by
        rw [List.getElem?_set] at hj
        split at hj
        · split at hj
          · cases hj; exact ⟨_, rfl⟩
          · cases hj
        · exact HV.out j v hj⟩, HK2.out _⟩
      case measure => simp [intOf]; omega
    · obtain rfl : k = n := by omega
      have hgs := HGS.out
      have hgb := HGB.out
      have BR : Below w.heap.size w wr := (HBW.out.trans (HB3.out.mono HBW.out.size)).trans (HK.out.below (Nat.le_trans HBW.out.size HB3.out.size) (fun k e => by omega))
      have hbr := (BR.block b (Array.getElem?_eq_some_iff.1 HB.out).1).trans HB.out
      have hxr := (BR.block x (Array.getElem?_eq_some_iff.1 HX.out).1).trans HX.out
      have hpr := (BR.block p (Array.getElem?_eq_some_iff.1 HPP.out).1).trans HPP.out
      have c0 : wr.cell? ⟨b, 0, none⟩ = some (.pointer (some ⟨p, 0, none⟩)) := by have := cells_of_block hbr 0; simpa using this
      have c2 : wr.cell? ⟨b, 2, none⟩ = some (.pointer (some ⟨x, 0, none⟩)) := by have := cells_of_block hbr 2; simpa using this
      have c3 : wr.cell? ⟨x, 3, none⟩ = some (.slice aT 64 cT) := by have := cells_of_block hxr 3; simpa using this
      have HAF : Hid _ := add_full p q a8 cs v0 v1 v3 v4 v5 v6 v7 wr hpr
      have HBB : Hid (Below w.heap.size w wr) := BR
      clear hbr hxr hpr BR hgs hgb
      go_wp2_with fail
      refine Calls.mono HAF.out ?_
      rintro e w4 ⟨rfl, hw4⟩
      subst hw4
      go_wp2_with fail
      go_ret
      exact ⟨rfl, HBB.out⟩
set_option maxRecDepth 100000 in
set_option maxHeartbeats 4000000 in
/-- A further task without acts of loops that are full. -/
theorem law_addXN (b p x : Nat) (va : Value) (a8 aT : Option Addr) (cs cT : Nat) (v0 v1 v3 v4 v5 v6 v7 x0 x1 x2 x4 x5 x6 x7 : Value) (w : World)
    (hb : w.heap[b]? = some (.cells #[.pointer (some ⟨p, 0, none⟩), va, .pointer (some ⟨x, 0, none⟩)] 43 (0, 0)))
    (hx : w.heap[x]? = some (.cells #[x0, x1, x2, .slice aT 64 cT, x4, x5, x6, x7] 75 (0, 0)))
    (hp : w.heap[p]? = some (.cells #[v0, v1, .slice a8 64 cs, v3, v4, v5, v6, v7] 83 (0, 0))) :
    Calls Try.prog 10 #[.pointer (some ⟨b, 0, none⟩), .slice none 0 0] w fun r w' => r = .returned (.bool true) ∧ Below w.heap.size w w' := by
  obtain ⟨i0, hi, hz0, hz1, hz2⟩ := info_parts info54
  have er := empty_row54 w
  have HB : Hid _ := hb
  have HX : Hid _ := hx
  have HPP : Hid _ := hp
  obtain ⟨la, hla⟩ : ∃ la : List (Int × Int), la = [] := ⟨_, rfl⟩
  have HLA0 : Hid _ := hla
  have HLL : Hid (la.length = 0) := by rw [hla]; rfl
  have HER : Hid ((w.alloc (.cells #[] 54)).ownsRow w.heap.size 54 2 (.slice (some ⟨w.heap.size, 0, none⟩) 0 0) 0 []) := er
  clear hb hx hp hla er
  go_enter Try.func10, Try.ntmps10
  go_wp2_with (at_builtin; refine wpList_append_own_none rfl (.tmp 10) (.tmp 11) 32 rfl w.heap.size 54 i0 2 Try.underlying32 hi _ _ _ rfl HER.out rfl ?_)
  have hB : Below w.heap.size w (w.alloc (.cells #[] 54)) := (Below.refl _ w).alloc (Nat.le_refl _) _
  have hgh : (w.alloc (.cells #[] 54)).heap[w.heap.size]? = some (.cells #[] 54 (0, 0)) := World.alloc_heap_new _ _
  obtain ⟨w2, hw2⟩ : ∃ w2, w.alloc (.cells #[] 54) = w2 := ⟨_, rfl⟩
  obtain ⟨g, hg⟩ : ∃ g, w.heap.size = g := ⟨_, rfl⟩
  have HO : Hid (w2.ownsRow w.heap.size 54 2 (.slice (some ⟨g, 0, none⟩) 0 0) 0 (flA la)) := by
    rw [← hw2, ← hg, HLA0.out]
    exact HER.out
  rw [hw2] at hB hgh
  rw [hg] at hgh
  have hgb : w.heap.size ≤ g := by omega
  have hgs := (Array.getElem?_eq_some_iff.1 hgh).1
  have HBW : Hid (Below w.heap.size w w2) := hB
  have HG0 : Hid _ := hg
  have HW2 : Hid _ := hw2
  have HN : Hid (Calls Try.prog 23 #[.slice (some ⟨g, 0, none⟩) 0 0] w2 fun r w' => ∃ q g' ca', r = .returned (.pointer (some ⟨q, 0, none⟩)) ∧ w2.heap.size ≤ q ∧ w2.heap.size ≤ g' ∧ 0 ≤ ca' ∧ w'.heap[q]? = some (.cells #[.slice (some ⟨g', 0, none⟩) 0 ca', .slice none 0 0] 91 (0, 0)) ∧ ActsAt w' (some ⟨g', 0, none⟩) la ∧ (∃ c f, w'.heap[g']? = some (.cells c 54 f)) ∧ Below w2.heap.size w2 w') := newActs_at g 0 0 la w2 HLL.out (by omega) (fun j y hj => by
    obtain ⟨h1, h2⟩ := flA_to la j y hj
    have c1 := World.ownsRow.cells HO.out (g := g) rfl (2 * j) _ h1
    have c2 := World.ownsRow.cells HO.out (g := g) rfl (2 * j + 1) _ h2
    rw [addr_add, Nat.zero_add] at c1 c2
    exact ⟨c1, c2⟩) hgs
  have HGB : Hid (w.heap.size ≤ g) := hgb
  have HGS : Hid (g < w2.heap.size) := hgs
  clear hB hgh hgb hgs HER hg hw2
  go_wp2_with fail
  rw [HW2.out, HG0.out]
  refine Calls.mono HN.out ?_
  rintro e w3 ⟨q, g', ca', rfl, hq, hg', hca, hqh, hacts, hty, hB3⟩
  have HO3 : Hid (w3.ownsRow w.heap.size 54 2 (.slice (some ⟨g, 0, none⟩) 0 0) 0 (flA la)) := owns_same HO.out (fun k e => hB3.block k (by
    simp only [Value.ownBlock, Option.some.injEq] at e
    subst e
    exact HGS.out))
  have HB3 : Hid _ := hB3
  have HQ : Hid _ := hqh
  have HAC : Hid _ := hacts
  have HQG : Hid (w2.heap.size ≤ q ∧ w2.heap.size ≤ g' ∧ 0 ≤ ca') := ⟨hq, hg', hca⟩
  have hne := ptr_nil58 q
  clear hB3 hqh hacts HO HN hq hg' hca hty
  go_wp2_with fail
  refine wp_loop_rounds 1 ?_
  rw [rounds_succ]
  have BR : Below w.heap.size w w3 := HBW.out.trans (HB3.out.mono HBW.out.size)
  have hbr := (BR.block b (Array.getElem?_eq_some_iff.1 HB.out).1).trans HB.out
  have hxr := (BR.block x (Array.getElem?_eq_some_iff.1 HX.out).1).trans HX.out
  have hpr := (BR.block p (Array.getElem?_eq_some_iff.1 HPP.out).1).trans HPP.out
  have c0 : w3.cell? ⟨b, 0, none⟩ = some (.pointer (some ⟨p, 0, none⟩)) := by have := cells_of_block hbr 0; simpa using this
  have c2 : w3.cell? ⟨b, 2, none⟩ = some (.pointer (some ⟨x, 0, none⟩)) := by have := cells_of_block hbr 2; simpa using this
  have c3 : w3.cell? ⟨x, 3, none⟩ = some (.slice aT 64 cT) := by have := cells_of_block hxr 3; simpa using this
  have HAF : Hid _ := add_full p q a8 cs v0 v1 v3 v4 v5 v6 v7 w3 hpr
  have HBB : Hid (Below w.heap.size w w3) := BR
  clear hbr hxr hpr BR
  go_wp2_with fail
  refine Calls.mono HAF.out ?_
  rintro e w4 ⟨rfl, hw4⟩
  subst hw4
  go_wp2_with fail
  go_ret
  exact ⟨rfl, HBB.out⟩
end Go.Proofs.Ytefmhghdehokcaa
