/-
  The contract of places: of a key it goes over as many places as the last byte says, and stops where it is told so.
-/
import Derived.RangeFuncNested
import Derived.RangeFuncBound
import Derived.RangeFuncCalls
import Derived.RangeFuncLeaves
import Derived.Shelf.Abstract
import Derived.Shelf.RegionOpen
import Derived.WalkKit
import Derived.OwnWalkIn
import Derived.TacticsInMore
import Derived.LoopNIn
import Derived.LoopIn
import Derived.Deep.QuietTactic
import Derived.BigQuiet
import Derived.Test.YtoopgddhkdekmaaMix
namespace Go.Proofs.Ytoopgddhkdekmaa
open Go.RowKit Go.Shelf
attribute [local go_sem] Oper.semAt_some
/-- A key's number. -/
def hashN (key : ByteArray) : Nat := mixN ((key.size * 4294967296 % 18446744073709551616) ||| Cx.crc key.data.toList)
def stepN (key : ByteArray) : Nat := mixN (hashN key) ||| 1
def atN (h s : Nat) : Nat → Nat
  | 0 => h
  | i + 1 => (atN h s i + s) % 18446744073709551616
/-- The place of that number, of a key, among so many bits. -/
def placeN (key : ByteArray) (m i : Nat) : Nat := atN (hashN key) (stepN key) i % m
theorem hashN_lt (key : ByteArray) : hashN key < 18446744073709551616 := mixN_lt _
theorem stepN_lt (key : ByteArray) : stepN key < 18446744073709551616 := Nat.or_lt_two_pow (n := 64) (mixN_lt _) (by decide)
theorem atN_lt {h s : Nat} (hh : h < 18446744073709551616) : ∀ i, atN h s i < 18446744073709551616
  | 0 => hh
  | i + 1 => Nat.mod_lt _ (by decide)
theorem seed_lt (key : ByteArray) : (key.size * 4294967296 % 18446744073709551616) ||| Cx.crc key.data.toList < 18446744073709551616 :=
  Nat.or_lt_two_pow (n := 64) (Nat.mod_lt _ (by decide)) (by have := Cx.crc_lt key.data.toList; omega)
/-- Among so many. -/
abbrev Pl (m : Nat) := { x : Nat // x < m }
def plc (key : ByteArray) {m : Nat} (hm : 0 < m) (i : Nat) : Pl m := ⟨placeN key m i, Nat.mod_lt _ hm⟩
/-- A key's places, one behind the other. -/
def plcs (key : ByteArray) {m : Nat} (hm : 0 < m) (k : Nat) : List (Pl m) := (List.range k).map (plc key hm)
theorem plcs_succ (key : ByteArray) {m : Nat} (hm : 0 < m) (k : Nat) : plcs key hm (k + 1) = plcs key hm k ++ [plc key hm k] := by simp [plcs, List.range_succ]
theorem plcs_len (key : ByteArray) {m : Nat} (hm : 0 < m) (k : Nat) : (plcs key hm k).length = k := by simp [plcs]
set_option maxRecDepth 100000 in
set_option maxHeartbeats 4000000 in
theorem places_stops (n : Nat) (hn : 1 ≤ n) (key : ByteArray) (last k B1 B2 B3 g off cap : Nat) (hm : 0 < last * 8) (w : World) (hks : key.size ≤ 140737488355328) (hl : last ≤ 1152921504606846976) (hk : k < 256)
    (c1 : w.cell? ⟨B1, 0, none⟩ = some (.int .i64 last)) (c2 : w.cell? ⟨B2, 0, none⟩ = some (.string key)) (c3 : w.cell? ⟨B3, 0, none⟩ = some (.slice (some ⟨g, off, none⟩) (last + 1) cap))
    (c4 : w.cell? ⟨g, off + last, none⟩ = some (.int .u8 k)) :
    SeqStops Fence.wide n Try.prog 67 #[.pointer (some ⟨B1, 0, none⟩), .pointer (some ⟨B2, 0, none⟩), .pointer (some ⟨B3, 0, none⟩)] (fun x : Pl (last * 8) => Value.int .u64 (x.1 : Nat)) (fun xs => xs = plcs key hm k) (fun pre => ∃ j, j < k ∧ pre = plcs key hm (j + 1)) k w := fun l J Jx W hW hJ hJx hY h0 => by
  have d1 := (hW.cell (p := ⟨B1, 0, none⟩) (World.block_lt_of_cell? w _ c1)).trans c1
  have d2 := (hW.cell (p := ⟨B2, 0, none⟩) (World.block_lt_of_cell? w _ c2)).trans c2
  have d3 := (hW.cell (p := ⟨B3, 0, none⟩) (World.block_lt_of_cell? w _ c3)).trans c3
  have d4 := (hW.cell (p := ⟨g, off + last, none⟩) (World.block_lt_of_cell? w _ c4)).trans c4
  clear c1 c2 c3 c4
  refine callsIn_of_wp Try.func67 rfl trivial ?_ rfl
  refine wpIn_wide.2 ?_
  simp only [Try.ntmps67, List.size_toArray, List.length_cons, List.length_nil, Nat.reduceAdd, Nat.reduceSub, Array.replicate_succ, Array.replicate_zero, List.push_toArray, List.append_toArray, List.nil_append, List.cons_append]
  obtain ⟨cr, hcr⟩ : ∃ cr, Cx.crc key.data.toList = cr := ⟨_, rfl⟩
  obtain ⟨sd, hsd⟩ : ∃ sd, (key.size * 4294967296 % 18446744073709551616) ||| cr = sd := ⟨_, rfl⟩
  have hcl : cr < 4294967296 := by rw [← hcr]; exact Cx.crc_lt _
  have hsl : sd < 18446744073709551616 := by rw [← hsd, ← hcr]; exact seed_lt key
  have hor : bits BinOp.or IntKind.u64 (IntKind.u64.wrap ((key.size : Int) * 4294967296)) (cr : Int) = (sd : Int) := by
    rw [IntKind.wrap_u64, show (key.size : Int) * 4294967296 % 18446744073709551616 = ((key.size * 4294967296 % 18446744073709551616 : Nat) : Int) from by omega, u64_or_nat _ _ (Nat.mod_lt _ (by decide)) (by omega), hsd]
  have HH : Hid (mixN sd = hashN key) := by rw [Hid, hashN, hcr, hsd]
  obtain ⟨hh, hhd⟩ : ∃ hh, mixN sd = hh := ⟨_, rfl⟩
  have hhl : hh < 18446744073709551616 := by rw [← hhd]; exact mixN_lt _
  rw [hhd] at HH
  go_wp2_with fail
  have HC : Hid (∀ W' : World, Calls Try.prog 51 #[.string key] W' fun e w' => e = .returned (.int .u32 (cr : Nat)) ∧ w' = W') := fun W' => by rw [← hcr]; exact crc_any key W' (by unfold maxLen; omega)
  have HM : Hid (∀ W' : World, Calls Try.prog 68 #[.int .u64 (sd : Nat)] W' fun e w' => e = .returned (.int .u64 (hh : Nat)) ∧ w' = W') := fun W' => by rw [← hhd]; exact mix_any sd W' hsl
  have HM2 : Hid (∀ W' : World, Calls Try.prog 68 #[.int .u64 (hh : Nat)] W' fun e w' => e = .returned (.int .u64 (mixN hh : Nat)) ∧ w' = W') := fun W' => mix_any hh W' hhl
  have hor2 : bits BinOp.or IntKind.u64 ((mixN hh : Nat) : Int) 1 = ((mixN hh ||| 1 : Nat) : Int) := u64_or_nat _ 1 (mixN_lt _) (by decide)
  obtain ⟨m1, hm1⟩ : ∃ m1, mixN hh = m1 := ⟨_, rfl⟩
  obtain ⟨st, hst⟩ : ∃ st, m1 ||| 1 = st := ⟨_, rfl⟩
  rw [hm1] at HM2 hor2
  rw [hst] at hor2
  have HS : Hid (st = stepN key) := by rw [Hid, stepN, ← HH.out, hm1, hst]
  have hstl : st < 18446744073709551616 := by rw [HS.out]; exact stepN_lt key
  clear hcr hsd hhd hm1 hst
  go_quiet (first
    | (go_at_call 51; exact Calls.quiet_of_same (HC.out _))
    | (go_at_call 68; exact Calls.quiet_of_same (HM.out _)))
  have h0' : J [] (W.drewN nq) := hJ [] W _ none h0 ⟨rfl, rfl, rfl, Nat.le_refl _, fun _ _ _ => rfl⟩ (fun r e => by cases e)
  go_wp2_with fail
  refine (HM2.out _).mono ?_
  rintro e w' ⟨rfl, rfl⟩
  go_wp2_with fail
  refine (wpIn_wide (n := n)).1 ?_
  gi_loopw [6, 27] (fun a i wr => ∃ j : Nat, j ≤ k ∧ i = .int .u8 (j : Nat) ∧ a = .int .u64 (atN hh st j : Nat) ∧ J (plcs key hm j) wr) (fun _ i _ => k - (intOf i).toNat)
  case atStart => exact ⟨0, by omega, rfl, rfl, h0'⟩
  case round =>
    obtain ⟨j, hj, rfl, rfl, hJj⟩ := hrel
    have hat : atN hh st j < 18446744073709551616 := atN_lt hhl j
    have HNX : Hid (atN hh st (j + 1) = (atN hh st j + st) % 18446744073709551616) := rfl
    have HPL : Hid ((plc key hm j).1 = atN hh st j % (last * 8)) := by rw [Hid, HS.out, HH.out]; rfl
    have HPS : Hid (plcs key hm (j + 1) = plcs key hm j ++ [plc key hm j]) := plcs_succ key hm j
    obtain ⟨A, hA⟩ : ∃ A, atN hh st j = A := ⟨_, rfl⟩
    rw [hA] at hat HNX HPL
    rw [hA]
    by_cases hlt : j < k
    · obtain ⟨fn, tmps, assign, body, hy, hR⟩ := hY (plcs key hm j) (plc key hm j) wr hJj (by rw [plcs_len]; exact hlt)
      try dsimp only at hy
      rw [HPL.out, show ((A % (last * 8) : Nat) : Int) = (A : Int) % ((last : Int) * 8) from by push_cast; rfl] at hy
      have hnx : IntKind.u64.wrap ((A : Int) + (st : Int)) = ((atN hh st (j + 1) : Nat) : Int) := by rw [HNX.out, IntKind.wrap_u64]; omega
      clear hA
      gi_wp2
      refine hR.mono ?_
      rintro e W3 (⟨rfl, hJ3, _⟩ | ⟨rfl, hJx3⟩)
      · rw [← HPS.out] at hJ3
        gi_wp2
        go_roundw
        case rel => exact ⟨j + 1, by omega, by go_num, rfl, hJ3⟩
        case measure => simp [intOf]; omega
      · rw [← HPS.out] at hJx3
        gi_wp2
        refine bodyPost_ret (results_none rfl _ _ _) rfl ?_
        exact ⟨⟨_, rfl⟩, .inr ⟨_, ⟨j, hlt, rfl⟩, hJx3⟩⟩
    · obtain rfl : j = k := by omega
      clear hA
      gi_wp2
      go_end0
      exact ⟨⟨_, rfl⟩, .inl ⟨_, rfl, hJj⟩⟩
end Go.Proofs.Ytoopgddhkdekmaa
