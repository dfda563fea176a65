/-
  The contract of lay: a record's bytes, put behind a row.
-/
import Derived.Test.YtefigcnfcbdecaaSmall
import Derived.Test.YtefigcnfcbdecaaZeros
import Derived.Test.YtefigcnfcbdecaaNext
import Derived.Lib.AppendStr
import Derived.Deep.RegionWith
namespace Go.Proofs.Ytefigcnfcbdecaa
open Go.RowKit
/-- A fragment's bytes. -/
def fragL (c : UInt8) (p : List UInt8) : List UInt8 := headL c p ++ p
/-- A record's fragments, from a room on; so many at most. -/
def layR : Nat → Bool → Nat → List UInt8 → List UInt8
  | 0, _, _, _ => []
  | g + 1, first, room, rec =>
    if rec.length ≤ room then fragL (UInt8.ofNat (kindN first true)) rec
    else fragL (UInt8.ofNat (kindN first false)) (rec.take room) ++ layR g false 1017 (rec.drop room)
/-- A record's bytes behind so many of a log. -/
def layL (at_ : Nat) (rec : List UInt8) : List UInt8 := List.replicate (skipN at_) 0 ++ layR (rec.length + 2) true (roomN at_) rec
theorem layR_last {g : Nat} {first : Bool} {room : Nat} {rec : List UInt8} (h : rec.length ≤ room) : layR (g + 1) first room rec = fragL (UInt8.ofNat (kindN first true)) rec := by rw [layR, if_pos h]
theorem layR_step {g : Nat} {first : Bool} {room : Nat} {rec : List UInt8} (h : ¬ rec.length ≤ room) : layR (g + 1) first room rec = fragL (UInt8.ofNat (kindN first false)) (rec.take room) ++ layR g false 1017 (rec.drop room) := by rw [layR, if_neg h]
theorem kindN_lt (a b : Bool) : kindN a b < 256 := by cases a <;> cases b <;> decide
theorem kind_u8 (a b : Bool) : ((UInt8.ofNat (kindN a b)).toNat : Int) = (kindN a b : Nat) := by cases a <;> cases b <;> rfl
theorem layR_len (g : Nat) : ∀ (first : Bool) (room : Nat) (rec : List UInt8), rec.length + 2 ≤ g + (if room = 0 then 0 else 1) → (layR g first room rec).length = (1 + (if rec.length ≤ room then 0 else (rec.length - room + 1016) / 1017)) * 7 + rec.length := by
  induction g with
  | zero => intro first room rec h; split at h <;> omega
  | succ g ih =>
    intro first room rec h
    by_cases hl : rec.length ≤ room
    · rw [layR_last hl, if_pos hl, fragL, List.length_append]
      show 7 + _ = _
      omega
    · rw [layR_step hl, if_neg hl, fragL, List.length_append, List.length_append, ih false 1017 (rec.drop room) (by rw [List.length_drop, if_neg (by decide)]; split at h <;> omega), List.length_drop, List.length_take]
      show 7 + _ + _ = _
      by_cases h2 : rec.length - room ≤ 1017
      · rw [if_pos h2]
        omega
      · rw [if_neg h2]
        omega
/-- How many bytes a record takes. -/
def spanN (at_ n : Nat) : Nat := skipN at_ + (1 + (if n ≤ roomN at_ then 0 else (n - roomN at_ + 1016) / 1017)) * 7 + n
theorem layL_len (at_ : Nat) (rec : List UInt8) : (layL at_ rec).length = spanN at_ rec.length := by
  rw [layL, List.length_append, List.length_replicate, layR_len _ _ _ _ (by split <;> omega), spanN]
  omega
set_option maxHeartbeats 1000000 in
theorem span_any (at_ n : Nat) (w : World) (ha : at_ ≤ 1152921504606846976) (hn : n ≤ 1152921504606846976) :
    Calls Try.prog 22 #[.int .i64 at_, .int .i64 n] w fun r w' => r = .returned (.int .i64 (spanN at_ n : Nat)) ∧ w' = w := by
  have HP : Hid (∀ W : World, Calls Try.prog 31 #[.int .i64 at_] W fun r w' => r = .returned (.tuple #[.int .i64 (skipN at_ : Nat), .int .i64 (roomN at_ : Nat)]) ∧ w' = W) := fun W => place_any at_ W (by omega)
  have hsk : skipN at_ ≤ 6 := by unfold skipN; split <;> omega
  have hrm : roomN at_ ≤ 1017 := by unfold roomN leftN; split <;> omega
  have HS : Hid (spanN at_ n = skipN at_ + (1 + (if n ≤ roomN at_ then 0 else (n - roomN at_ + 1016) / 1017)) * 7 + n) := rfl
  generalize skipN at_ = sk at *
  generalize roomN at_ = rm at *
  by_cases hl : n ≤ rm
  · have HS' : Hid (((spanN at_ n : Nat) : Int) = (sk : Int) + 7 + (n : Int)) := by rw [Hid, HS.out, if_pos hl]; omega
    rw [HS'.out]
    go_enter Try.func22, Try.ntmps22
    go_wp2_with fail
    refine (HP.out _).mono ?_
    rintro e w1 ⟨rfl, hw⟩
    subst hw
    go_wp2_with fail
    go_ret
    exact ⟨rfl, rfl⟩
  · obtain ⟨q, hq⟩ : ∃ q, (n - rm + 1016) / 1017 = q := ⟨_, rfl⟩
    have hqi : ((n : Int) - (rm : Int) + 1017 - 1) / 1017 = (q : Int) := by omega
    have hql : q ≤ 1152921504606846976 := by omega
    have HS' : Hid (((spanN at_ n : Nat) : Int) = (sk : Int) + (1 + (q : Int)) * 7 + (n : Int)) := by rw [Hid, HS.out, if_neg hl, hq]; omega
    rw [HS'.out]
    clear hq
    go_enter Try.func22, Try.ntmps22
    go_wp2_with fail
    refine (HP.out _).mono ?_
    rintro e w1 ⟨rfl, hw⟩
    subst hw
    go_wp2_with fail
    go_ret
    exact ⟨rfl, rfl⟩
theorem extract_toList (s : ByteArray) (n : Nat) : (s.extract 0 n).data.toList = s.data.toList.take n := by
  simp [ByteArray.data_extract]
theorem extract_drop (s : ByteArray) (n : Nat) : (s.extract n s.size).data.toList = s.data.toList.drop n := by
  simp only [ByteArray.data_extract, Array.toList_extract]
  rw [show List.extract s.data.toList n s.size = (s.data.toList.drop n).take (s.size - n) from rfl, List.take_of_length_le (by simp)]
theorem strCells_bl (s : ByteArray) : Lib.strCells s = bl s.data.toList := rfl
/-- A head in memory. -/
def HeadAt (W : World) (hb : Nat) (h : List UInt8) : Prop := ∀ j c, h[j]? = some c → W.cell? ⟨hb, j, none⟩ = some (u8v c)
def Z7 : Obj := .cells #[.int .u8 0, .int .u8 0, .int .u8 0, .int .u8 0, .int .u8 0, .int .u8 0, .int .u8 0] 71
theorem set7 {W : World} {b : Nat} {x0 x1 x2 x3 x4 x5 x6 v0 v1 v2 v3 v4 v5 v6 : Value} (k0 : W.cell? ⟨b, 0, none⟩ = some v0) (k1 : W.cell? ⟨b, 1, none⟩ = some v1) (k2 : W.cell? ⟨b, 2, none⟩ = some v2) (k3 : W.cell? ⟨b, 3, none⟩ = some v3) (k4 : W.cell? ⟨b, 4, none⟩ = some v4) (k5 : W.cell? ⟨b, 5, none⟩ = some v5) (k6 : W.cell? ⟨b, 6, none⟩ = some v6) : (((((((W.setCell ⟨b, 0, none⟩ x0).setCell ⟨b, 1, none⟩ x1).setCell ⟨b, 2, none⟩ x2).setCell ⟨b, 3, none⟩ x3).setCell ⟨b, 4, none⟩ x4).setCell ⟨b, 5, none⟩ x5).setCell ⟨b, 6, none⟩ x6).cell? ⟨b, 0, none⟩ = some x0 ∧ (((((((W.setCell ⟨b, 0, none⟩ x0).setCell ⟨b, 1, none⟩ x1).setCell ⟨b, 2, none⟩ x2).setCell ⟨b, 3, none⟩ x3).setCell ⟨b, 4, none⟩ x4).setCell ⟨b, 5, none⟩ x5).setCell ⟨b, 6, none⟩ x6).cell? ⟨b, 1, none⟩ = some x1 ∧ (((((((W.setCell ⟨b, 0, none⟩ x0).setCell ⟨b, 1, none⟩ x1).setCell ⟨b, 2, none⟩ x2).setCell ⟨b, 3, none⟩ x3).setCell ⟨b, 4, none⟩ x4).setCell ⟨b, 5, none⟩ x5).setCell ⟨b, 6, none⟩ x6).cell? ⟨b, 2, none⟩ = some x2 ∧ (((((((W.setCell ⟨b, 0, none⟩ x0).setCell ⟨b, 1, none⟩ x1).setCell ⟨b, 2, none⟩ x2).setCell ⟨b, 3, none⟩ x3).setCell ⟨b, 4, none⟩ x4).setCell ⟨b, 5, none⟩ x5).setCell ⟨b, 6, none⟩ x6).cell? ⟨b, 3, none⟩ = some x3 ∧ (((((((W.setCell ⟨b, 0, none⟩ x0).setCell ⟨b, 1, none⟩ x1).setCell ⟨b, 2, none⟩ x2).setCell ⟨b, 3, none⟩ x3).setCell ⟨b, 4, none⟩ x4).setCell ⟨b, 5, none⟩ x5).setCell ⟨b, 6, none⟩ x6).cell? ⟨b, 4, none⟩ = some x4 ∧ (((((((W.setCell ⟨b, 0, none⟩ x0).setCell ⟨b, 1, none⟩ x1).setCell ⟨b, 2, none⟩ x2).setCell ⟨b, 3, none⟩ x3).setCell ⟨b, 4, none⟩ x4).setCell ⟨b, 5, none⟩ x5).setCell ⟨b, 6, none⟩ x6).cell? ⟨b, 5, none⟩ = some x5 ∧ (((((((W.setCell ⟨b, 0, none⟩ x0).setCell ⟨b, 1, none⟩ x1).setCell ⟨b, 2, none⟩ x2).setCell ⟨b, 3, none⟩ x3).setCell ⟨b, 4, none⟩ x4).setCell ⟨b, 5, none⟩ x5).setCell ⟨b, 6, none⟩ x6).cell? ⟨b, 6, none⟩ = some x6 := by
  refine ⟨?_, ?_, ?_, ?_, ?_, ?_, ?_⟩ <;> go_simp
theorem alloc7 (W : World) (x0 x1 x2 x3 x4 x5 x6 : Value) : (W.alloc (.cells #[x0, x1, x2, x3, x4, x5, x6] 71)).cell? ⟨W.heap.size, 0, none⟩ = some x0 ∧ (W.alloc (.cells #[x0, x1, x2, x3, x4, x5, x6] 71)).cell? ⟨W.heap.size, 1, none⟩ = some x1 ∧ (W.alloc (.cells #[x0, x1, x2, x3, x4, x5, x6] 71)).cell? ⟨W.heap.size, 2, none⟩ = some x2 ∧ (W.alloc (.cells #[x0, x1, x2, x3, x4, x5, x6] 71)).cell? ⟨W.heap.size, 3, none⟩ = some x3 ∧ (W.alloc (.cells #[x0, x1, x2, x3, x4, x5, x6] 71)).cell? ⟨W.heap.size, 4, none⟩ = some x4 ∧ (W.alloc (.cells #[x0, x1, x2, x3, x4, x5, x6] 71)).cell? ⟨W.heap.size, 5, none⟩ = some x5 ∧ (W.alloc (.cells #[x0, x1, x2, x3, x4, x5, x6] 71)).cell? ⟨W.heap.size, 6, none⟩ = some x6 := by
  refine ⟨?_, ?_, ?_, ?_, ?_, ?_, ?_⟩ <;> go_simp
set_option maxRecDepth 100000 in
set_option maxHeartbeats 8000000 in
theorem lay_any (v : Value) (base at_ : Nat) (rec : ByteArray) (w : World) (hown : w.ownsRow base 5 1 v 0 []) (hbase : base ≤ w.heap.size) (hat : at_ ≤ 1048576) (hrec : rec.size ≤ 262144) :
    Calls Try.prog 24 #[v, .int .i64 at_, .string rec] w fun r w' => ∃ v', r = .returned v' ∧ w'.ownsRow base 5 1 v' (layL at_ rec.data.toList).length (bl (layL at_ rec.data.toList)) ∧ Below base w w' := by
  obtain ⟨i0, hi, hz0, hz1, hz2⟩ := info_parts info5
  have HP : Hid (∀ W : World, Calls Try.prog 31 #[.int .i64 at_] W fun r w' => r = .returned (.tuple #[.int .i64 (skipN at_ : Nat), .int .i64 (roomN at_ : Nat)]) ∧ w' = W) := fun W => place_any at_ W (by omega)
  have hsk : skipN at_ ≤ 6 := by unfold skipN; split <;> omega
  have hrm : roomN at_ ≤ 1017 := by unfold roomN leftN; split <;> omega
  have HL0 : Hid (List.replicate (skipN at_) 0 ++ layR (rec.size + 2) true (roomN at_) rec.data.toList = layL at_ rec.data.toList) := by rw [Hid, layL]; simp
  have HLL : Hid ((layL at_ rec.data.toList).length ≤ 1000000) := by
    rw [Hid, layL_len, spanN]
    have : rec.data.toList.length = rec.size := by simp
    split <;> omega
  generalize layL at_ rec.data.toList = all at *
  generalize skipN at_ = sk at *
  generalize roomN at_ = rm at *
  obtain ⟨va, vc, rfl⟩ := form_of_row hown
  go_enter Try.func24, Try.ntmps24
  go_wp2_with fail
  refine (HP.out _).mono ?_
  rintro e w1 ⟨rfl, hw⟩
  subst hw
  go_upto_region 3 with (at_builtin; refine wpList_append_zeros rfl (.tmp 18) (.tmp 19) rfl base _ _ _ rfl hown sk rfl (by omega) hbase ?_; intro v2 w2 hown2 hg2 hnn)
  have hB2 : Below base w1 w2 := (Below.refl _ w1).grown hg2 hbase (fun k e => (hown.lt k e).1)
  simp only [Nat.zero_add, List.nil_append] at hown2
  rw [show List.replicate sk z0 = bl (List.replicate sk 0) by simp [bl, z0]] at hown2
  clear hg2 hnn
  go_wp2_with fail
  go_loopg [0, 2, 8, 9] (rec.size + 2) (fun g r0 r2 r8 r9 wr => ∃ (acc : List UInt8) (first : Bool) (room : Nat) (rc : ByteArray), r2 = .string rc ∧ r8 = .int .i64 (room : Nat) ∧ r9 = .bool first ∧ wr.ownsRow base 5 1 r0 acc.length (bl acc) ∧ Below base w1 wr ∧ Hid (acc ++ layR g first room rc.data.toList = all) ∧ rc.size + 2 ≤ g + (if room = 0 then 0 else 1) ∧ room ≤ 1017 ∧ rc.size ≤ 262144)
  case atStart => exact ⟨List.replicate sk 0, true, rm, rec, rfl, rfl, rfl, by rw [List.length_replicate]; exact hown2, hB2, HL0, by split <;> omega, hrm, hrec⟩
  case round =>
    obtain ⟨acc, first, room, rc, rfl, rfl, rfl, hown, hB, HA, hfu, hroom, hrcs⟩ := hrel
    clear hown2 hB2 HP HL0
    obtain ⟨g', rfl⟩ : ∃ g', gk = g' + 1 := ⟨gk - 1, by split at hfu <;> omega⟩
    have hrl : rc.data.toList.length = rc.size := by simp
    obtain ⟨n, last, hn, hn2, hlast, hle⟩ : ∃ (n : Nat) (last : Bool), (if room < rc.size then (room : Int) else (rc.size : Int)) = (n : Int) ∧ n ≤ rc.size ∧ ((n : Int) == (rc.size : Int)) = last ∧ ((last = true ∧ n = rc.size ∧ rc.size ≤ room) ∨ (last = false ∧ n = room ∧ room < rc.size)) := by
      by_cases h : room < rc.size
      · exact ⟨room, false, by rw [if_pos (by omega)], by omega, by simp; omega, Or.inr ⟨rfl, rfl, h⟩⟩
      · exact ⟨rc.size, true, by rw [if_neg (by omega)], by omega, by simp, Or.inl ⟨rfl, rfl, by omega⟩⟩
    obtain ⟨k, hk⟩ : ∃ k : UInt8, UInt8.ofNat (kindN first last) = k := ⟨_, rfl⟩
    have hkn : ((kindN first last : Nat) : Int) = (k.toNat : Nat) := by rw [← hk]; exact (kind_u8 first last).symm
    have HK : Hid (∀ W : World, Calls Try.prog 33 #[.bool first, .bool last] W fun r w' => r = .returned (.int .u8 (k.toNat : Nat)) ∧ w' = W) := fun W => by rw [← hkn]; exact kindOf_any first last W
    have hpe : (rc.extract 0 n).data.toList = rc.data.toList.take n := extract_toList rc n
    have hps : (rc.extract 0 n).size = n := by simp; omega
    have HHd : Hid (∀ W : World, Calls Try.prog 32 #[.int .u8 (k.toNat : Nat), .string (rc.extract 0 n)] W fun r w' => r = .returned (.agg ((headL k (rc.data.toList.take n)).map u8v).toArray) ∧ Below W.heap.size W w') := fun W => by
      have := headOf_any k (rc.extract 0 n) W (by omega)
      rw [hpe] at this
      exact this
    obtain ⟨hd, hhd⟩ : ∃ hd, headL k (rc.data.toList.take n) = hd := ⟨_, rfl⟩
    obtain ⟨y0, y1, y2, y3, y4, y5, y6, hy⟩ : ∃ y0 y1 y2 y3 y4 y5 y6 : UInt8, hd = [y0, y1, y2, y3, y4, y5, y6] := by rw [← hhd]; exact ⟨_, _, _, _, _, _, _, rfl⟩
    have HHD : Hid (headL k (rc.data.toList.take n) = [y0, y1, y2, y3, y4, y5, y6]) := hhd.trans hy
    rw [HHD.out] at HHd
    have HHb : Hid (∀ W : World, Below wr.heap.size wr W → Calls Try.prog 32 #[.int .u8 (k.toNat : Nat), .string (rc.extract 0 n)] W fun r w' => r = .returned (.agg #[.int .u8 (y0.toNat : Nat), .int .u8 (y1.toNat : Nat), .int .u8 (y2.toNat : Nat), .int .u8 (y3.toNat : Nat), .int .u8 (y4.toNat : Nat), .int .u8 (y5.toNat : Nat), .int .u8 (y6.toNat : Nat)]) ∧ Below wr.heap.size wr w') := fun W kb => (HHd.out W).mono (fun r w' ⟨e, b⟩ => ⟨e, kb.trans (b.mono kb.size)⟩)
    have HHa : Hid (Calls Try.prog 32 #[.int .u8 (k.toNat : Nat), .string (rc.extract 0 n)] ((wr.alloc (.cells #[.int .u8 0, .int .u8 0, .int .u8 0, .int .u8 0, .int .u8 0, .int .u8 0, .int .u8 0] 71)).drew) fun r w6 => (r = .returned (.agg #[.int .u8 (y0.toNat : Nat), .int .u8 (y1.toNat : Nat), .int .u8 (y2.toNat : Nat), .int .u8 (y3.toNat : Nat), .int .u8 (y4.toNat : Nat), .int .u8 (y5.toNat : Nat), .int .u8 (y6.toNat : Nat)]) ∧ Below wr.heap.size wr w6) ∧ (w6.cell? ⟨wr.heap.size, 0, none⟩ = some (.int .u8 0) ∧ w6.cell? ⟨wr.heap.size, 1, none⟩ = some (.int .u8 0) ∧ w6.cell? ⟨wr.heap.size, 2, none⟩ = some (.int .u8 0) ∧ w6.cell? ⟨wr.heap.size, 3, none⟩ = some (.int .u8 0) ∧ w6.cell? ⟨wr.heap.size, 4, none⟩ = some (.int .u8 0) ∧ w6.cell? ⟨wr.heap.size, 5, none⟩ = some (.int .u8 0) ∧ w6.cell? ⟨wr.heap.size, 6, none⟩ = some (.int .u8 0) ∧ ∀ j, w6.frozen? ⟨wr.heap.size, j, none⟩ = false)) := by
      refine (HHd.out _).mono ?_
      rintro r w6 ⟨e, b6⟩
      have hlt : wr.heap.size < ((wr.alloc (.cells #[.int .u8 0, .int .u8 0, .int .u8 0, .int .u8 0, .int .u8 0, .int .u8 0, .int .u8 0] 71)).drew).heap.size := by simp
      exact ⟨⟨e, (((Below.refl _ wr).alloc (Nat.le_refl _) _).drew).trans (b6.mono (by simp))⟩, (b6.cell (p := ⟨wr.heap.size, 0, none⟩) hlt).trans (by go_simp), (b6.cell (p := ⟨wr.heap.size, 1, none⟩) hlt).trans (by go_simp), (b6.cell (p := ⟨wr.heap.size, 2, none⟩) hlt).trans (by go_simp), (b6.cell (p := ⟨wr.heap.size, 3, none⟩) hlt).trans (by go_simp), (b6.cell (p := ⟨wr.heap.size, 4, none⟩) hlt).trans (by go_simp), (b6.cell (p := ⟨wr.heap.size, 5, none⟩) hlt).trans (by go_simp), (b6.cell (p := ⟨wr.heap.size, 6, none⟩) hlt).trans (by go_simp), fun j => (b6.frozen (p := ⟨wr.heap.size, j, none⟩) hlt).trans (by go_simp)⟩
    have HKK : Hid (UInt8.ofNat (kindN first last) = k) := hk
    have HPE : Hid ((rc.extract 0 n).data.toList = rc.data.toList.take n) := hpe
    clear hk hkn hhd hy HHd hpe
    have hn' : (n : Int) ≤ (rc.size : Int) := by omega
    go_upto_region 7 with fail
    go_cut [12] from 21 to 48 (fun s12 wc => ∃ hb, s12 = .pointer (some ⟨hb, 0, none⟩) ∧ wr.heap.size ≤ hb ∧ (wc.cell? ⟨hb, 0, none⟩ = some (.int .u8 (y0.toNat : Nat)) ∧ wc.cell? ⟨hb, 1, none⟩ = some (.int .u8 (y1.toNat : Nat)) ∧ wc.cell? ⟨hb, 2, none⟩ = some (.int .u8 (y2.toNat : Nat)) ∧ wc.cell? ⟨hb, 3, none⟩ = some (.int .u8 (y3.toNat : Nat)) ∧ wc.cell? ⟨hb, 4, none⟩ = some (.int .u8 (y4.toNat : Nat)) ∧ wc.cell? ⟨hb, 5, none⟩ = some (.int .u8 (y5.toNat : Nat)) ∧ wc.cell? ⟨hb, 6, none⟩ = some (.int .u8 (y6.toNat : Nat))) ∧ Below wr.heap.size wr wc)
    case first =>
      go_region_with (first | (go_at_call 33; refine (HK.out _).mono ?_; rintro r w6 ⟨rfl, hw6⟩; subst hw6) | (go_at_call 32; refine (HHb.out _ (Below.refl _ _).drew).mono ?_; rintro r w6 ⟨rfl, b6⟩) | (go_at_call 32; refine Calls.mono HHa.out ?_; rintro r w6 ⟨⟨rfl, b6⟩, q0, q1, q2, q3, q4, q5, q6, qz⟩))
      all_goals go_wp2_with fail
      all_goals go_meet
      all_goals
        first
          | (have h0 := q0; exact ⟨_, rfl, Nat.le_refl _, set7 q0 q1 q2 q3 q4 q5 q6, (((((((b6.setCell (p := ⟨wr.heap.size, 0, none⟩) (Nat.le_refl _) _).setCell (p := ⟨wr.heap.size, 1, none⟩) (Nat.le_refl _) _).setCell (p := ⟨wr.heap.size, 2, none⟩) (Nat.le_refl _) _).setCell (p := ⟨wr.heap.size, 3, none⟩) (Nat.le_refl _) _).setCell (p := ⟨wr.heap.size, 4, none⟩) (Nat.le_refl _) _).setCell (p := ⟨wr.heap.size, 5, none⟩) (Nat.le_refl _) _).setCell (p := ⟨wr.heap.size, 6, none⟩) (Nat.le_refl _) _)⟩)
          | exact ⟨_, rfl, b6.size, alloc7 _ _ _ _ _ _ _ _, b6.alloc b6.size _⟩
    case rest =>
      obtain ⟨hb, rfl, hhb, ⟨d0, d1, d2, d3, d4, d5, d6⟩, B⟩ := hcut
      have hbw : base ≤ wr.heap.size := Nat.le_trans hbase hB.size
      have hownc : wc.ownsRow base 5 1 u0 acc.length (bl acc) := owns_same hown (fun g hg => B.block g (hown.lt g hg).2)
      have hnews : ∀ j u, (bl [y0, y1, y2, y3, y4, y5, y6])[j]? = some u → wc.cell? ((⟨hb, 0, none⟩ : Addr).add j) = some u := by
        intro j u hj
        have hj7 : j < 7 := by have := (List.getElem?_eq_some_iff.1 hj).1; simpa [bl] using this
        rw [addr_add, Nat.zero_add]
        match j, hj7, hj with
        | 0, _, hj => simp [bl] at hj; rw [d0, ← hj]
        | 1, _, hj => simp [bl] at hj; rw [d1, ← hj]
        | 2, _, hj => simp [bl] at hj; rw [d2, ← hj]
        | 3, _, hj => simp [bl] at hj; rw [d3, ← hj]
        | 4, _, hj => simp [bl] at hj; rw [d4, ← hj]
        | 5, _, hj => simp [bl] at hj; rw [d5, ← hj]
        | 6, _, hj => simp [bl] at hj; rw [d6, ← hj]
      have hBc : Below base w1 wc := hB.trans (B.mono hbw)
      have hbc : base ≤ wc.heap.size := Nat.le_trans hbw B.size
      have hal : acc.length ≤ 1000000 := by have := HLL.out; rw [← HA.out, List.length_append] at this; omega
      have HOC : Hid _ := hownc
      have HNW : Hid _ := hnews
      have hown0 : ∀ k, u0.ownBlock = some k → base ≤ k := fun k e => (hown.lt k e).1
      clear hown hB d0 d1 d2 d3 d4 d5 d6 hnews hownc HHa HHb HK
      go_upto_region 9 with (at_builtin; refine wpList_append_own _ rfl (.tmp 36) (.tmp 37) 33 rfl base 5 i0 (.int .u8 0) 1 1 Try.underlying33 hi hz0 hz1 hz2 rfl (by decide) _ _ _ rfl HOC.out ⟨hb, 0, none⟩ 7 7 (bl [y0, y1, y2, y3, y4, y5, y6]) rfl rfl HNW.out (bl_one _) (by unfold maxLen; omega) (by omega) hbc ?_; intro v3 w3 hown3 hg3 hnn3)
      have hB3 : Below base w1 w3 := hBc.grown hg3 (Nat.le_trans hbase hBc.size) hown0
      have hb3 : base ≤ w3.heap.size := Nat.le_trans hbc hg3.size
      have HO3 : Hid _ := hown3
      have hown3b : ∀ k, v3.ownBlock = some k → base ≤ k := fun k e => (hown3.lt k e).1
      clear hown3 hg3 hnn3 hBc HOC HNW
      go_upto_region 10 with (at_builtin; refine Lib.wpList_append_own_string _ rfl (.tmp 39) (.tmp 42) 33 9 rfl base 5 i0 Try.underlying33 Try.underlying9 hi hz0 hz1 hz2 _ _ _ rfl HO3.out (rc.extract 0 n) rfl (by unfold maxLen; omega) (by omega) hb3 ?_; intro v4 w4 hown4 hg4 hnn4)
      have hB4 : Below base w1 w4 := hB3.grown hg4 (Nat.le_trans hbase hB3.size) hown3b
      have HAC : Hid (w4.ownsRow base 5 1 v4 (acc ++ fragL k (rc.data.toList.take n)).length (bl (acc ++ fragL k (rc.data.toList.take n)))) := by
        have e1 : bl (acc ++ fragL k (rc.data.toList.take n)) = bl acc ++ bl [y0, y1, y2, y3, y4, y5, y6] ++ Lib.strCells (rc.extract 0 n) := by
          rw [strCells_bl, HPE.out, fragL, HHD.out]
          simp [bl]
        have e2 : (acc ++ fragL k (rc.data.toList.take n)).length = acc.length + 7 + (rc.extract 0 n).size := by
          rw [fragL, HHD.out, hps, List.length_append, List.length_append, List.length_take, hrl]
          show acc.length + (7 + _) = _
          omega
        rw [Hid, e1, e2]
        exact hown4
      clear hown4 hg4 hnn4 HO3
      rcases hle with ⟨rfl, hne, hlr⟩ | ⟨rfl, hne, hlr⟩
      · have HF : Hid (acc ++ fragL k (rc.data.toList.take n) = all) := by
          rw [Hid, ← HA.out, layR_last (by rw [hrl]; exact hlr), HKK.out, List.take_of_length_le (by rw [hrl, hne]; exact Nat.le_refl _)]
        rw [HF.out] at HAC
        go_wp2_with fail
        go_ret
        exact ⟨v4, rfl, HAC.out, hB4⟩
      · subst hne
        have HF : Hid ((acc ++ fragL k (rc.data.toList.take n)) ++ layR g' false 1017 (rc.extract n rc.size).data.toList = all) := by
          rw [Hid, ← HA.out, layR_step (by rw [hrl]; omega), HKK.out, extract_drop, List.append_assoc]
        have hsz : (rc.extract n rc.size).size = rc.size - n := by simp
        go_wp2_with fail
        go_roundg g'
        case measure => omega
        case rel => exact ⟨_, false, 1017, rc.extract n rc.size, rfl, rfl, rfl, HAC.out, hB4, HF, by rw [hsz, if_neg (by decide)]; split at hfu <;> omega, by omega, by omega⟩
end Go.Proofs.Ytefigcnfcbdecaa
