/-
  Bytes and texts in memory; the twin's check sum; sameBytes.
-/
import Derived.Test.YtefigcnfcbdecaaCrc
import Derived.LoopTactic
import Derived.RegionTactic
import Derived.BigQuiet
import Derived.Deep.QuietTactic
import Derived.RangeFuncNested
import Derived.RangeFuncBound
import Derived.RangeFuncCalls
import Derived.RangeFuncLeaves
import Derived.Shelf.Abstract
import Derived.Shelf.RegionOpen
import Derived.WalkKit
import Derived.OwnWalkIn
import Derived.TacticsInMore
import Derived.LoopNIn
import Derived.LoopIn
import Derived.Laws.MakeOwn
import Derived.Laws.AppendOwn
import Derived.Laws.AppendOwnNone
namespace Go.Proofs.Ytefigcnfcbdecaa
open Go.RowKit
/-- Bytes in memory, from a slice's address on. -/
def BytesAt (w : World) (a : Option Addr) (bs : List UInt8) : Prop :=
  ∀ j c, bs[j]? = some c → ∃ b off, a = some ⟨b, off, none⟩ ∧ b < w.heap.size ∧ w.cell? ⟨b, off + j, none⟩ = some (.int .u8 (c.toNat : Nat))
theorem BytesAt.below {w w' : World} {a : Option Addr} {bs : List UInt8} {B : Nat} (h : BytesAt w a bs) (hB : w.heap.size ≤ B) (k : Below B w w') : BytesAt w' a bs := by
  intro j c hj
  obtain ⟨b, off, ha, hb, h0⟩ := h j c hj
  exact ⟨b, off, ha, Nat.lt_of_lt_of_le hb k.size, (k.cell (p := ⟨b, off + j, none⟩) (by show b < B; omega)).trans h0⟩
theorem getD_at {bs : List UInt8} {j : Nat} (h : j < bs.length) : bs[j]? = some (bs.getD j 0) := by
  rw [List.getElem?_eq_getElem h, List.getD_eq_getElem?_getD, List.getElem?_eq_getElem h]; rfl
theorem blist_ne_len {ps qs : List UInt8} (h : ps.length ≠ qs.length) : decide (ps = qs) = false := decide_eq_false (fun e => h (by rw [e]))
theorem blist_eq_of {ps qs : List UInt8} (h : ps.length = qs.length) (k : ∀ j, j < ps.length → ps[j]? = qs[j]?) : decide (ps = qs) = true := by
  refine decide_eq_true (List.ext_getElem? fun j => ?_)
  by_cases hj : j < ps.length
  · exact k j hj
  · rw [List.getElem?_eq_none (by omega), List.getElem?_eq_none (by omega)]
theorem blist_ne_of {ps qs : List UInt8} {j : Nat} {p q : UInt8} (hp : ps[j]? = some p) (hq : qs[j]? = some q) (h : p ≠ q) : decide (ps = qs) = false :=
  decide_eq_false (fun e => h (by rw [e, hq] at hp; cases hp; rfl))
theorem u8_beq (x y : UInt8) : ((x.toNat : Int) == (y.toNat : Int)) = decide (x = y) := by
  by_cases h : x = y
  · subst h; simp
  · have : ¬ (x.toNat : Int) = (y.toNat : Int) := fun e => h (UInt8.toNat_inj.1 (by omega))
    rw [beq_eq_false_iff_ne.2 this, decide_eq_false h]
set_option maxRecDepth 100000 in
set_option maxHeartbeats 2000000 in
theorem sameBytes_any (a b : Option Addr) (ca cb : Nat) (ps qs : List UInt8) (w : World) (ha : BytesAt w a ps) (hb : BytesAt w b qs) (hl : ps.length ≤ 140737488355328) :
    Calls Try.prog 15 #[.slice a ps.length ca, .slice b qs.length cb] w fun r w' => r = .returned (.bool (decide (ps = qs))) ∧ ∃ n, w' = w.drewN n := by
  have HA : Hid _ := ha
  have HB : Hid _ := hb
  clear ha hb
  by_cases hlen : ps.length = qs.length
  · have hlen' : ((ps.length : Int) == (qs.length : Int)) = true := by rw [hlen]; simp
    have HL : Hid _ := hlen
    obtain ⟨n, hn⟩ : ∃ n, ps.length = n := ⟨_, rfl⟩
    obtain ⟨m, hm⟩ : ∃ m, qs.length = m := ⟨_, rfl⟩
    have HN : Hid _ := hn
    have HM : Hid _ := hm
    rw [hn] at hl hlen'
    rw [hm] at hlen'
    rw [hn, hm]
    clear hlen hn hm
    go_enter Try.func15, Try.ntmps15
    go_wp2_with fail
    go_loopw [5] (fun i wr => ∃ k : Nat, k ≤ n ∧ i = .int .i64 k ∧ Hid (∀ j, j < k → ps[j]? = qs[j]?) ∧ ∃ q, wr = w.drewN q) (fun i _ => n - (intOf i).toNat)
    case atStart => exact ⟨0, by omega, rfl, fun j hj => by omega, 0, rfl⟩
    case round =>
      obtain ⟨k, hk, rfl, HE, q, rfl⟩ := hrel
      by_cases hlt : k < n
      · obtain ⟨x, hx⟩ : ∃ x, ps[k]? = some x := ⟨ps[k]'(by rw [HN.out]; exact hlt), List.getElem?_eq_getElem _⟩
        obtain ⟨y, hy⟩ : ∃ y, qs[k]? = some y := ⟨qs[k]'(by rw [← HL.out, HN.out]; exact hlt), List.getElem?_eq_getElem _⟩
        obtain ⟨g, og, rfl, _, x0⟩ := HA.out k x hx
        obtain ⟨h, oh, rfl, _, y0⟩ := HB.out k y hy
        have HX : Hid _ := hx
        have HY : Hid _ := hy
        clear hx hy
        have hk' : k < m := by have := HL.out; have := HN.out; have := HM.out; omega
        have he := u8_beq x y
        by_cases hxy : x = y
        · have hd : ((x.toNat : Int) == (y.toNat : Int)) = true := by rw [he]; exact decide_eq_true hxy
          have HXY : Hid _ := hxy
          clear hxy he
          go_wp2_with fail
          go_quiet (fail)
          go_wp2_with fail
          go_roundw
          case rel =>
            refine ⟨k + 1, by omega, by go_num, ?_, q + nq, by simp⟩
            intro j hj
            by_cases hjk : j < k
            · exact HE.out j hjk
            · obtain rfl : j = k := by omega
              rw [HX.out, HY.out, HXY.out]
          case measure => simp [intOf]; omega
        · have hd : ((x.toNat : Int) == (y.toNat : Int)) = false := by rw [he]; exact decide_eq_false hxy
          have HXY : Hid (decide (ps = qs) = false) := blist_ne_of HX.out HY.out hxy
          clear hxy he
          go_wp2_with fail
          go_quiet (fail)
          go_wp2_with fail
          go_ret
          refine ⟨?_, q + nq, by simp⟩
          rw [HXY.out]
          rfl
      · obtain rfl : k = n := by omega
        go_wp2_with fail
        go_ret
        refine ⟨?_, q, rfl⟩
        rw [blist_eq_of HL.out (fun j hj => HE.out j (by have := HN.out; omega))]
        rfl
  · have hlen' : ((ps.length : Int) == (qs.length : Int)) = false := by simp; omega
    have HD : Hid _ := blist_ne_len hlen
    clear hlen
    go_enter Try.func15, Try.ntmps15
    go_wp2
    go_ret
    refine ⟨?_, 0, rfl⟩
    rw [HD.out]
    rfl
/-- Texts in memory, from a slice's address on. -/
def StrsAt (w : World) (a : Option Addr) (ks : List ByteArray) : Prop :=
  ∀ j s, ks[j]? = some s → ∃ b off, a = some ⟨b, off, none⟩ ∧ b < w.heap.size ∧ w.cell? ⟨b, off + j, none⟩ = some (.string s)
theorem StrsAt.below {w w' : World} {a : Option Addr} {bs : List ByteArray} {B : Nat} (h : StrsAt w a bs) (hB : w.heap.size ≤ B) (k : Below B w w') : StrsAt w' a bs := by
  intro j c hj
  obtain ⟨b, off, ha, hb, h0⟩ := h j c hj
  exact ⟨b, off, ha, Nat.lt_of_lt_of_le hb k.size, (k.cell (p := ⟨b, off + j, none⟩) (by show b < B; omega)).trans h0⟩
def bcells (l : List UInt8) : Array Value := (l.map fun c => Value.int .u8 (c.toNat : Nat)).toArray
theorem info5 : (Try.prog.info? 5).map (fun i => (i.zero, i.size, i.bytes)) = some (some (.int .u8 0), 1, 1) := by kernel_rfl
theorem block_set {w : World} {b : Nat} {c : Array Value} {t : TypeId} {f : Nat × Nat} (h : w.heap[b]? = some (.cells c t f)) (o : Nat) (u : Value) :
    (w.setCell ⟨b, o, none⟩ u).heap[b]? = some (.cells (c.setIfInBounds o u) t f) := by
  have hlt := (Array.getElem?_eq_some_iff.1 h).1
  have h' : w.heap[b] = .cells c t f := by simpa [Array.getElem?_eq_getElem hlt] using h
  show (w.heap.modify b _)[b]? = _
  rw [Array.getElem?_eq_getElem (by simpa using hlt), Array.getElem_modify_self, h']
  rfl
theorem made_block {w : World} {B g n : Nat} {xs : List Value} (h : w.ownsRow B 5 1 (.slice (some ⟨g, 0, none⟩) n n) n xs) : w.heap[g]? = some (.cells xs.toArray 5 (0, 0)) := by
  rcases h.2 with ⟨hv, _⟩ | ⟨g', cap, cur, hv, _, hh, _, _, hs, ht⟩
  · simp at hv
  · simp only [Value.slice.injEq, Option.some.injEq, Addr.mk.injEq, and_true, true_and] at hv
    obtain ⟨rfl, rfl⟩ := hv
    rw [hh, ← ht, List.take_of_length_le (by rw [Array.length_toList, hs]; exact Nat.le_refl _)]
theorem made_zero (n : Nat) : (madeCells (Value.int .u8 0).cells (n * 1)).toList = (List.replicate n (0 : UInt8)).map (fun c => Value.int .u8 (c.toNat : Nat)) := by
  have hz : (Value.int .u8 0).cells = #[Value.int .u8 0] := rfl
  rw [hz]
  simp only [madeCells, Nat.mul_one]
  apply List.ext_getElem
  · simp
  · intro i h1 h2
    simp [Nat.mod_one]
theorem lazyNil (W : World) (ad : Addr) (l c : Nat) : (binOp .eql 33 (.slice (some ad) l c) (.slice none 0 0)).run Try.prog W = .ok (.bool false) W := Lib.run_eql_slice_nil W 33 5 (some ad) l c 0 0 Try.underlying33
def bl (bs : List UInt8) : List Value := bs.map fun c => Value.int .u8 (c.toNat : Nat)
theorem bl_len (bs : List UInt8) : (bl bs).length = bs.length := by simp [bl]
theorem bl_one (bs : List UInt8) : ∀ u ∈ bl bs, u.oneCell' = true := by
  intro u hu
  obtain ⟨c, _, rfl⟩ := List.mem_map.1 hu
  rfl
theorem bl_at {bs : List UInt8} {j : Nat} (h : j < bs.length) : (bl bs)[j]? = some (.int .u8 ((bs.getD j 0).toNat : Nat)) := by
  rw [bl, List.getElem?_map, getD_at h]; rfl
theorem addr_add (b off j : Nat) : (⟨b, off, none⟩ : Addr).add j = ⟨b, off + j, none⟩ := by by_cases hi0 : j = 0 <;> simp [Addr.add, hi0]
/-- A row of the call's own, in block g. -/
structure OR (w W : World) (g n cap : Nat) (bs : List UInt8) : Prop where
  row : W.ownsRow w.heap.size 5 1 (.slice (some ⟨g, 0, none⟩) n cap) n (bl bs)
  len : bs.length = n
  bel : Below w.heap.size w W
section
variable {w W W' : World} {g n cap : Nat} {bs : List UInt8}
theorem OR.ge (h : OR w W g n cap bs) : w.heap.size ≤ g := (h.row.lt g rfl).1
theorem OR.cell (h : OR w W g n cap bs) {j : Nat} (hj : j < n) : W.cell? ⟨g, j, none⟩ = some (.int .u8 ((bs.getD j 0).toNat : Nat)) := by
  have h1 := h.row.cells rfl j _ (bl_at (by rw [h.len]; exact hj))
  rw [addr_add, Nat.zero_add] at h1
  exact h1
theorem OR.free (h : OR w W g n cap bs) (j : Nat) : W.frozen? ⟨g, j, none⟩ = false := by
  rcases h.row.2 with ⟨hv, _⟩ | ⟨g', cap', cur, hv, _, hh, _⟩
  · simp at hv
  · simp only [Value.slice.injEq, Option.some.injEq, Addr.mk.injEq, and_true] at hv
    obtain ⟨rfl, _⟩ := hv
    simp [World.frozen?, hh]
theorem OR.set (h : OR w W g n cap bs) (j : Nat) (c : UInt8) : OR w (W.setCell ⟨g, j, none⟩ (.int .u8 (c.toNat : Nat))) g n cap (bs.set j c) := by
  refine ⟨⟨by rw [bl_len, List.length_set, h.len, Nat.mul_one], ?_⟩, by rw [List.length_set, h.len], h.bel.setCell (p := ⟨g, j, none⟩) h.ge _⟩
  rcases h.row.2 with ⟨hv, _⟩ | ⟨g', cap', cur, hv, hB, hh, h1, h2, h3, h4⟩
  · simp at hv
  · simp only [Value.slice.injEq, Option.some.injEq, Addr.mk.injEq, and_true, true_and] at hv
    obtain ⟨rfl, rfl⟩ := hv
    refine Or.inr ⟨g, cap, cur.setIfInBounds j (.int .u8 (c.toNat : Nat)), rfl, hB, block_set hh _ _, h1, h2, by simpa using h3, ?_⟩
    rw [Array.toList_setIfInBounds, List.take_set, h4]
    simp [bl, List.map_set]
theorem OR.bytes (h : OR w W g n cap bs) : BytesAt W (some ⟨g, 0, none⟩) bs := by
  intro j c hj
  have hl := (List.getElem?_eq_some_iff.1 hj).1
  have hc := h.cell (j := j) (by rw [← h.len]; exact hl)
  rw [getD_at hl] at hj
  cases hj
  exact ⟨g, 0, rfl, World.block_lt_of_cell? W _ hc, by rw [Nat.zero_add]; exact hc⟩
end
theorem empty_row5 (w : World) : (w.alloc (.cells #[] 5)).ownsRow w.heap.size 5 1 (.slice (some ⟨w.heap.size, 0, none⟩) 0 0) 0 [] := by
  refine ⟨rfl, Or.inr ⟨w.heap.size, 0, #[], rfl, Nat.le_refl _, World.alloc_heap_new w _, Nat.le_refl _, by unfold maxLen; omega, rfl, ?_⟩⟩
  simp
theorem cells_of_bytes {w : World} {ad : Addr} {bs : List UInt8} (h : BytesAt w (some ad) bs) : ∀ j u, (bl bs)[j]? = some u → w.cell? (ad.add j) = some u := by
  intro j u hu
  have hl : j < bs.length := by have := (List.getElem?_eq_some_iff.1 hu).1; rw [bl_len] at this; exact this
  obtain ⟨b, off, e, _, hc⟩ := h j _ (getD_at hl)
  cases e
  rw [bl_at hl] at hu
  cases hu
  rw [addr_add]
  exact hc
set_option maxRecDepth 100000 in
set_option maxHeartbeats 2000000 in
theorem clone_any (ad : Addr) (ca : Nat) (bs : List UInt8) (w : World) (h : BytesAt w (some ad) bs) (hl : bs.length ≤ 140737488355328) :
    Calls Try.prog 29 #[.slice (some ad) bs.length ca] w fun r w' => ∃ g cap, r = .returned (.slice (some ⟨g, 0, none⟩) bs.length cap) ∧ bs.length ≤ cap ∧ OR w w' g bs.length cap bs := by
  obtain ⟨i0, hi, hz0, hz1, hz2⟩ := info_parts info5
  have hnl := fun W => lazyNil W ad bs.length ca
  have er := empty_row5 w
  have hcs : ∀ o j u, (bl bs)[j]? = some u → (w.alloc o).cell? (ad.add j) = some u := fun o j u hu => cells_of_bytes (h.below (Nat.le_refl _) ((Below.refl _ w).alloc (Nat.le_refl _) o)) j u hu
  have HL : Hid ((bl bs).length = bs.length * 1) := by rw [Hid, bl_len, Nat.mul_one]
  obtain ⟨n, hn⟩ : ∃ n, bs.length = n := ⟨_, rfl⟩
  have HN : Hid _ := hn
  rw [hn] at hl hnl HL
  rw [hn]
  clear hn h
  go_enter Try.func29, Try.ntmps29
  go_wp2_with (at_builtin; refine wpList_append_own _ rfl (.tmp 5) (.tmp 6) 33 rfl w.heap.size 5 i0 (.int .u8 0) 1 1 Try.underlying33 hi hz0 hz1 hz2 rfl (by decide) _ _ _ rfl er ad n ca (bl bs) rfl HL.out (hcs _) (bl_one _) (by unfold maxLen; omega) (by omega) (by simp) ?_)
  intro v2 w2 hown2 hg2 hnn
  try simp only [List.nil_append, Nat.zero_add] at hown2
  have hB : Below w.heap.size w w2 := ((Below.refl _ w).alloc (Nat.le_refl _) _).grown hg2 (by simp) (fun i hi => (er.lt i hi).1)
  rcases hown2.2 with ⟨rfl, _⟩ | ⟨g, cap, cur, rfl, _, _, hc1, _⟩
  · exfalso
    revert hnn
    simp
  · have HO : Hid (OR w w2 g n cap bs) := ⟨hown2, HN.out, hB⟩
    clear hown2 hg2 hcs er hnn
    go_wp2_with fail
    go_ret
    exact ⟨g, cap, rfl, hc1, HO.out⟩
theorem OR.drew {w W : World} {g n cap : Nat} {bs : List UInt8} (h : OR w W g n cap bs) : OR w W.drew g n cap bs := ⟨h.row, h.len, h.bel.drew⟩
theorem belD (w : World) (q : Nat) : Below w.heap.size w (w.drewN q) := ⟨rfl, rfl, rfl, Nat.le_refl _, fun _ _ => rfl⟩
set_option maxHeartbeats 400000 in
theorem refCrc_any (s : ByteArray) (w : World) (hs : s.size ≤ maxLen) :
    Calls Try.prog 35 #[.string s] w fun e w' => e = .returned (.int .u32 (Cx.crc s.data.toList)) ∧ w' = w := by
  unfold maxLen at hs
  go_enter Try.func35, Try.ntmps35
  go_wp2
  go_loop [3, 4] (fun n i => ∃ k x : Nat, k ≤ s.size ∧ i = .int .i64 k ∧ x < 4294967296 ∧ Hid (x = Cx.run (s.data.toList.take k) 4294967295) ∧ n = .int .u32 x) (fun _ i => s.size - (intOf i).toNat)
  case atStart => exact ⟨0, 4294967295, by omega, rfl, by omega, rfl, rfl⟩
  case round =>
    obtain ⟨k, x, hk, rfl, hx, HX, rfl⟩ := hrel
    by_cases hlt : k < s.size
    · have hin := crc_in hx s[k]
      have hin' := Cx.byte_in s[k] hx
      have HT : Hid (s.data.toList.take (k + 1) = s.data.toList.take k ++ [s[k]]) := take_snoc s k hlt
      go_wp2
      go_loop [3, 5] (fun n i => ∃ j y : Nat, j ≤ 8 ∧ i = .int .i64 j ∧ y < 4294967296 ∧ Hid (y = Cx.steps j (x ^^^ s[k].toNat)) ∧ n = .int .u32 y) (fun _ i => 8 - (intOf i).toNat)
      case atStart => exact ⟨0, x ^^^ s[k].toNat, by omega, rfl, hin', rfl, by first | rfl | (rw [hin])⟩
      case round =>
        obtain ⟨j, y, hj, rfl, hy, HY, rfl⟩ := hrel
        clear hin
        by_cases hj8 : j < 8
        · have hpol := crc_poly hy
          by_cases hod : y % 2 = 1
          · have hb := mod2 hod
            have HS := Cx.step1_odd hod
            have HL := Cx.step1_lt hy
            rw [HS] at HL
            have HS' : Hid _ := HS
            clear HS
            have HO : Hid _ := hod
            clear hod
            go_wp2
            go_round
            case rel => exact ⟨j + 1, y / 2 ^^^ 2197175160, by omega, by go_num, HL, by show _ = Cx.step1 _; rw [← HY.out]; exact HS'.out.symm, by first | rfl | (rw [hpol])⟩
            case measure => simp [intOf]; omega
          · have hb := mod2' hod
            have HS := Cx.step1_even hod
            clear hpol
            have HS' : Hid _ := HS
            clear HS
            have HO : Hid _ := hod
            clear hod
            go_wp2
            go_round
            case rel => exact ⟨j + 1, y / 2, by omega, by go_num, by omega, by show _ = Cx.step1 _; rw [← HY.out]; exact HS'.out.symm, by go_num⟩
            case measure => simp [intOf]; omega
        · have e8 : j = 8 := by omega
          subst e8
          go_wp2
          go_round
          case rel => exact ⟨k + 1, y, by omega, by go_num, hy, by rw [HT.out, Cx.run_snoc, ← HX.out]; exact HY.out, rfl⟩
          case measure => simp [intOf]; omega
    · have hout := crc_out' hx
      go_wp2
      all_goals
        go_ret
        exact ⟨ret_int (by have h2 := HX.out; rw [List.take_of_length_le (by simp; omega)] at h2; rw [h2]; rfl), rfl⟩
end Go.Proofs.Ytefigcnfcbdecaa
