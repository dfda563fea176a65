/-
  The contract of May: whether a filter may have a key.
-/
import Derived.Test.YtoopgddhkdekmaaSmall
namespace Go.Proofs.Ytoopgddhkdekmaa
open Go.RowKit Go.Shelf
attribute [local go_sem] Oper.semAt_some
/-- A place's bit is 1. -/
def hasBit (bs : List UInt8) (p : Nat) : Bool := ((bs.getD (p / 8) 0).toNat &&& bitN p) != 0
theorem bitN_lt (p : Nat) : bitN p < 256 := by
  have h : p % 8 < 8 := Nat.mod_lt _ (by decide)
  have : 2 ^ (p % 8) < 2 ^ 8 := Nat.pow_lt_pow_right (by decide) h
  exact this
/-- So many bits. -/
def bitsOf (bs : List UInt8) : Nat := (bs.length - 1) * 8
/-- A filter may have a key. -/
def mayB (bs : List UInt8) (key : ByteArray) : Bool := if isF bs then (List.range (lastB bs)).all (fun i => hasBit bs (placeN key (bitsOf bs) i)) else true
theorem isF_facts {bs : List UInt8} (h : isF bs = true) : 9 ≤ bs.length ∧ 1 ≤ lastB bs ∧ lastB bs ≤ 30 := by
  simp [isF] at h
  omega
theorem may_all {bs : List UInt8} {key : ByteArray} {m : Nat} (hm : 0 < m) (e : m = bitsOf bs) (h : isF bs = true) (k : ∀ x ∈ plcs key hm (lastB bs), hasBit bs x.1 = true) : mayB bs key = true := by
  subst e
  rw [mayB, if_pos h, List.all_eq_true]
  intro i hi
  exact k (plc key hm i) (List.mem_map.2 ⟨i, hi, rfl⟩)
theorem may_not {bs : List UInt8} {key : ByteArray} {m : Nat} (hm : 0 < m) (e : m = bitsOf bs) (h : isF bs = true) {j : Nat} (hj : j ≤ lastB bs) {x : Pl m} (hx : x ∈ plcs key hm j) (k : hasBit bs x.1 = false) : mayB bs key = false := by
  subst e
  rw [mayB, if_pos h, List.all_eq_false]
  obtain ⟨i, hi, rfl⟩ := List.mem_map.1 hx
  refine ⟨i, ?_, ?_⟩
  · rw [List.mem_range] at hi ⊢; omega
  · rw [Bool.not_eq_true]; exact k
set_option maxRecDepth 100000 in
set_option maxHeartbeats 4000000 in
theorem may_any (a : Option Addr) (cap : Nat) (bs : List UInt8) (key : ByteArray) (w : World) (h : BytesAt w a bs) (hl : bs.length ≤ 140737488355328) (hks : key.size ≤ 140737488355328) :
    Calls Try.prog 13 #[.slice a bs.length cap, .string key] w fun r w' => r = .returned (.bool (mayB bs key)) ∧ Below w.heap.size w w' := by
  have HC : Hid (∀ W : World, Below w.heap.size w W → Calls Try.prog 17 #[.slice a bs.length cap] W fun r w' => r = .returned (.int .i64 (checkErr bs)) ∧ w' = W) := fun W k => check_any a cap bs W (h.below (Nat.le_refl _) k) hl
  have B0 : Below w.heap.size w ((w.alloc (.cells #[.slice a bs.length cap] 24)).alloc (.cells #[.bool false] 4)) := ((Below.refl _ w).alloc (Nat.le_refl _) _).alloc (by simp) _
  refine callsIn_wide.1 (callsIn_of_wp_marks (F := Fence.wide) (n := 8) Try.func13 rfl trivial ?_ rfl)
  refine wpIn_wide.2 ?_
  simp only [Try.ntmps13, List.size_toArray, List.length_cons, List.length_nil, Nat.reduceAdd, Nat.reduceSub, Array.replicate_succ, Array.replicate_zero, List.push_toArray, List.append_toArray, List.nil_append, List.cons_append]
  by_cases hF : isF bs = true
  · have hce : checkErr bs = 0 := by simp [checkErr, hF]
    rw [hce] at HC
    obtain ⟨h9, h1, h30⟩ := isF_facts hF
    obtain ⟨b, off, rfl, hb, hc⟩ := h (bs.length - 1) _ (getD_at (by omega))
    have HH : Hid _ := h
    obtain ⟨last, hlast⟩ : ∃ last, bs.length = last + 1 := ⟨bs.length - 1, by omega⟩
    have HLN : Hid _ := hlast
    rw [hlast] at HC B0 hl ⊢
    go_wp2_with fail
    refine (HC.out _ B0).mono ?_
    rintro e w1 ⟨rfl, rfl⟩
    go_wp2_with fail
    refine (places_any _ _ _ key _ (by omega) hl).mono ?_
    rintro e w1 ⟨rfl, rfl⟩
    go_wp2_with fail
    have hc' : w.cell? ⟨b, off + last, none⟩ = some (.int .u8 (lastB bs : Nat)) := by
      rw [hlast, Nat.add_sub_cancel] at hc
      rw [hc]
      unfold lastB
      rw [hlast, Nat.add_sub_cancel]
    obtain ⟨s, hs⟩ : ∃ s, w.heap.size = s := ⟨_, rfl⟩
    obtain ⟨v, hv⟩ : ∃ v, v = Value.slice (some ⟨b, off, none⟩) (last + 1) cap := ⟨_, rfl⟩
    rw [← hv] at B0
    have B1 : Below s w ((((w.alloc (.cells #[v] 24)).alloc (.cells #[.bool false] 4)).alloc (.cells #[v] 24)).alloc (.cells #[.string key] 9)) := by
      rw [hs] at B0
      exact (B0.alloc (by simp; omega) _).alloc (by simp; omega) _
    have B2 : Below s w (((((w.alloc (.cells #[v] 24)).alloc (.cells #[.bool false] 4)).alloc (.cells #[v] 24)).alloc (.cells #[.string key] 9)).alloc (.cells #[.int .i64 (last : Nat)] 3)) := B1.alloc (by simp; omega) _
    have g0 : (((((w.alloc (.cells #[v] 24)).alloc (.cells #[.bool false] 4)).alloc (.cells #[v] 24)).alloc (.cells #[.string key] 9)).alloc (.cells #[.int .i64 (last : Nat)] 3)).cell? ⟨s, 0, none⟩ = some v ∧ (((((w.alloc (.cells #[v] 24)).alloc (.cells #[.bool false] 4)).alloc (.cells #[v] 24)).alloc (.cells #[.string key] 9)).alloc (.cells #[.int .i64 (last : Nat)] 3)).cell? ⟨s + 1, 0, none⟩ = some (.bool false) ∧ (((((w.alloc (.cells #[v] 24)).alloc (.cells #[.bool false] 4)).alloc (.cells #[v] 24)).alloc (.cells #[.string key] 9)).alloc (.cells #[.int .i64 (last : Nat)] 3)).frozen? ⟨s + 1, 0, none⟩ = false
        ∧ (((((w.alloc (.cells #[v] 24)).alloc (.cells #[.bool false] 4)).alloc (.cells #[v] 24)).alloc (.cells #[.string key] 9)).alloc (.cells #[.int .i64 (last : Nat)] 3)).cell? ⟨s + 1 + 1, 0, none⟩ = some v ∧ (((((w.alloc (.cells #[v] 24)).alloc (.cells #[.bool false] 4)).alloc (.cells #[v] 24)).alloc (.cells #[.string key] 9)).alloc (.cells #[.int .i64 (last : Nat)] 3)).cell? ⟨s + 1 + 1 + 1, 0, none⟩ = some (.string key) ∧ (((((w.alloc (.cells #[v] 24)).alloc (.cells #[.bool false] 4)).alloc (.cells #[v] 24)).alloc (.cells #[.string key] 9)).alloc (.cells #[.int .i64 (last : Nat)] 3)).cell? ⟨s + 1 + 1 + 1 + 1, 0, none⟩ = some (.int .i64 (last : Nat)) := by
      subst hs
      go_simp
    have hsz : (((((w.alloc (.cells #[v] 24)).alloc (.cells #[.bool false] 4)).alloc (.cells #[v] 24)).alloc (.cells #[.string key] 9)).alloc (.cells #[.int .i64 (last : Nat)] 3)).heap.size = s + 5 := by simp; omega
    rw [← hv, hs]
    generalize (((((w.alloc (.cells #[v] 24)).alloc (.cells #[.bool false] 4)).alloc (.cells #[v] 24)).alloc (.cells #[.string key] 9)).alloc (.cells #[.int .i64 (last : Nat)] 3)) = W0 at *
    obtain ⟨q0, q1, qf, q2, q3, q4⟩ := g0
    subst hv
    have hm : 0 < last * 8 := by omega
    have q5 : W0.cell? ⟨b, off + last, none⟩ = some (.int .u8 (lastB bs : Nat)) := (B2.cell (p := ⟨b, off + last, none⟩) (by rw [← hs]; exact hb)).trans hc'
    have HB : Hid (∀ x, x < last * 8 → w.cell? ⟨b, off + x / 8, none⟩ = some (.int .u8 ((bs.getD (x / 8) 0).toNat : Nat))) := fun x hx => by
      obtain ⟨b', off', e, _, hcx⟩ := h (x / 8) _ (getD_at (by omega))
      simp only [Option.some.injEq, Addr.mk.injEq] at e
      obtain ⟨rfl, rfl, _⟩ := e
      exact hcx
    have HMA : Hid ((∀ x ∈ plcs key hm (lastB bs), hasBit bs x.1 = true) → mayB bs key = true) := fun k => may_all hm (by rw [bitsOf, hlast, Nat.add_sub_cancel]) hF k
    have HMN : Hid (∀ j (x : Pl (last * 8)), j ≤ lastB bs → x ∈ plcs key hm j → hasBit bs x.1 = false → mayB bs key = false) := fun j x hj hx k => may_not hm (by rw [bitsOf, hlast, Nat.add_sub_cancel]) hF hj hx k
    have hbs : b < s := by rw [← hs]; exact hb
    obtain ⟨k, hk⟩ : ∃ k, lastB bs = k := ⟨_, rfl⟩
    rw [hk] at q5 HMA HMN h30 h1
    clear hc hc' hce HC HH B0 B1 hlast h9 h hk
    refine (wpIn_wide (n := 8)).1 ?_
    refine wpIn_rangeFunc_ownF rfl (by omega) (gf := 67) (lb := #[.pointer (some ⟨s + 1 + 1 + 1 + 1, 0, none⟩), .pointer (some ⟨s + 1 + 1 + 1, 0, none⟩), .pointer (some ⟨s + 1 + 1, 0, none⟩)]) rfl trivial (enters_of Try.func67 (by kernel_rfl) rfl)
      (places_stops 7 (by omega) key last k (s + 1 + 1 + 1 + 1) (s + 1 + 1 + 1) (s + 1 + 1) b off cap hm W0 hks (by omega) (by omega) q4 q3 q2 q5) walksK_t walksK_b (Below.refl _ _) (fun _ => rfl)
      (fun pre W => ((∀ x ∈ pre, hasBit bs x.1 = true) ∧ W.cell? ⟨s, 0, none⟩ = some (.slice (some ⟨b, off, none⟩) (last + 1) cap) ∧ W.cell? ⟨s + 1, 0, none⟩ = some (.bool false) ∧ W.frozen? ⟨s + 1, 0, none⟩ = false) ∧ Below s w W)
      (fun c pre W => (c = .ret ∧ (∃ x ∈ pre, hasBit bs x.1 = false) ∧ W.cell? ⟨s + 1, 0, none⟩ = some (.bool false)) ∧ Below s w W)
      (OwnFrom.and (Own.from (fun s A B row hs hg hr => ⟨hs.1, cell_kept hs.2.1 hg hr, cell_kept hs.2.2.1 hg hr, (frozen_kept hs.2.2.1 hg hr).trans hs.2.2.2⟩) _) (ownFrom_below (by omega) (by omega)))
      (fun c => OwnFrom.and (Own.from (fun s A B row hs hg hr => ⟨hs.1, hs.2.1, cell_kept hs.2.2 hg hr⟩) _) (ownFrom_below (by omega) (by omega)))
      ⟨⟨by simp, q0, q1, qf⟩, B2⟩
      (fun x => { tmps := #[.slice (some ⟨b, off, none⟩) (last + 1) cap, .string key, .pointer (some ⟨s, 0, none⟩), undef, .pointer (some ⟨s + 1, 0, none⟩), .int .u64 (x.1 : Nat), .slice (some ⟨b, off, none⟩) (last + 1) cap, .int .i64 0, .bool false, .slice (some ⟨b, off, none⟩) (last + 1) cap, .string key,
          .func (.func 67) #[] #[.pointer (some ⟨s + 1 + 1 + 1 + 1, 0, none⟩), .pointer (some ⟨s + 1 + 1 + 1, 0, none⟩), .pointer (some ⟨s + 1 + 1, 0, none⟩)], .int .u64 (x.1 : Nat), undef, undef, undef, undef, undef, undef, undef, undef, undef], defers := [] }) ?assign ?body ?done ?stop
    case assign =>
      intro l x W K hK
      gi_wp2
      exact hK
    case body =>
      rintro l pre x W ⟨⟨hp, hcb, hcr, hfr⟩, hB⟩ _
      obtain ⟨x, hx⟩ := x
      have hbx := (hB.cell (p := ⟨b, off + x / 8, none⟩) hbs).trans (HB.out x hx)
      have hcl : (bs.getD (x / 8) 0).toNat < 256 := UInt8.toNat_lt _
      have hbl := bitN_lt x
      have hx64 : x < 18446744073709551616 := by omega
      have hx8 : x / 8 < last + 1 := by omega
      have hand := u8_and_nat (bs.getD (x / 8) 0).toNat (bitN x) hcl hbl
      have HHB : Hid (hasBit bs x = (((bs.getD (x / 8) 0).toNat &&& bitN x) != 0)) := rfl
      have HBT : Hid (∀ W' : World, Calls Try.prog 41 #[.int .u64 (x : Nat)] W' fun r w' => r = .returned (.int .u8 (bitN x : Nat)) ∧ w' = W') := fun W' => bit_any x W' hx64
      obtain ⟨c, hcd⟩ : ∃ c, (bs.getD (x / 8) 0).toNat = c := ⟨_, rfl⟩
      obtain ⟨t, htd⟩ : ∃ t, bitN x = t := ⟨_, rfl⟩
      rw [hcd] at hbx hand HHB hcl
      rw [htd] at hand HHB HBT hbl
      obtain ⟨z, hz⟩ : ∃ z, c &&& t = z := ⟨_, rfl⟩
      rw [hz] at hand HHB
      obtain ⟨y, hy⟩ : ∃ y, x / 8 = y := ⟨_, rfl⟩
      have hyi : (x : Int) / 8 = (y : Int) := by omega
      rw [hy] at hbx hx8
      have hy2 : (y : Int) < (last : Int) + 1 := by omega
      have hwy : IntKind.u64.wrap (y : Int) = (y : Int) := by rw [IntKind.wrap_u64]; omega
      clear hcd htd hz hy
      have hd : 1 ≤ 8 - 1 - 1 := by omega
      have hmx : Try.prog.follows .mixedOrders = true := by kernel_rfl
      by_cases hz0 : z = 0
      · have hzz : ((z : Int) == 0) = true := by simp [hz0]
        have HF : Hid (hasBit bs x = false) := by rw [Hid, HHB.out, hz0]; rfl
        clear hz0
        gi_wp2
        gi_region_with_o (refine ⟨trivial, ?_⟩; gi_at_call 41; refine (CallsIn.inRound l (callsIn_wide.2 (HBT.out _))).mono ?_; rintro e w' ⟨rfl, rfl⟩)
        all_goals gi_wp2
        all_goals exact ⟨(KeepsOthers.setCell _ _ _).trans (KeepsOthers.drew _), ⟨rfl, ⟨⟨x, hx⟩, by simp, HF.out⟩, World.cell?_setCell_same' _ _ _ (by rw [hcr]; rfl)⟩, (hB.setCell (p := ⟨s + 1, 0, none⟩) (by simp) _).drew⟩
      · have hzz : ((z : Int) == 0) = false := by simp; omega
        have HF : Hid (hasBit bs x = true) := by rw [Hid, HHB.out]; simp [hz0]
        clear hz0
        gi_wp2
        gi_region_with_o (refine ⟨trivial, ?_⟩; gi_at_call 41; refine (CallsIn.inRound l (callsIn_wide.2 (HBT.out _))).mono ?_; rintro e w' ⟨rfl, rfl⟩)
        all_goals gi_wp2
        all_goals exact ⟨KeepsOthers.drew _, (KeepsOthers.drew _).walks, ⟨⟨fun u hu => (List.mem_append.1 hu).elim (hp u) (fun e => by simp at e; subst e; exact HF.out), hcb, hcr, hfr⟩, hB.drew⟩⟩
    case done =>
      rintro D ys W hD rfl ⟨⟨hall, _, hcr, hfr⟩, hB⟩ hK
      have HM := HMA.out hall
      go_wp2
      have hK' := (KeepsOthers.setCell W ⟨s + 1, 0, none⟩ (.bool true)).same D _ hK rfl
      refine ⟨by simp, .inl ⟨_, _, rfl, run_takeDeferred hK', ?_⟩⟩
      have hc5 := cell_kept (World.cell?_setCell_same' W ⟨s + 1, 0, none⟩ (.bool true) (by rw [hcr]; rfl)) (grownBy_putObj' _ D (.deferred none)) (fun r e => by cases e; exact ⟨_, hK', rfl⟩)
      refine ⟨.bool true, ?_, by rw [HM], by rw [hs]; exact (hB.setCell (p := ⟨s + 1, 0, none⟩) (by simp) _).trans (belowK_b (w := w) (by omega) _ D _ _ (by omega) hK' rfl rfl)⟩
      simp [results, Try.f13, go_sem, hc5]
    case stop =>
      rintro D c pre W hD ⟨j, hj, rfl⟩ ⟨⟨rfl, ⟨x, hx, hbit⟩, hcr⟩, hB⟩ hK
      have HM := HMN.out (j + 1) x (by omega) hx hbit
      refine wpIn_wide.2 ?_
      go_wp2
      refine ⟨by simp, .inl ⟨_, _, rfl, run_takeDeferred hK, ?_⟩⟩
      have hc5 := cell_kept hcr (grownBy_putObj' _ D (.deferred none)) (fun r e => by cases e; exact ⟨_, hK, rfl⟩)
      refine ⟨.bool false, ?_, by rw [HM], by rw [hs]; exact hB.trans (belowK_b (w := w) (by omega) W D _ _ (by omega) hK rfl rfl)⟩
      simp [results, Try.f13, go_sem, hc5]
  · have hce : checkErr bs = 70 := by simp [checkErr, hF]
    rw [hce] at HC
    have HM : Hid (mayB bs key = true) := by simp [Hid, mayB, hF]
    go_wp2_with fail
    refine (HC.out _ B0).mono ?_
    rintro e w1 ⟨rfl, rfl⟩
    go_wp2_with fail
    refine ⟨.bool true, ?_, by rw [HM.out], ((Below.refl _ w).alloc (Nat.le_refl _) _).alloc (by simp) _⟩
    simp [results, Try.f13, go_sem]
end Go.Proofs.Ytoopgddhkdekmaa
