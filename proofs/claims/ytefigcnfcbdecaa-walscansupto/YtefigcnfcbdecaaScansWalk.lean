/-
  The walk of WalScans: whatever the bytes and the record to stop at, the call returns true, and turns nothing that was there.
-/
import Derived.Test.YtefigcnfcbdecaaSeqR
import Derived.Test.YtefigcnfcbdecaaTScan
import Derived.Test.YtefigcnfcbdecaaCutsGo
import Derived.LoopN
import Derived.LoopNIn
namespace Go.Proofs.Ytefigcnfcbdecaa
open Go.RowKit
attribute [local go_sem] Oper.semAt_some
theorem boxed_cell {W : World} {B : Nat} {t : TypeId} {v : Value} (h : Boxed W B t v) : W.cell? ⟨B, 0, none⟩ = some v := by have := cells_of_block h 0; simpa using this
theorem boxed_frozen {W : World} {B : Nat} {t : TypeId} {v : Value} (h : Boxed W B t v) : W.frozen? ⟨B, 0, none⟩ = false := by simp [World.frozen?, show W.heap[B]? = _ from h]
theorem boxed_below {W W' : World} {B N : Nat} {t : TypeId} {v : Value} (h : Boxed W B t v) (k : Below N W W') (hN : B < N) : Boxed W' B t v := (k.block B hN).trans h
theorem ends_cell {w W : World} {base n : Nat} {a : Option Addr} {c : Nat} {rs : List Rec} (h : w.ownsRow base 3 1 (.slice a n c) n (rs.map endV)) (hB : Below w.heap.size w W) {j : Nat} {r : Rec} (hj : rs[j]? = some r) (hn : rs.length = n) :
    ∃ g, a = some ⟨g, 0, none⟩ ∧ W.cell? ⟨g, j, none⟩ = some (.int .i64 (r.2 : Nat)) := by
  have hl := (List.getElem?_eq_some_iff.1 hj).1
  rcases h.2 with ⟨hv, h0⟩ | ⟨g, cap', cur, hv, _⟩
  · omega
  · simp only [Value.slice.injEq] at hv
    obtain ⟨rfl, _, _⟩ := hv
    have hc := h.cells (g := g) rfl j (endV r) (by rw [List.getElem?_map, hj]; rfl)
    rw [addr_add, Nat.zero_add] at hc
    exact ⟨g, rfl, (hB.cell (p := ⟨g, j, none⟩) (World.block_lt_of_cell? _ _ hc)).trans hc⟩
/-- What the walk of WalScans holds on to. -/
structure SW (w W : World) (s u : Nat) (st : Int) (a5 a6 : Option Addr) (c5 c6 R : Nat) (rs : List Rec) : Prop where
  bel : Below s w W
  sz : u + 2 ≤ W.heap.size
  q3 : Boxed W s 3 (.int .i64 st)
  q4 : Boxed W (s + 1) 4 (.bool false)
  q9 : Boxed W u 22 (.slice a5 R c5)
  q10 : Boxed W (u + 1) 43 (.slice a6 R c6)
  strs : ∀ j x, (textsOf rs)[j]? = some x → ∃ b off, a5 = some ⟨b, off, none⟩ ∧ b < u ∧ W.cell? ⟨b, off + j, none⟩ = some (.string x)
  ends : ∀ j r, rs[j]? = some r → ∃ g, a6 = some ⟨g, 0, none⟩ ∧ g < u ∧ W.cell? ⟨g, j, none⟩ = some (.int .i64 (r.2 : Nat))
theorem SW.below {w W W' : World} {s u : Nat} {st : Int} {a5 a6 : Option Addr} {c5 c6 R : Nat} {rs : List Rec} (h : SW w W s u st a5 a6 c5 c6 R rs) (k : Below (u + 2) W W') (hs : s + 2 ≤ u) : SW w W' s u st a5 a6 c5 c6 R rs where
  bel := h.bel.trans (k.mono (by omega))
  sz := Nat.le_trans h.sz k.size
  q3 := boxed_below h.q3 k (by omega)
  q4 := boxed_below h.q4 k (by omega)
  q9 := boxed_below h.q9 k (by omega)
  q10 := boxed_below h.q10 k (by omega)
  strs := fun j x hj => by
    obtain ⟨b, off, e, hb, hc⟩ := h.strs j x hj
    exact ⟨b, off, e, hb, (k.cell (p := ⟨b, off + j, none⟩) (by show b < u + 2; omega)).trans hc⟩
  ends := fun j r hj => by
    obtain ⟨g, e, hb, hc⟩ := h.ends j r hj
    exact ⟨g, e, hb, (k.cell (p := ⟨g, j, none⟩) (by show g < u + 2; omega)).trans hc⟩
/-- What a round over the records holds on to. -/
structure IW (w W : World) (s u v z b14 b15 c0 g8 cap8 : Nat) (st : Int) (k : Nat) (ds : List Nat) (a5 a6 : Option Addr) (c5 c6 R : Nat) (rs : List Rec) (l : List UInt8) (pre : List Rec) : Prop where
  sw : SW w W s u st a5 a6 c5 c6 R rs
  sz : z ≤ W.heap.size
  q14 : Boxed W b14 3 (.int .i64 (k : Nat))
  q15 : Boxed W b15 3 (.int .i64 (pre.length : Nat))
  q8 : Boxed W c0 33 (.slice (some ⟨g8, 0, none⟩) l.length cap8)
  y8 : ∀ j c, l[j]? = some c → g8 < v ∧ W.cell? ⟨g8, 0 + j, none⟩ = some (.int .u8 (c.toNat : Nat))
  dq : ∀ D ∈ ds, s ≤ D ∧ D < b14 ∧ W.heap[D]? = some (.deferred (some []))
/-- How the blocks lie. -/
structure LW (s u v z b14 b15 c0 : Nat) : Prop where
  h0 : s + 2 ≤ u
  h1 : u + 2 ≤ v
  h2 : v ≤ b14
  h3 : b14 < b15
  h4 : b15 < z
  h5 : c0 < v
section
variable {w W W' : World} {s u v z b14 b15 c0 g8 cap8 : Nat} {st : Int} {k : Nat} {ds : List Nat} {a5 a6 : Option Addr} {c5 c6 R : Nat} {rs : List Rec} {l : List UInt8} {pre : List Rec}
theorem IW.below (h : IW w W s u v z b14 b15 c0 g8 cap8 st k ds a5 a6 c5 c6 R rs l pre) (hk : Below z W W') (hL : LW s u v z b14 b15 c0) : IW w W' s u v z b14 b15 c0 g8 cap8 st k ds a5 a6 c5 c6 R rs l pre where
  sw := h.sw.below (hk.mono (by have := hL.h1; have := hL.h2; have := hL.h3; have := hL.h4; omega)) hL.h0
  sz := Nat.le_trans h.sz hk.size
  q14 := boxed_below h.q14 hk (by have := hL.h3; have := hL.h4; omega)
  q15 := boxed_below h.q15 hk hL.h4
  q8 := boxed_below h.q8 hk (by have := hL.h2; have := hL.h3; have := hL.h4; have := hL.h5; omega)
  y8 := fun j c hj => by
    obtain ⟨e, hc⟩ := h.y8 j c hj
    exact ⟨e, (hk.cell (p := ⟨g8, 0 + j, none⟩) (by show g8 < z; have := hL.h2; have := hL.h3; have := hL.h4; omega)).trans hc⟩
  dq := fun D hD => by
    obtain ⟨e1, e2, e3⟩ := h.dq D hD
    exact ⟨e1, e2, (hk.block D (by have := hL.h3; have := hL.h4; omega)).trans e3⟩
theorem IW.bytes (h : IW w W s u v z b14 b15 c0 g8 cap8 st k ds a5 a6 c5 c6 R rs l pre) (hL : LW s u v z b14 b15 c0) : BytesAt W (some ⟨g8, 0, none⟩) l := fun j c hj => by
  obtain ⟨e, hc⟩ := h.y8 j c hj
  exact ⟨g8, 0, rfl, by have := h.sz; have := hL.h2; have := hL.h3; have := hL.h4; omega, hc⟩
theorem IW.step (h : IW w W s u v z b14 b15 c0 g8 cap8 st k ds a5 a6 c5 c6 R rs l pre) (hL : LW s u v z b14 b15 c0) (r : Rec) {m : Nat} (hm : pre.length = m) : IW w (W.setCell ⟨b15, 0, none⟩ (.int .i64 ((m : Int) + 1))) s u v z b14 b15 c0 g8 cap8 st k ds a5 a6 c5 c6 R rs l (pre ++ [r]) := by
  have hb : Below b15 W (W.setCell ⟨b15, 0, none⟩ (.int .i64 ((m : Int) + 1))) := (Below.refl _ W).setCell (p := ⟨b15, 0, none⟩) (Nat.le_refl _) _
  have h1 := hL.h1
  have h2 := hL.h2
  have h3 := hL.h3
  have h5 := hL.h5
  exact {
    sw := h.sw.below (hb.mono (by omega)) hL.h0
    sz := Nat.le_trans h.sz hb.size
    q14 := boxed_below h.q14 hb h3
    q15 := by
      rw [List.length_append, hm]
      have := Boxed.set (.int .i64 ((m : Int) + 1)) h.q15
      exact this
    q8 := boxed_below h.q8 hb (by omega)
    y8 := fun j c hj => by
      obtain ⟨e, hc⟩ := h.y8 j c hj
      exact ⟨e, (hb.cell (p := ⟨g8, 0 + j, none⟩) (by show g8 < b15; omega)).trans hc⟩
    dq := fun D hD => by
      obtain ⟨e1, e2, e3⟩ := h.dq D hD
      exact ⟨e1, e2, (hb.block D (by omega)).trans e3⟩ }
theorem IW.at' {x : Nat} {r : Rec} {m : Nat} (h : IW w W s u v z b14 b15 c0 g8 cap8 st k ds a5 a6 c5 c6 R rs l pre) (hL : LW s u v z b14 b15 c0) (hx : b15 < x) (hm : pre.length = m) (hT : At x (some ⟨g8, 0, none⟩) cap8 l (pre ++ [r]) W) : At x (some ⟨g8, 0, none⟩) cap8 l (pre ++ [r]) (W.setCell ⟨b15, 0, none⟩ (.int .i64 ((m : Int) + 1))) := by
  refine at_of_heap hT (Below.heap_setCell _ _ _ _ (by show x ≠ b15; omega)) ?_
  exact (h.step hL r hm).bytes hL
end
theorem own_of_below {α : Type} {z : Nat} {I : α → World → Prop} (hs : ∀ x A, I x A → z ≤ A.heap.size) (h : ∀ x A B, I x A → Below z A B → I x B) : OwnFrom z I := fun x X Y _ hi hg hr =>
  h x X Y hi ((Below.refl z X).grown hg (hs x X hi) (fun k e => (hr k e).1))
theorem at_next {x : Nat} {a : Option Addr} {cap : Nat} {l : List UInt8} {pre : List Rec} {r : Rec} {W : World} (h : At x a cap l (pre ++ [r]) W) : (scanL l).1[pre.length]? = some r := by
  obtain ⟨⟨t, g, h1, _⟩, _⟩ := h
  rw [← h1, List.append_assoc, List.getElem?_append_right (Nat.le_refl _)]
  simp
set_option maxRecDepth 100000 in
set_option maxHeartbeats 8000000 in
theorem scans_walk (a : Option Addr) (ca : Nat) (l : List UInt8) (st : Int) (w : World) (h : BytesAt w a l) (hl : l.length ≤ 1048576) (hca : l.length ≤ ca) (hc0 : a = none → ca = 0) :
    Calls Try.prog 4 #[.slice a l.length ca, .int .i64 st] w fun r w' => r = .returned (.bool true) ∧ Below w.heap.size w w' := by
  obtain ⟨N, hn⟩ : ∃ N, l.length = N := ⟨_, rfl⟩
  have HH : Hid _ := h
  have HNN : Hid _ := hn
  rw [hn] at hl hca ⊢
  obtain ⟨s, hs⟩ : ∃ s, w.heap.size = s := ⟨_, rfl⟩
  have B0 : Below s w ((w.alloc (.cells #[.int .i64 st] 3)).alloc (.cells #[.bool false] 4)) := by
    rw [← hs]
    exact ((Below.refl _ w).alloc (Nat.le_refl _) _).alloc (by simp) _
  have q0 : Boxed ((w.alloc (.cells #[.int .i64 st] 3)).alloc (.cells #[.bool false] 4)) s 3 (.int .i64 st) := by
    show _ = _
    rw [← hs, Below.heap_alloc _ _ _ (by simp)]
    exact World.alloc_heap_new _ _
  have q1 : Boxed ((w.alloc (.cells #[.int .i64 st] 3)).alloc (.cells #[.bool false] 4)) (s + 1) 4 (.bool false) := by
    have := World.alloc_heap_new (w.alloc (.cells #[.int .i64 st] 3)) (.cells #[.bool false] 4)
    rw [World.size_alloc, hs] at this
    exact this
  have q2 : ((w.alloc (.cells #[.int .i64 st] 3)).alloc (.cells #[.bool false] 4)).heap.size = s + 2 := by simp; omega
  refine callsIn_wide.1 (callsIn_of_wp_marks (F := Fence.wide) (n := 8) Try.func4 rfl trivial ?_ rfl)
  refine wpIn_wide.2 ?_
  simp only [Try.ntmps4, List.size_toArray, List.length_cons, List.length_nil, Nat.reduceAdd, Nat.reduceSub, Array.replicate_succ, Array.replicate_zero, List.push_toArray, List.append_toArray, List.nil_append, List.cons_append]
  clear hn h
  go_wp2_with fail
  have HSS : Hid _ := hs
  generalize ((w.alloc (.cells #[.int .i64 st] 3)).alloc (.cells #[.bool false] 4)) = W0 at *
  refine (lives_any _).mono ?_
  rintro e w1 ⟨rfl, b1⟩
  have B1 : Hid (Below s w w1) := B0.trans (b1.mono (by rw [q2]; omega))
  have Q3 : Hid (Boxed w1 s 3 (.int .i64 st)) := boxed_below q0 b1 (by rw [q2]; omega)
  have Q4 : Hid (Boxed w1 (s + 1) 4 (.bool false)) := boxed_below q1 b1 (by rw [q2]; omega)
  have hs1 : s + 2 ≤ w1.heap.size := by rw [← q2]; exact b1.size
  clear b1 q0 q1 q2 B0
  have HBW : Hid (BytesAt w1 a l) := BytesAt.below HH.out (Nat.le_refl _) (by rw [hs]; exact B1.out)
  go_wp2_with (at_builtin; refine wpList_copy5 rfl (.tmp 20) (.tmp 21) rfl w1 l a N ca rfl rfl HNN.out HBW.out hc0 (by omega) ?_; intro g2 c2 w2 hc2 o2)
  have B2 : Hid (Below s w w2) := B1.out.trans (o2.bel.mono (by omega))
  have Q3' : Hid (Boxed w2 s 3 (.int .i64 st)) := boxed_below Q3.out o2.bel (by omega)
  have Q4' : Hid (Boxed w2 (s + 1) 4 (.bool false)) := boxed_below Q4.out o2.bel (by omega)
  have hs2 : s + 2 ≤ w2.heap.size := by have := o2.bel.size; omega
  have HOB : Hid (BytesAt w2 (some ⟨g2, 0, none⟩) l) := o2.bytes
  obtain ⟨rs, hrs⟩ : ∃ rs, (scanL l).1 = rs := ⟨_, rfl⟩
  obtain ⟨y, hy⟩ : ∃ y, (scanL l).2 = y := ⟨_, rfl⟩
  obtain ⟨R, hR⟩ : ∃ R, rs.length = R := ⟨_, rfl⟩
  have hRN : R ≤ N := by rw [← hR, ← hrs, ← HNN.out]; exact scan_len l
  have HSC : Hid (Calls Try.prog 17 #[.slice (some ⟨g2, 0, none⟩) N c2] w2 fun r w' => ∃ v, r = .returned (.tuple #[v, .int .i64 (endOf rs : Nat), .int .i64 (y : Nat)]) ∧ w'.ownsRow w2.heap.size 9 1 v R (rs.map textV) ∧ Below w2.heap.size w2 w') := by
    have := scan_any (some ⟨g2, 0, none⟩) c2 l w2 HOB.out (by rw [HNN.out]; omega) (by rw [HNN.out]; exact hc2) (fun e => by cases e) (fun ad e => by cases e; exact Or.inl rfl)
    rw [HNN.out, hrs, hy, hR] at this
    exact this
  have HRS : Hid (∀ W : World, Below s w W → Calls Try.prog 18 #[.slice a N ca] W fun r w' => ∃ v5 v6, r = .returned (.tuple #[v5, v6, .int .i64 (y : Nat)]) ∧ SI W w' v5 v6 rs) := fun W hB => by
    have := rscan_any a ca l W (BytesAt.below HH.out (Nat.le_refl _) (by rw [HSS.out]; exact hB)) (by rw [HNN.out]; exact hl) (by rw [HNN.out]; exact hca)
    rw [HNN.out, hrs, hy] at this
    exact this
  have HRR : Hid _ := hR
  have HRL : Hid _ := hrs
  clear o2 B1 Q3 Q4 hs1 hrs hy hR HBW
  go_wp2_with fail
  refine (HSC.out).mono ?_
  rintro e w3 ⟨v3, rfl, o3, b3⟩
  obtain ⟨a3, c3, rfl⟩ := form9 o3
  have B3 : Hid (Below s w w3) := B2.out.trans (b3.mono (by omega))
  have HRS3 : Hid _ := HRS.out w3 B3.out
  have Q33 : Hid (Boxed w3 s 3 (.int .i64 st)) := boxed_below Q3'.out b3 (by omega)
  have Q43 : Hid (Boxed w3 (s + 1) 4 (.bool false)) := boxed_below Q4'.out b3 (by omega)
  have hs3 : s + 2 ≤ w3.heap.size := by have := b3.size; omega
  have HOB3 : Hid (BytesAt w3 (some ⟨g2, 0, none⟩) l) := HOB.out.below (Nat.le_refl _) b3
  have P3 : Hid (StrsAt w3 a3 (textsOf rs)) := strs_of_owns o3 HRR.out
  clear o3 b3 B2 Q3' Q4' hs2 HOB HSC HRS
  go_wp2_with fail
  refine Calls.mono HRS3.out ?_
  rintro e w4 ⟨v5, v6, rfl, S4⟩
  have t4 := S4.t
  have e4 := S4.e
  rw [HRR.out] at t4 e4
  obtain ⟨a5, c5, rfl⟩ := form9 t4
  obtain ⟨a6, c6, rfl⟩ := form3 e4
  have b4 : Hid _ := S4.bel
  have B4 : Hid (Below s w w4) := B3.out.trans (b4.out.mono (by omega))
  have Q34 : Hid (Boxed w4 s 3 (.int .i64 st)) := boxed_below Q33.out b4.out (by omega)
  have Q44 : Hid (Boxed w4 (s + 1) 4 (.bool false)) := boxed_below Q43.out b4.out (by omega)
  have hs4 : s + 2 ≤ w4.heap.size := by have := b4.out.size; omega
  have HOB4 : Hid (BytesAt w4 (some ⟨g2, 0, none⟩) l) := HOB3.out.below (Nat.le_refl _) b4.out
  have P34 : Hid (StrsAt w4 a3 (textsOf rs)) := fun j x hj => by
    obtain ⟨bb, off, e, hlt, hc⟩ := P3.out j x hj
    exact ⟨bb, off, e, Nat.lt_of_lt_of_le hlt b4.out.size, (b4.out.cell (p := ⟨bb, off + j, none⟩) hlt).trans hc⟩
  have P54 : Hid (StrsAt w4 a5 (textsOf rs)) := strs_of_owns t4 HRR.out
  have E64 : Hid _ := e4
  clear S4 t4 e4 b4 B3 Q33 Q43 hs3 HOB3 P3 HRS3
  go_upto_region 6 with fail
  obtain ⟨V, hV⟩ : ∃ V, (w4.alloc (.cells #[.slice a5 R c5] 22)).alloc (.cells #[.slice a6 R c6] 43) = V := ⟨_, rfl⟩
  rw [hV]
  have bV : Below w4.heap.size w4 V := by rw [← hV]; exact ((Below.refl _ w4).alloc (Nat.le_refl _) _).alloc (by simp) _
  have hVs : V.heap.size = w4.heap.size + 2 := by rw [← hV]; simp
  have SV : Hid (SW w V s w4.heap.size st a5 a6 c5 c6 R rs) := {
    bel := B4.out.trans (bV.mono (by omega))
    sz := by omega
    q3 := boxed_below Q34.out bV (by omega)
    q4 := boxed_below Q44.out bV (by omega)
    q9 := by
      show _ = _
      rw [← hV, Below.heap_alloc _ _ _ (by simp)]
      exact World.alloc_heap_new _ _
    q10 := by
      have := World.alloc_heap_new (w4.alloc (.cells #[.slice a5 R c5] 22)) (.cells #[.slice a6 R c6] 43)
      rw [World.size_alloc, hV] at this
      exact this
    strs := fun j x hj => by
      obtain ⟨b, off, e, hb, hc⟩ := P54.out j x hj
      exact ⟨b, off, e, hb, (bV.cell (p := ⟨b, off + j, none⟩) hb).trans hc⟩
    ends := fun j r hj => by
      obtain ⟨g, e, hc⟩ := ends_cell E64.out (Below.refl _ _) hj HRR.out
      exact ⟨g, e, World.block_lt_of_cell? _ _ hc, (bV.cell (p := ⟨g, j, none⟩) (World.block_lt_of_cell? _ _ hc)).trans hc⟩ }
  have OV : Hid (BytesAt V (some ⟨g2, 0, none⟩) l) := BytesAt.below HOB4.out (Nat.le_refl _) bV
  have AV : Hid (BytesAt V a l) := BytesAt.below HH.out (Nat.le_refl _) (by rw [HSS.out]; exact SV.out.bel)
  have PV : Hid (StrsAt V a3 (textsOf rs)) := fun j x hj => by
    obtain ⟨bb, off, e, hlt, hc⟩ := P34.out j x hj
    exact ⟨bb, off, e, Nat.lt_of_lt_of_le hlt bV.size, (bV.cell (p := ⟨bb, off + j, none⟩) hlt).trans hc⟩
  have P5V : Hid (StrsAt V a5 (textsOf rs)) := fun j x hj => by
    obtain ⟨bb, off, e, hlt, hc⟩ := SV.out.strs j x hj
    exact ⟨bb, off, e, by omega, hc⟩
  obtain ⟨u, hu⟩ : ∃ u, w4.heap.size = u := ⟨_, rfl⟩
  rw [hu] at SV hs4
  rw [hu]
  rw [hu] at hVs
  obtain ⟨E, hE⟩ : ∃ E, endOf rs = E := ⟨_, rfl⟩
  rw [hE]
  have HE : Hid _ := hE
  have v9 := boxed_cell SV.out.q9
  have v10 := boxed_cell SV.out.q10
  clear hV bV B4 Q34 Q44 HOB4 P34 P54 E64 hu hE hs
  go_upto_if 37 with fail
  go_cut [12] from 35 (fun s12 wc => s12 = .int .i64 (E : Nat) ∧ wc = V)
  case first =>
    by_cases hR0 : R = 0
    · obtain rfl : E = 0 := by
        have : rs = [] := List.eq_nil_of_length_eq_zero (by rw [HRR.out]; exact hR0)
        rw [← HE.out, this]; rfl
      subst hR0
      go_wp2_with fail
      go_meet
      case rel => exact ⟨rfl, rfl⟩
    · obtain ⟨r, hr⟩ : ∃ r, rs[R - 1]? = some r := ⟨rs[R - 1]'(by rw [HRR.out]; omega), List.getElem?_eq_getElem _⟩
      obtain ⟨g6, rfl, _, hc6⟩ := SV.out.ends _ r hr
      have hre : r.2 = E := by
        have := end_take hr
        rw [show R - 1 + 1 = R by omega, List.take_of_length_le (by rw [HRR.out]; omega), HE.out] at this
        exact this.symm
      rw [hre] at hc6
      have hR1 : ((R : Int) - 1) = ((R - 1 : Nat) : Int) := by omega
      have hR2 : (0 : Int) < (R : Int) := by omega
      clear hr hre
      go_wp2_with fail
      go_meet
      case rel => exact ⟨rfl, rfl⟩
  case rest =>
  obtain ⟨rfl, rfl⟩ := hcut
  have HST : Hid (∀ W : World, Below wc.heap.size wc W → Calls Try.prog 19 #[.slice a3 R c3, .slice a5 R c5] W fun r w' => r = .returned (.bool true) ∧ Below W.heap.size W w') := fun W hB => by
    have := sameTexts_eq a3 a5 c3 c5 (textsOf rs) W (fun j x hj => by
      obtain ⟨bb, off, e, hlt, hc⟩ := PV.out j x hj
      exact ⟨bb, off, e, Nat.lt_of_lt_of_le hlt hB.size, (hB.cell (p := ⟨bb, off + j, none⟩) hlt).trans hc⟩) (fun j x hj => by
      obtain ⟨bb, off, e, hlt, hc⟩ := P5V.out j x hj
      exact ⟨bb, off, e, Nat.lt_of_lt_of_le hlt hB.size, (hB.cell (p := ⟨bb, off + j, none⟩) hlt).trans hc⟩) (by simp only [textsOf, List.length_map, HRR.out]; omega)
    rw [show (textsOf rs).length = R by simp [textsOf, HRR.out]] at this
    exact this
  have HSB : Hid (∀ W : World, Below wc.heap.size wc W → Calls Try.prog 15 #[.slice (some ⟨g2, 0, none⟩) N c2, .slice a N ca] W fun r w' => r = .returned (.bool true) ∧ ∃ n, w' = W.drewN n) := fun W hB => by
    have := sameBytes_any (some ⟨g2, 0, none⟩) a c2 ca l l W (BytesAt.below OV.out (Nat.le_refl _) hB) (BytesAt.below AV.out (Nat.le_refl _) hB) (by rw [HNN.out]; omega)
    rw [HNN.out, decide_eq_true rfl] at this
    exact this
  have hEE : ((E : Int) != (E : Int)) = false := by simp
  have hyy : ((y : Int) != (y : Int)) = false := by simp
  go_wp2_with fail
  refine (HST.out _ (Below.refl _ _)).mono ?_
  rintro e w6 ⟨rfl, b6⟩
  go_wp2_with fail
  refine (HSB.out _ b6).mono ?_
  rintro e w7 ⟨rfl, nn, hw7⟩
  have b7 : Below wc.heap.size wc w7 := by rw [hw7]; exact b6.trans ((belD _ _).mono b6.size)
  rw [hVs] at b7
  have S7 : Hid (SW w w7 s u st a5 a6 c5 c6 R rs) := SV.out.below b7 hs4
  have O7 : Hid (BytesAt w7 (some ⟨g2, 0, none⟩) l) := BytesAt.below OV.out (Nat.le_refl _) (by rw [hVs]; exact b7)
  have HRC : Hid (Calls Try.prog 20 #[.slice (some ⟨g2, 0, none⟩) N c2] w7 fun r w' => ∃ c0 g cap, r = .returned (.func (.func 30) #[] #[.pointer (some ⟨c0, 0, none⟩)]) ∧ Boxed w' c0 33 (.slice (some ⟨g, 0, none⟩) N cap) ∧ N ≤ cap ∧ w7.heap.size ≤ c0 ∧ BytesAt w' (some ⟨g, 0, none⟩) l ∧ Below w7.heap.size w7 w') := by
    have := records_some ⟨g2, 0, none⟩ c2 l w7 O7.out (by rw [HNN.out]; omega)
    rw [HNN.out] at this
    exact this
  clear b6 b7 hw7 SV OV PV P5V v9 v10 HST HSB hEE hyy hVs
  go_wp2_with fail
  refine (HRC.out).mono ?_
  rintro e w8 ⟨c0, g8, cap8, rfl, q8, hc8, hc0s, y8, b8⟩
  have S8 : Hid (SW w w8 s u st a5 a6 c5 c6 R rs) := S7.out.below (b8.mono S7.out.sz) hs4
  have Q8 : Hid _ := q8
  have Y8 : Hid _ := y8
  have hc0u : u + 2 ≤ c0 := Nat.le_trans S7.out.sz hc0s
  clear q8 y8 b8 hc0s S7 O7 HRC AV
  go_upto_region 12 with fail
  obtain ⟨v, hv⟩ : ∃ v, w8.heap.size = v := ⟨_, rfl⟩
  have hvu : u + 2 ≤ v := by rw [← hv]; exact S8.out.sz
  have hv8 : c0 < v := by rw [← hv]; exact (Array.getElem?_eq_some_iff.1 Q8.out).1
  go_wp2_with fail
  refine wp_loop_rounds 3 ?_
  rw [rounds_succ]
  have k14 : (w8.alloc (.cells #[.int .i64 0] 3)).cell? ⟨v, 0, none⟩ = some (.int .i64 0) := by
    have := World.alloc_heap_new w8 (.cells #[.int .i64 0] 3)
    rw [hv] at this
    exact boxed_cell this
  go_wp2_with fail
  obtain ⟨X, hX⟩ : ∃ X, (w8.alloc (.cells #[.int .i64 0] 3)).alloc (.cells #[.int .i64 0] 3) = X := ⟨_, rfl⟩
  rw [hX]
  have bX : Below v w8 X := by rw [← hX, ← hv]; exact ((Below.refl _ w8).alloc (Nat.le_refl _) _).alloc (by simp) _
  have hXs : X.heap.size = v + 2 := by rw [← hX, ← hv]; simp
  have LX : LW s u v (v + 2) v (v + 1) c0 := ⟨hs4, hvu, Nat.le_refl _, by omega, by omega, hv8⟩
  have IX : IW w X s u v (v + 2) v (v + 1) c0 g8 cap8 st 0 [] a5 a6 c5 c6 R rs l [] := {
    sw := S8.out.below (bX.mono hvu) hs4
    sz := by omega
    q14 := by
      show _ = _
      rw [← hX, ← hv, Below.heap_alloc _ _ _ (by simp)]
      exact World.alloc_heap_new _ _
    q15 := by
      have := World.alloc_heap_new (w8.alloc (.cells #[.int .i64 0] 3)) (.cells #[.int .i64 0] 3)
      rw [World.size_alloc, hX, hv] at this
      exact this
    q8 := by rw [HNN.out]; exact boxed_below Q8.out bX hv8
    y8 := fun j c hj => by
      obtain ⟨bb, off, e, hlt, hc⟩ := Y8.out j c hj
      cases e
      exact ⟨by rw [← hv]; exact hlt, (bX.cell (p := ⟨g8, 0 + j, none⟩) (by rw [← hv]; exact hlt)).trans hc⟩
    dq := fun D hD => by cases hD }
  clear hX bX S8 Q8 Y8 k14 hv
  have HSQ0 : ∀ o, SeqW Fence.wide 7 Try.prog 30 #[] #[.pointer (some ⟨c0, 0, none⟩)] encR (Ahead (v + 2)) (At (v + 4) (some ⟨g8, 0, none⟩) cap8 l) (End (v + 4) (some ⟨g8, 0, none⟩) cap8 l) (fun pre => ∃ rest, pre ++ rest = (scanL l).1) (scanL l).1.length ((X.alloc (.deferred (some []))).alloc o) := fun o => by
    have bz : Below (v + 2) X ((X.alloc (.deferred (some []))).alloc o) := by rw [← hXs]; exact ((Below.refl _ X).alloc (Nat.le_refl _) _).alloc (by simp) _
    have IZ := IW.below IX bz LX
    exact records30_seq 7 (by omega) (v + 2) (v + 4) c0 (some ⟨g8, 0, none⟩) cap8 l _ (by simp; omega) (by omega) (boxed_cell IZ.q8) (IZ.bytes LX) (by rw [HNN.out]; omega) (by rw [HNN.out]; exact hc8) (fun e => by cases e) (fun ad e => by cases e; exact Or.inl rfl)
  refine (wpIn_wide (n := 8)).1 ?_
  refine wpIn_rangeFunc_laid (w := X) rfl (by omega) (gf := 30) (pa := #[]) (lb := #[.pointer (some ⟨c0, 0, none⟩)]) rfl trivial (enters_of Try.func30 (by kernel_rfl) rfl) (Rk := Ahead (v + 2)) (fun A B hm => hm.2) HSQ0 (fun _ => rfl)
    (fun pre W => IW w W s u v (v + 2) v (v + 1) c0 g8 cap8 st 0 [] a5 a6 c5 c6 R rs l pre)
    (fun c pre W => c = .exit 2 ∧ (pre.length : Int) = st ∧ IW w W s u v (v + 2) v (v + 1) c0 g8 cap8 st 0 [] a5 a6 c5 c6 R rs l pre)
    (by rw [hXs]; exact own_of_below (fun _ _ h => h.sz) (fun _ _ _ h k => h.below k LX))
    (fun c => by rw [hXs]; exact own_of_below (fun _ _ h => h.2.2.sz) (fun _ _ _ h k => ⟨h.1, h.2.1, h.2.2.below k LX⟩))
    (at_own _) (end_own _) (fun _ _ _ h k => h.below k.1 LX) (fun _ _ _ _ h k => ⟨h.1, h.2.1, h.2.2.below k.1 LX⟩) IX
    ?a10 ?assign0 ?body0 ?done0 ?stop0
  case assign0 =>
    intro lp r W K hK
    simp only [encR]
    gi_wp2
    exact hK
  case body0 =>
    rintro lp pre r W hI hT hlen
    have hr : rs[pre.length]? = some r := by rw [← HRL.out]; exact at_next hT
    obtain ⟨g6, e61, hg6, e6⟩ := hI.sw.ends _ r hr
    obtain ⟨g5, off5, e51, hg5, e5⟩ := hI.sw.strs pre.length ⟨r.1.toArray⟩ (by rw [textsOf, List.getElem?_map, hr]; rfl)
    have hpR : pre.length < R := by rw [← HRR.out]; exact (List.getElem?_eq_some_iff.1 hr).1
    have k15 := boxed_cell hI.q15
    have k14 := boxed_cell hI.q14
    have k9 := boxed_cell hI.sw.q9
    have k10 := boxed_cell hI.sw.q10
    have k3 := boxed_cell hI.sw.q3
    have f15 := boxed_frozen hI.q15
    rw [e51] at k9
    rw [e61] at k10
    obtain ⟨m, hm⟩ : ∃ m, pre.length = m := ⟨_, rfl⟩
    have HI : Hid _ := IW.step hI LX r hm
    have HT : Hid _ := IW.at' hI LX (by omega) hm hT
    rw [hm] at e6 e5 hpR k15
    have HM : Hid _ := hm
    obtain ⟨ra, rb⟩ := r
    have hmR : (m : Int) < (R : Int) := by omega
    have hmR2 : decide ((R : Int) ≤ (m : Int)) = false := decide_eq_false (by omega)
    have hrr : ((rb : Int) != (rb : Int)) = false := by simp
    clear hI hT hr hm hlen e51 e61
    by_cases hst : (m : Int) + 1 = st
    · have hst' : ((m : Int) + 1 == st) = true := by simp [hst]
      gi_wp2
      exact ⟨KeepsOthers.setCell _ _ _, rfl, by rw [List.length_append, HM.out]; simp; omega, by have h2 := HI.out; rw [hst] at h2; exact h2⟩
    · have hst' : ((m : Int) + 1 == st) = false := by simp [hst]
      gi_wp2
      exact ⟨KeepsOthers.setCell _ _ _, HT.out, HI.out⟩

  case done0 =>
    rintro D xs W hD hS hI hd
    have hlen : xs.length = R := by rw [hS.1, HRL.out, HRR.out]
    have hcond : ((xs.length : Int) = (R : Int)) := by rw [hlen]
    have k15 := boxed_cell hI.q15
    have k14 := boxed_cell hI.q14
    have k9 := boxed_cell hI.sw.q9
    have k3 := boxed_cell hI.sw.q3
    have HI : Hid _ := hI
    have HD : Hid _ := hd
    have HDD : Hid _ := hD
    obtain ⟨y2, hy2⟩ : ∃ y2, W.heap.size = y2 := ⟨_, rfl⟩
    rw [hlen] at k15
    have hne : ((R : Int) != (R : Int)) = false := by simp
    clear hI hd hD hS hcond hlen
    go_wp2_with fail
    rw [rounds_succ]
    have k14b : (W.alloc (.cells #[.int .i64 1] 3)).cell? ⟨y2, 0, none⟩ = some (.int .i64 1) := by
      have := World.alloc_heap_new W (.cells #[.int .i64 1] 3)
      rw [hy2] at this
      exact boxed_cell this
    go_wp2_with fail
    obtain ⟨X1, hX1⟩ : ∃ X1, (W.alloc (.cells #[.int .i64 1] 3)).alloc (.cells #[.int .i64 0] 3) = X1 := ⟨_, rfl⟩
    rw [hX1]
    have bX1 : Below y2 W X1 := by rw [← hX1, ← hy2]; exact ((Below.refl _ W).alloc (Nat.le_refl _) _).alloc (by simp) _
    have hX1s : X1.heap.size = y2 + 2 := by rw [← hX1, ← hy2]; simp
    have hvy : v + 2 ≤ y2 := by rw [← hy2]; exact HI.out.sz
    have hDy : D < y2 := by rw [← hy2]; exact (Array.getElem?_eq_some_iff.1 HD.out).1
    have hDs : v + 2 ≤ D := by rw [← hXs]; exact HDD.out
    have LX1 : LW s u v (y2 + 2) y2 (y2 + 1) c0 := ⟨hs4, hvu, by omega, by omega, by omega, hv8⟩
    have IX1 : IW w X1 s u v (y2 + 2) y2 (y2 + 1) c0 g8 cap8 st 1 [D] a5 a6 c5 c6 R rs l [] := {
      sw := HI.out.sw.below (bX1.mono (by omega)) hs4
      sz := by omega
      q14 := by
        show _ = _
        rw [← hX1, ← hy2, Below.heap_alloc _ _ _ (by simp)]
        exact World.alloc_heap_new _ _
      q15 := by
        have := World.alloc_heap_new (W.alloc (.cells #[.int .i64 1] 3)) (.cells #[.int .i64 0] 3)
        rw [World.size_alloc, hX1, hy2] at this
        exact this
      q8 := boxed_below HI.out.q8 bX1 (by omega)
      y8 := fun j c hj => by
        obtain ⟨e, hc⟩ := HI.out.y8 j c hj
        exact ⟨e, (bX1.cell (p := ⟨g8, 0 + j, none⟩) (by show g8 < y2; omega)).trans hc⟩
      dq := fun D' hD' => by
        obtain rfl : D' = D := by simpa using hD'
        exact ⟨by omega, hDy, (bX1.block D' hDy).trans HD.out⟩ }
    clear hX1 bX1 k14b hy2 HI HD HDD k15 k14 k9 k3 hne
    have HSQ1 : ∀ o, SeqW Fence.wide 7 Try.prog 30 #[] #[.pointer (some ⟨c0, 0, none⟩)] encR (Ahead (y2 + 2)) (At (y2 + 4) (some ⟨g8, 0, none⟩) cap8 l) (End (y2 + 4) (some ⟨g8, 0, none⟩) cap8 l) (fun pre => ∃ rest, pre ++ rest = (scanL l).1) (scanL l).1.length ((X1.alloc (.deferred (some []))).alloc o) := fun o => by
      have bz : Below (y2 + 2) X1 ((X1.alloc (.deferred (some []))).alloc o) := by rw [← hX1s]; exact ((Below.refl _ X1).alloc (Nat.le_refl _) _).alloc (by simp) _
      have IZ := IW.below IX1 bz LX1
      exact records30_seq 7 (by omega) (y2 + 2) (y2 + 4) c0 (some ⟨g8, 0, none⟩) cap8 l _ (by simp; omega) (by omega) (boxed_cell IZ.q8) (IZ.bytes LX1) (by rw [HNN.out]; omega) (by rw [HNN.out]; exact hc8) (fun e => by cases e) (fun ad e => by cases e; exact Or.inl rfl)
    refine (wpIn_wide (n := 8)).1 ?_
    refine wpIn_rangeFunc_laid (w := X1) rfl (by omega) (gf := 30) (pa := #[]) (lb := #[.pointer (some ⟨c0, 0, none⟩)]) rfl trivial (enters_of Try.func30 (by kernel_rfl) rfl) (Rk := Ahead (y2 + 2)) (fun A B hm => hm.2) HSQ1 (fun _ => rfl)
      (fun pre W => IW w W s u v (y2 + 2) y2 (y2 + 1) c0 g8 cap8 st 1 [D] a5 a6 c5 c6 R rs l pre)
      (fun _ _ _ => False)
      (by rw [hX1s]; exact own_of_below (fun _ _ h => h.sz) (fun _ _ _ h k => h.below k LX1))
      (fun c => by rw [hX1s]; exact own_of_below (fun _ _ h => h.elim) (fun _ _ _ h _ => h.elim))
      (at_own _) (end_own _) (fun _ _ _ h k => h.below k.1 LX1) (fun _ _ _ _ h k => h.elim) IX1
      ?a11a ?assign1a ?body1a ?done1a ?stop1a
    case assign1a =>
      intro lp r W K hK
      simp only [encR]
      gi_wp2
      exact hK
    case body1a =>
      rintro lp pre r W hI hT hlen
      have hr : rs[pre.length]? = some r := by rw [← HRL.out]; exact at_next hT
      obtain ⟨g6, e61, hg6, e6⟩ := hI.sw.ends _ r hr
      obtain ⟨g5, off5, e51, hg5, e5⟩ := hI.sw.strs pre.length ⟨r.1.toArray⟩ (by rw [textsOf, List.getElem?_map, hr]; rfl)
      have hpR : pre.length < R := by rw [← HRR.out]; exact (List.getElem?_eq_some_iff.1 hr).1
      have k15 := boxed_cell hI.q15
      have k14 := boxed_cell hI.q14
      have k9 := boxed_cell hI.sw.q9
      have k10 := boxed_cell hI.sw.q10
      have k3 := boxed_cell hI.sw.q3
      have f15 := boxed_frozen hI.q15
      rw [e51] at k9
      rw [e61] at k10
      obtain ⟨m, hm⟩ : ∃ m, pre.length = m := ⟨_, rfl⟩
      have HI : Hid _ := IW.step hI LX1 r hm
      have HT : Hid _ := IW.at' hI LX1 (by omega) hm hT
      rw [hm] at e6 e5 hpR k15
      have HM : Hid _ := hm
      obtain ⟨ra, rb⟩ := r
      have hmR : (m : Int) < (R : Int) := by omega
      have hmR2 : decide ((R : Int) ≤ (m : Int)) = false := decide_eq_false (by omega)
      have hrr : ((rb : Int) != (rb : Int)) = false := by simp
      clear hI hT hr hm hlen e51 e61
      gi_wp2
      exact ⟨KeepsOthers.setCell _ _ _, HT.out, HI.out⟩

    case done1a =>
      rintro D1 xs W hD hS hI hd
      have hlen : xs.length = R := by rw [hS.1, HRL.out, HRR.out]
      have hcond : ((xs.length : Int) = (R : Int)) := by rw [hlen]
      have k15 := boxed_cell hI.q15
      have k14 := boxed_cell hI.q14
      have k9 := boxed_cell hI.sw.q9
      rw [hlen] at k15
      have hne : ((R : Int) != (R : Int)) = false := by simp
      obtain ⟨y3, hy3⟩ : ∃ y3, W.heap.size = y3 := ⟨_, rfl⟩
      have HI1 : Hid _ := hI
      have HD1 : Hid _ := hd
      have HDD1 : Hid _ := hD
      clear hI hd hD hS hcond hlen
      go_wp2_with fail
      rw [rounds_succ]
      have k14c : (W.alloc (.cells #[.int .i64 2] 3)).cell? ⟨y3, 0, none⟩ = some (.int .i64 2) := by
        have := World.alloc_heap_new W (.cells #[.int .i64 2] 3)
        rw [hy3] at this
        exact boxed_cell this
      have k4 : (W.alloc (.cells #[.int .i64 2] 3)).cell? ⟨s + 1, 0, none⟩ = some (.bool false) := boxed_cell (HI1.out.sw.q4.alloc _)
      have f4 : (W.alloc (.cells #[.int .i64 2] 3)).frozen? ⟨s + 1, 0, none⟩ = false := boxed_frozen (HI1.out.sw.q4.alloc _)
      go_wp2_with fail
      obtain ⟨Y, hY⟩ : ∃ Y, (W.alloc (.cells #[.int .i64 2] 3)).setCell ⟨s + 1, 0, none⟩ (.bool true) = Y := ⟨_, rfl⟩
      rw [hY]
      have hDD1 := HDD1.out
      rw [hX1s] at hDD1
      have hlt1 : D1 < W.heap.size := (Array.getElem?_eq_some_iff.1 HD1.out).1
      obtain ⟨e1, e2, e3⟩ := HI1.out.dq D (by simp)
      have hD1Y : Y.heap[D1]? = some (.deferred (some [])) := by rw [← hY]; exact (Below.heap_setCell _ _ _ _ (by show D1 ≠ s + 1; omega)).trans ((Below.heap_alloc _ _ _ hlt1).trans HD1.out)
      have hDY : Y.heap[D]? = some (.deferred (some [])) := by rw [← hY]; exact (Below.heap_setCell _ _ _ _ (by show D ≠ s + 1; omega)).trans ((Below.heap_alloc _ _ _ (by omega)).trans e3)
      have q4Y : Boxed Y (s + 1) 4 (.bool true) := by rw [← hY]; exact Boxed.set _ (HI1.out.sw.q4.alloc _)
      have bY : Below s w Y := by
        rw [← hY]
        exact (HI1.out.sw.bel.alloc (by have := HI1.out.sw.sz; omega) _).setCell (p := ⟨s + 1, 0, none⟩) (by show s ≤ s + 1; omega) _
      refine ⟨by simp, .inl ⟨_, _, rfl, run_takeDeferred hD1Y, ?_⟩⟩
      have p1 : ∀ k, k ≠ D1 → (Y.putObj D1 (.deferred none)).heap[k]? = Y.heap[k]? := fun k hk => World.putObj_heap_other hk
      have hDZ : (Y.putObj D1 (.deferred none)).heap[D]? = some (.deferred (some [])) := (p1 D (by omega)).trans hDY
      refine ⟨by simp, .inl ⟨_, _, rfl, run_takeDeferred hDZ, ?_⟩⟩
      have p2 : ∀ k, k ≠ D → ((Y.putObj D1 (.deferred none)).putObj D (.deferred none)).heap[k]? = (Y.putObj D1 (.deferred none)).heap[k]? := fun k hk => World.putObj_heap_other hk
      have q4Z : Boxed ((Y.putObj D1 (.deferred none)).putObj D (.deferred none)) (s + 1) 4 (.bool true) := (p2 _ (by omega)).trans ((p1 _ (by omega)).trans q4Y)
      have hc4 := boxed_cell q4Z
      have hws := HSS.out
      refine ⟨.bool true, ?_, rfl, ?_⟩
      · simp [results, Try.f4, go_sem, hc4]
      · rw [hws]
        exact (bY.trans (belowK_b (w := w) (by omega) Y D1 _ _ (by omega) hD1Y rfl rfl)).trans (belowK_b (w := w) (by omega) _ D _ _ (by omega) hDZ rfl rfl)

    case stop1a =>
      rintro D c pre W _ _ h _
      exact h.elim


  case stop0 =>
    rintro D c pre W hD hSp ⟨rfl, hst, hI⟩ hd
    refine wpIn_wide.2 ?_
    have k15 := boxed_cell hI.q15
    have k14 := boxed_cell hI.q14
    have k9 := boxed_cell hI.sw.q9
    have k3 := boxed_cell hI.sw.q3
    have HI : Hid _ := hI
    have HD : Hid _ := hd
    have HDD : Hid _ := hD
    obtain ⟨y2, hy2⟩ : ∃ y2, W.heap.size = y2 := ⟨_, rfl⟩
    rw [hst] at k15
    have hne : (st != st) = false := by simp
    clear hI hd hD hSp hst
    go_upto_region 23 with fail
    go_cut [114] from 66 (fun s114 wx => s114 = .bool false ∧ wx = W)
    case first =>
      by_cases hsR : st = (R : Int)
      · have hn2 : (st != (R : Int)) = false := by simp [hsR]
        go_wp2_with fail
        go_meet
        case rel => exact ⟨rfl, rfl⟩
      · have hn2 : (st != (R : Int)) = true := by simp [hsR]
        go_wp2_with fail
        go_meet
        case rel => exact ⟨rfl, rfl⟩
    case rest =>
    obtain ⟨rfl, rfl⟩ := hcut
    go_wp2_with fail
    rw [rounds_succ]
    have k14b : (wc.alloc (.cells #[.int .i64 1] 3)).cell? ⟨y2, 0, none⟩ = some (.int .i64 1) := by
      have := World.alloc_heap_new wc (.cells #[.int .i64 1] 3)
      rw [hy2] at this
      exact boxed_cell this
    go_wp2_with fail
    obtain ⟨X1, hX1⟩ : ∃ X1, (wc.alloc (.cells #[.int .i64 1] 3)).alloc (.cells #[.int .i64 0] 3) = X1 := ⟨_, rfl⟩
    rw [hX1]
    have bX1 : Below y2 wc X1 := by rw [← hX1, ← hy2]; exact ((Below.refl _ wc).alloc (Nat.le_refl _) _).alloc (by simp) _
    have hX1s : X1.heap.size = y2 + 2 := by rw [← hX1, ← hy2]; simp
    have hvy : v + 2 ≤ y2 := by rw [← hy2]; exact HI.out.sz
    have hDy : D < y2 := by rw [← hy2]; exact (Array.getElem?_eq_some_iff.1 HD.out).1
    have hDs : v + 2 ≤ D := by rw [← hXs]; exact HDD.out
    have LX1 : LW s u v (y2 + 2) y2 (y2 + 1) c0 := ⟨hs4, hvu, by omega, by omega, by omega, hv8⟩
    have IX1 : IW w X1 s u v (y2 + 2) y2 (y2 + 1) c0 g8 cap8 st 1 [D] a5 a6 c5 c6 R rs l [] := {
      sw := HI.out.sw.below (bX1.mono (by omega)) hs4
      sz := by omega
      q14 := by
        show _ = _
        rw [← hX1, ← hy2, Below.heap_alloc _ _ _ (by simp)]
        exact World.alloc_heap_new _ _
      q15 := by
        have := World.alloc_heap_new (wc.alloc (.cells #[.int .i64 1] 3)) (.cells #[.int .i64 0] 3)
        rw [World.size_alloc, hX1, hy2] at this
        exact this
      q8 := boxed_below HI.out.q8 bX1 (by omega)
      y8 := fun j c hj => by
        obtain ⟨e, hc⟩ := HI.out.y8 j c hj
        exact ⟨e, (bX1.cell (p := ⟨g8, 0 + j, none⟩) (by show g8 < y2; omega)).trans hc⟩
      dq := fun D' hD' => by
        obtain rfl : D' = D := by simpa using hD'
        exact ⟨by omega, hDy, (bX1.block D' hDy).trans HD.out⟩ }
    clear hX1 bX1 k14b hy2 HI HD HDD k15 k14 k9 k3 hne
    have HSQ1 : ∀ o, SeqW Fence.wide 7 Try.prog 30 #[] #[.pointer (some ⟨c0, 0, none⟩)] encR (Ahead (y2 + 2)) (At (y2 + 4) (some ⟨g8, 0, none⟩) cap8 l) (End (y2 + 4) (some ⟨g8, 0, none⟩) cap8 l) (fun pre => ∃ rest, pre ++ rest = (scanL l).1) (scanL l).1.length ((X1.alloc (.deferred (some []))).alloc o) := fun o => by
      have bz : Below (y2 + 2) X1 ((X1.alloc (.deferred (some []))).alloc o) := by rw [← hX1s]; exact ((Below.refl _ X1).alloc (Nat.le_refl _) _).alloc (by simp) _
      have IZ := IW.below IX1 bz LX1
      exact records30_seq 7 (by omega) (y2 + 2) (y2 + 4) c0 (some ⟨g8, 0, none⟩) cap8 l _ (by simp; omega) (by omega) (boxed_cell IZ.q8) (IZ.bytes LX1) (by rw [HNN.out]; omega) (by rw [HNN.out]; exact hc8) (fun e => by cases e) (fun ad e => by cases e; exact Or.inl rfl)
    refine (wpIn_wide (n := 8)).1 ?_
    refine wpIn_rangeFunc_laid (w := X1) rfl (by omega) (gf := 30) (pa := #[]) (lb := #[.pointer (some ⟨c0, 0, none⟩)]) rfl trivial (enters_of Try.func30 (by kernel_rfl) rfl) (Rk := Ahead (y2 + 2)) (fun A B hm => hm.2) HSQ1 (fun _ => rfl)
      (fun pre W => IW w W s u v (y2 + 2) y2 (y2 + 1) c0 g8 cap8 st 1 [D] a5 a6 c5 c6 R rs l pre)
      (fun _ _ _ => False)
      (by rw [hX1s]; exact own_of_below (fun _ _ h => h.sz) (fun _ _ _ h k => h.below k LX1))
      (fun c => by rw [hX1s]; exact own_of_below (fun _ _ h => h.elim) (fun _ _ _ h _ => h.elim))
      (at_own _) (end_own _) (fun _ _ _ h k => h.below k.1 LX1) (fun _ _ _ _ h k => h.elim) IX1
      ?a11b ?assign1b ?body1b ?done1b ?stop1b
    case assign1b =>
      intro lp r W K hK
      simp only [encR]
      gi_wp2
      exact hK
    case body1b =>
      rintro lp pre r W hI hT hlen
      have hr : rs[pre.length]? = some r := by rw [← HRL.out]; exact at_next hT
      obtain ⟨g6, e61, hg6, e6⟩ := hI.sw.ends _ r hr
      obtain ⟨g5, off5, e51, hg5, e5⟩ := hI.sw.strs pre.length ⟨r.1.toArray⟩ (by rw [textsOf, List.getElem?_map, hr]; rfl)
      have hpR : pre.length < R := by rw [← HRR.out]; exact (List.getElem?_eq_some_iff.1 hr).1
      have k15 := boxed_cell hI.q15
      have k14 := boxed_cell hI.q14
      have k9 := boxed_cell hI.sw.q9
      have k10 := boxed_cell hI.sw.q10
      have k3 := boxed_cell hI.sw.q3
      have f15 := boxed_frozen hI.q15
      rw [e51] at k9
      rw [e61] at k10
      obtain ⟨m, hm⟩ : ∃ m, pre.length = m := ⟨_, rfl⟩
      have HI : Hid _ := IW.step hI LX1 r hm
      have HT : Hid _ := IW.at' hI LX1 (by omega) hm hT
      rw [hm] at e6 e5 hpR k15
      have HM : Hid _ := hm
      obtain ⟨ra, rb⟩ := r
      have hmR : (m : Int) < (R : Int) := by omega
      have hmR2 : decide ((R : Int) ≤ (m : Int)) = false := decide_eq_false (by omega)
      have hrr : ((rb : Int) != (rb : Int)) = false := by simp
      clear hI hT hr hm hlen e51 e61
      gi_wp2
      exact ⟨KeepsOthers.setCell _ _ _, HT.out, HI.out⟩

    case done1b =>
      rintro D1 xs W hD hS hI hd
      have hlen : xs.length = R := by rw [hS.1, HRL.out, HRR.out]
      have hcond : ((xs.length : Int) = (R : Int)) := by rw [hlen]
      have k15 := boxed_cell hI.q15
      have k14 := boxed_cell hI.q14
      have k9 := boxed_cell hI.sw.q9
      rw [hlen] at k15
      have hne : ((R : Int) != (R : Int)) = false := by simp
      obtain ⟨y3, hy3⟩ : ∃ y3, W.heap.size = y3 := ⟨_, rfl⟩
      have HI1 : Hid _ := hI
      have HD1 : Hid _ := hd
      have HDD1 : Hid _ := hD
      clear hI hd hD hS hcond hlen
      go_wp2_with fail
      rw [rounds_succ]
      have k14c : (W.alloc (.cells #[.int .i64 2] 3)).cell? ⟨y3, 0, none⟩ = some (.int .i64 2) := by
        have := World.alloc_heap_new W (.cells #[.int .i64 2] 3)
        rw [hy3] at this
        exact boxed_cell this
      have k4 : (W.alloc (.cells #[.int .i64 2] 3)).cell? ⟨s + 1, 0, none⟩ = some (.bool false) := boxed_cell (HI1.out.sw.q4.alloc _)
      have f4 : (W.alloc (.cells #[.int .i64 2] 3)).frozen? ⟨s + 1, 0, none⟩ = false := boxed_frozen (HI1.out.sw.q4.alloc _)
      go_wp2_with fail
      obtain ⟨Y, hY⟩ : ∃ Y, (W.alloc (.cells #[.int .i64 2] 3)).setCell ⟨s + 1, 0, none⟩ (.bool true) = Y := ⟨_, rfl⟩
      rw [hY]
      have hDD1 := HDD1.out
      rw [hX1s] at hDD1
      have hlt1 : D1 < W.heap.size := (Array.getElem?_eq_some_iff.1 HD1.out).1
      obtain ⟨e1, e2, e3⟩ := HI1.out.dq D (by simp)
      have hD1Y : Y.heap[D1]? = some (.deferred (some [])) := by rw [← hY]; exact (Below.heap_setCell _ _ _ _ (by show D1 ≠ s + 1; omega)).trans ((Below.heap_alloc _ _ _ hlt1).trans HD1.out)
      have hDY : Y.heap[D]? = some (.deferred (some [])) := by rw [← hY]; exact (Below.heap_setCell _ _ _ _ (by show D ≠ s + 1; omega)).trans ((Below.heap_alloc _ _ _ (by omega)).trans e3)
      have q4Y : Boxed Y (s + 1) 4 (.bool true) := by rw [← hY]; exact Boxed.set _ (HI1.out.sw.q4.alloc _)
      have bY : Below s w Y := by
        rw [← hY]
        exact (HI1.out.sw.bel.alloc (by have := HI1.out.sw.sz; omega) _).setCell (p := ⟨s + 1, 0, none⟩) (by show s ≤ s + 1; omega) _
      refine ⟨by simp, .inl ⟨_, _, rfl, run_takeDeferred hD1Y, ?_⟩⟩
      have p1 : ∀ k, k ≠ D1 → (Y.putObj D1 (.deferred none)).heap[k]? = Y.heap[k]? := fun k hk => World.putObj_heap_other hk
      have hDZ : (Y.putObj D1 (.deferred none)).heap[D]? = some (.deferred (some [])) := (p1 D (by omega)).trans hDY
      refine ⟨by simp, .inl ⟨_, _, rfl, run_takeDeferred hDZ, ?_⟩⟩
      have p2 : ∀ k, k ≠ D → ((Y.putObj D1 (.deferred none)).putObj D (.deferred none)).heap[k]? = (Y.putObj D1 (.deferred none)).heap[k]? := fun k hk => World.putObj_heap_other hk
      have q4Z : Boxed ((Y.putObj D1 (.deferred none)).putObj D (.deferred none)) (s + 1) 4 (.bool true) := (p2 _ (by omega)).trans ((p1 _ (by omega)).trans q4Y)
      have hc4 := boxed_cell q4Z
      have hws := HSS.out
      refine ⟨.bool true, ?_, rfl, ?_⟩
      · simp [results, Try.f4, go_sem, hc4]
      · rw [hws]
        exact (bY.trans (belowK_b (w := w) (by omega) Y D1 _ _ (by omega) hD1Y rfl rfl)).trans (belowK_b (w := w) (by omega) _ D _ _ (by omega) hDZ rfl rfl)

    case stop1b =>
      rintro D c pre W _ _ h _
      exact h.elim


end Go.Proofs.Ytefigcnfcbdecaa
