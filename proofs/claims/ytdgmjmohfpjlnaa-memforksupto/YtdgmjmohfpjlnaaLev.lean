/-
  The contract of Levels.
-/
import Derived.Test.YtdgmjmohfpjlnaaLvs
namespace Go.Proofs.Ytdgmjmohfpjlnaa
open Go.RowKit Go.Shelf
attribute [local go_sem] Oper.semAt_some
theorem run_ixk (W : World) (f : Nat → Nat) {k : Nat} (h : k < 12) : (Instr.index 66 (.agg (lkL f).toArray) (.int .i64 ((k : Nat) : Int))).run Try.prog W = .ok (.int .i64 ((f k : Nat) : Int)) W := by
  rcases (by omega : k = 0 ∨ k = 1 ∨ k = 2 ∨ k = 3 ∨ k = 4 ∨ k = 5 ∨ k = 6 ∨ k = 7 ∨ k = 8 ∨ k = 9 ∨ k = 10 ∨ k = 11) with rfl | rfl | rfl | rfl | rfl | rfl | rfl | rfl | rfl | rfl | rfl | rfl <;>
    simp [Instr.index, run_underlying Try.underlying66, asIntOf, go_sem, Try.sizeOf3, part, Try.isAgg3, lkL]
def mkD (D : Nat) : Deferred := { target := .collected D, args := #[] }
/-- Marks alone: the function leaves. -/
theorem leaves_marks {F : Fence} {n : Nat} {P : Program} {fn : Func} {tmps : Array Value} {R : Ending → World → Prop} : ∀ (Ds : List Nat) (w : World), Ds.Nodup → (∀ D ∈ Ds, w.heap[D]? = some (.deferred (some []))) → (∀ w', (w'.os = w.os ∧ w'.tape = w.tape ∧ w'.output = w.output) → w'.heap.size = w.heap.size → (∀ q, q ∉ Ds → w'.heap[q]? = w.heap[q]?) → LeavesIn F n P fn tmps R [] .returning w') → LeavesInM F n P fn tmps R (Ds.map mkD) .returning w
  | [], w, _, _, h => h w ⟨rfl, rfl, rfl⟩ rfl (fun _ _ => rfl)
  | D :: Ds, w, hn, hd, h => by
    have h1 := List.nodup_cons.1 hn
    refine ⟨by simp, .inl ⟨D, _, rfl, run_takeDeferred (hd D (List.mem_cons_self ..)), leaves_marks Ds _ h1.2 (fun E hE => ?_) (fun w' e0 e1 e2 => h w' e0 (e1.trans (by simp)) (fun q hq => ?_))⟩⟩
    · rw [World.putObj_heap_other (fun e => h1.1 (by rw [← e]; exact hE))]
      exact hd E (List.mem_cons_of_mem _ hE)
    · rw [e2 q (fun k => hq (List.mem_cons_of_mem _ k)), World.putObj_heap_other (fun e => hq (by rw [e]; exact List.mem_cons_self ..))]
def levP (E : List En) (j : Nat) : List Nat := (List.range j).map (fun k => (lvl k E).length)
theorem levP_succ (E : List En) (j : Nat) : levP E (j + 1) = levP E j ++ [(lvl j E).length] := by simp [levP, List.range_succ]
theorem takeWhile_upto (p : Nat → Bool) : ∀ {m j : Nat}, j ≤ m → (∀ k, k < j → p k = true) → (j = m ∨ p j = false) → (List.range m).takeWhile p = List.range j
  | m, j, hj, h1, h2 => by
    obtain ⟨d, rfl⟩ : ∃ d, m = j + d := ⟨m - j, by omega⟩
    rw [List.range_add, List.takeWhile_append_of_pos (fun k hk => h1 k (List.mem_range.1 hk))]
    cases d with
    | zero => simp
    | succ d =>
      have h3 : p j = false := by rcases h2 with h2 | h2; omega; exact h2
      rw [List.range_succ_eq_map]
      simp [h3]
theorem levR_eq {E : List En} {j : Nat} (hj : j ≤ 12) (h1 : ∀ k, k < j → fsL k E ≠ 0) (h2 : j = 12 ∨ fsL j E = 0) : levR E = levP E j := by
  unfold levR levP
  rw [takeWhile_upto _ hj (fun k hk => by simpa using h1 k hk) (by rcases h2 with h2 | h2; exact Or.inl h2; exact Or.inr (by simp [h2]))]
/-- The outer loop's state. -/
structure LI (s : St) (w wr : World) (j : Nat) (v : Value) (Ds : List Nat) : Prop where
  j12 : j ≤ 12
  row : wr.ownsRow w.heap.size 3 1 v (levP s.E j).length ((levP s.E j).map fun x => .int .i64 ((x : Nat) : Int))
  bel : Below w.heap.size w wr
  marks : ∀ D ∈ Ds, wr.heap[D]? = some (.deferred (some [])) ∧ w.heap.size ≤ D
  nod : Ds.Nodup
  all : ∀ k, k < j → fsL k s.E ≠ 0
theorem LI.out {s : St} {w wr : World} {j : Nat} {v : Value} {Ds : List Nat} (h : LI s w wr j v Ds) (he : j = 12 ∨ fsL j s.E = 0) (w' : World) (e0 : w'.os = wr.os ∧ w'.tape = wr.tape ∧ w'.output = wr.output) (e1 : w'.heap.size = wr.heap.size) (e2 : ∀ q, q ∉ Ds → w'.heap[q]? = wr.heap[q]?) :
    w'.ownsRow w.heap.size 3 1 v (levR s.E).length ((levR s.E).map fun x => .int .i64 ((x : Nat) : Int)) ∧ Below w.heap.size w w' := by
  rw [levR_eq h.j12 h.all he]
  have hd : ∀ q, q < w.heap.size → q ∉ Ds := fun q hq k => by have := (h.marks q k).2; omega
  refine ⟨⟨h.row.1, ?_⟩, h.bel.trans ⟨e0.1, e0.2.1, e0.2.2, by omega, fun q hq => e2 q (hd q hq)⟩⟩
  rcases h.row.2 with q | ⟨g, cp, cur, hv, hg, hh, rr⟩
  · exact Or.inl q
  · refine Or.inr ⟨g, cp, cur, hv, hg, (e2 g (fun k => ?_)).trans hh, rr⟩
    have := (h.marks g k).1
    rw [hh] at this
    cases this
/-- The row of counts, behind a level's walk. -/
theorem LI.rowW {s : St} {w wr W2 W : World} {j : Nat} {v : Value} {Ds : List Nat} {xs : List Nat} (h : LI s w wr j v Ds) (hB : Below wr.heap.size wr W2) (hI : CtI (wr.heap.size + 4) wr.heap.size W2 xs W) :
    W.ownsRow w.heap.size 3 1 v (levP s.E j).length ((levP s.E j).map fun x => .int .i64 ((x : Nat) : Int)) ∧ v.ownBlock ≠ some wr.heap.size ∧ (∀ D ∈ Ds, W.heap[D]? = some (.deferred (some []))) ∧ Below w.heap.size w W := by
  have hk : ∀ q, q < wr.heap.size → W.heap[q]? = wr.heap[q]? := fun q hq => (hI.2.1 q (by omega) (by omega)).trans (hB.block q hq)
  have hs := h.bel.size
  refine ⟨⟨h.row.1, ?_⟩, ?_, fun D hD => ?_, h.bel.trans ⟨hI.2.2.2.1.trans hB.os, hI.2.2.2.2.1.trans hB.tape, hI.2.2.2.2.2.trans hB.output, ?_, fun q hq => hk q (by omega)⟩⟩
  · rcases h.row.2 with q | ⟨g, cp, cur, hv, hg, hh, rr⟩
    · exact Or.inl q
    · exact Or.inr ⟨g, cp, cur, hv, hg, (hk g (Array.getElem?_eq_some_iff.1 hh).1).trans hh, rr⟩
  · rcases h.row.2 with ⟨q, _⟩ | ⟨g, cp, cur, hv, hg, hh, rr⟩
    · rw [q]; simp [Value.ownBlock]
    · have := (Array.getElem?_eq_some_iff.1 hh).1
      rw [hv]; simp only [Value.ownBlock]; intro e; injection e with e; omega
  · have h1 := (h.marks D hD).1
    exact (hk D (Array.getElem?_eq_some_iff.1 h1).1).trans h1
  · have := hI.2.2.1; omega
theorem LI.next {s : St} {w wr W2 W W3 : World} {j : Nat} {v v' : Value} {Ds : List Nat} {D : Nat} {tmp : Obj} (h : LI s w wr j v Ds) (hB : Below wr.heap.size wr W2) (hI : CtI (wr.heap.size + 4) wr.heap.size W2 (lvl j s.E) W) (hD : wr.heap.size + 4 ≤ D) (hK : W.heap[D]? = some (.deferred (some []))) (hj : j < 12) (hf : fsL j s.E ≠ 0)
    (hown : W3.ownsRow w.heap.size 3 1 v' ((levP s.E j).length + 1) (((levP s.E j).map fun x => .int .i64 ((x : Nat) : Int)) ++ [.int .i64 (((lvl j s.E).length : Nat) : Int)])) (hg : (W.alloc tmp).grownBy W3 v.ownBlock) : LI s w W3 (j + 1) v' (D :: Ds) := by
  obtain ⟨r1, r2, r3, r4⟩ := h.rowW hB hI
  have hs := h.bel.size
  have hnd : ∀ q o, W.heap[q]? = some (Obj.deferred o) → W3.heap[q]? = some (Obj.deferred o) := fun q o hq => by
    have hlt := (Array.getElem?_eq_some_iff.1 hq).1
    refine (hg.block q (by simp; omega) (fun e => ?_)).trans ((Below.heap_alloc _ _ _ hlt).trans hq)
    rcases r1.2 with ⟨q1, _⟩ | ⟨g, cp, cur, hv, _, hh, _⟩
    · rw [q1] at e; simp [Value.ownBlock] at e
    · rw [hv] at e
      simp only [Value.ownBlock] at e
      injection e with e
      rw [← e, hq] at hh
      cases hh
  have e1 : levP s.E (j + 1) = levP s.E j ++ [(lvl j s.E).length] := levP_succ _ _
  refine ⟨by omega, ?_, ?_, ?_, List.nodup_cons.2 ⟨fun k => ?_, h.nod⟩, fun k hk => ?_⟩
  · rw [e1, List.length_append, List.map_append]
    exact hown
  · refine r4.trans ?_
    refine (((Below.refl w.heap.size W).alloc r4.size tmp).grown hg (by simp; have := r4.size; omega) fun q eq => ?_)
    rcases r1.2 with ⟨q1, _⟩ | ⟨g, cp, cur, hv, hb, hh, _⟩
    · rw [q1] at eq; simp [Value.ownBlock] at eq
    · rw [hv] at eq
      simp only [Value.ownBlock] at eq
      injection eq with eq
      omega
  · intro D' hD'
    rcases List.mem_cons.1 hD' with rfl | hD'
    · exact ⟨hnd _ _ hK, by omega⟩
    · exact ⟨hnd _ _ (r3 D' hD'), (h.marks D' hD').2⟩
  · have := (Array.getElem?_eq_some_iff.1 (h.marks D k).1).1; omega
  · rcases (by omega : k < j ∨ k = j) with h1 | rfl
    · exact h.all k h1
    · exact hf
theorem info3 : (Try.prog.info? 3).map (fun i => (i.zero, i.size, i.bytes)) = some (some (.int .i64 0), 1, 8) := by kernel_rfl
set_option maxRecDepth 100000 in
set_option maxHeartbeats 4000000 in
theorem levels_in (n : Nat) (hn : 6 ≤ n) (B g b cap : Nat) (s : St) (w : World) (h : MA B w g b cap s) : CallsIn Fence.wide n Try.prog 17 #[.pointer (some ⟨g, 0, none⟩)] w fun e w' => ∃ v, e = .returned v ∧ w'.ownsRow w.heap.size 3 1 v (levR s.E).length ((levR s.E).map fun x => .int .i64 ((x : Nat) : Int)) ∧ Below w.heap.size w w' := by
  have HM : Hid (MA B w g b cap s) := h
  obtain ⟨m0, m1, m2⟩ := h.hd
  have hsm := h.small
  have hn0 := h.rep.size
  have HRW : Hid _ := h.row
  have HHD : Hid (∀ k, k < 12 → s.nx 0 k = fsL k s.E) := h.rep.head
  have l0 := h.link (p := 0) (k := 0) (by omega) (by decide)
  have l1 := h.link (p := 0) (k := 1) (by omega) (by decide)
  have l2 := h.link (p := 0) (k := 2) (by omega) (by decide)
  have l3 := h.link (p := 0) (k := 3) (by omega) (by decide)
  have l4 := h.link (p := 0) (k := 4) (by omega) (by decide)
  have l5 := h.link (p := 0) (k := 5) (by omega) (by decide)
  have l6 := h.link (p := 0) (k := 6) (by omega) (by decide)
  have l7 := h.link (p := 0) (k := 7) (by omega) (by decide)
  have l8 := h.link (p := 0) (k := 8) (by omega) (by decide)
  have l9 := h.link (p := 0) (k := 9) (by omega) (by decide)
  have l10 := h.link (p := 0) (k := 10) (by omega) (by decide)
  have l11 := h.link (p := 0) (k := 11) (by omega) (by decide)
  simp only [Nat.zero_mul, Nat.zero_add, Nat.reduceAdd] at l0 l1 l2 l3 l4 l5 l6 l7 l8 l9 l10 l11
  have hsz : (0 : Int) < (s.n : Int) := by omega
  have HCL : Hid (∀ _ : Unit, _) := fun _ => closed_no g w m0
  have hix : ∀ (k : Nat) (W : World), k < 12 → (Instr.index 66 (.agg (lkL (s.nx 0)).toArray) (.int .i64 ((k : Nat) : Int))).run Try.prog W = .ok (.int .i64 ((fsL k s.E : Nat) : Int)) W := fun k W hk => by rw [run_ixk W _ hk, h.rep.head k hk]
  clear h hn0
  refine callsIn_of_wp_marks (F := Fence.wide) (n := n) Try.func17 rfl trivial ?_ rfl
  refine wpIn_wide.2 ?_
  simp only [Try.ntmps17, List.size_toArray, List.length_cons, List.length_nil, Nat.reduceAdd, Nat.reduceSub, Array.replicate_succ, Array.replicate_zero, List.push_toArray, List.append_toArray, List.nil_append, List.cons_append]
  go_wp2_with fail
  refine (HCL.out ()).mono ?_
  rintro e w1 ⟨rfl, hw1⟩
  rw [hw1]
  clear hw1 w1
  go_wp2_with fail
  obtain ⟨A15, hA15⟩ : ∃ A, (Value.agg (lkL (s.nx 0)).toArray) = A := ⟨_, rfl⟩
  rw [hA15] at hix
  unfold lkL at hA15
  try rw [hA15]
  have HIX : Hid _ := hix
  clear hA15 hix l0 l1 l2 l3 l4 l5 l6 l7 l8 l9 l10 l11 m0 m1 m2 HCL hsz
  refine wp_loop (fun a' w' => ∃ (j : Nat) (v u4 u5 u6 u17 u18 u19 u20 u21 u22 u23 u24 u25 u26 u27 u28 u29 u30 u31 u32 u33 : Value) (Ds : List Nat), a' = { tmps := #[.pointer (some ⟨g, 0, none⟩), undef, .slice none 0 0, v, u4, u5, u6, .pointer (some ⟨g, 0, none⟩), .bool false, .pointer (some ⟨g, 0, none⟩), .pointer (some ⟨g, 0, none⟩), .pointer (some ⟨g, 1, none⟩), .slice (some ⟨b, 0, none⟩) s.n cap, .pointer (some ⟨b, 0, none⟩), .pointer (some ⟨b, 4, none⟩), A15, .int .i64 ((j : Nat) : Int), u17, u18, u19, u20, u21, u22, u23, u24, u25, u26, u27, u28, u29, u30, u31, u32, u33, undef], defers := Ds.map mkD } ∧ Hid (LI s w w' j v Ds)) (fun a' _ => 12 - (intOf (a'.tmps.getD 16 undef)).toNat) ?_ ?_
  · exact ⟨0, _, _, _, _, _, _, _, _, _, _, _, _, _, _, _, _, _, _, _, _, _, [], rfl, ⟨by decide, World.ownsRow_nil _ _ _ _, Below.refl _ _, fun _ h => (by cases h), List.nodup_nil, fun _ h => (by omega)⟩⟩
  rintro _ wr ⟨j, v, u4, u5, u6, u17, u18, u19, u20, u21, u22, u23, u24, u25, u26, u27, u28, u29, u30, u31, u32, u33, Ds, rfl, HL⟩
  by_cases hj : j = 12
  · have hjz : ¬ (j : Int) < 12 := by omega
    go_wp2_with fail
    refine leaves_marks Ds _ HL.out.nod (fun D hD => (HL.out.marks D hD).1) (fun w' e0 e1 e2 => ?_)
    exact ⟨_, results_tmp rfl _ _ _, v, rfl, HL.out.out (Or.inl hj) w' e0 e1 e2⟩
  have hjz : (j : Int) < 12 := by have := HL.out.j12; omega
  have hj12 : j < 12 := by omega
  have hii := fun W => HIX.out j W hj12
  by_cases hf : fsL j s.E = 0
  · rw [hf] at hii
    go_wp2_with fail
    refine leaves_marks Ds _ HL.out.nod (fun D hD => (HL.out.marks D hD).1) (fun w' e0 e1 e2 => ?_)
    exact ⟨_, results_tmp rfl _ _ _, v, rfl, HL.out.out (Or.inr hf) w' e0 e1 e2⟩
  have hfz : ((fsL j s.E : Nat) : Int) ≠ 0 := by omega
  have hfb : (((fsL j s.E : Nat) : Int) == 0) = false := by simp [hf]
  go_wp2_with fail
  refine (level_any (some ⟨g, 0, none⟩) j (fsL j s.E) _).mono ?_
  rintro e w2 ⟨rfl, hw2⟩
  rw [hw2]
  clear hw2 w2
  go_wp2_with fail
  have HB2 : Hid (Below wr.heap.size wr ((((wr.alloc (.cells #[.int .i64 0] 3)).alloc (.cells #[.pointer (some ⟨g, 0, none⟩)] 23)).alloc (.cells #[.int .i64 ((j : Nat) : Int)] 3)).alloc (.cells #[.int .i64 ((fsL j s.E : Nat) : Int)] 3))) := ((((Below.refl _ wr).alloc (Nat.le_refl _) _).alloc (by simp) _).alloc (by simp; omega) _).alloc (by simp; omega) _
  have HI0 := ctI_start wr (.cells #[.pointer (some ⟨g, 0, none⟩)] 23) (.cells #[.int .i64 ((j : Nat) : Int)] 3) (.cells #[.int .i64 ((fsL j s.E : Nat) : Int)] 3)
  have c1 : ((((wr.alloc (.cells #[.int .i64 0] 3)).alloc (.cells #[.pointer (some ⟨g, 0, none⟩)] 23)).alloc (.cells #[.int .i64 ((j : Nat) : Int)] 3)).alloc (.cells #[.int .i64 ((fsL j s.E : Nat) : Int)] 3)).cell? ⟨wr.heap.size + 1, 0, none⟩ = some (.pointer (some ⟨g, 0, none⟩)) := by
    have h1 := Boxed.new (wr.alloc (.cells #[.int .i64 0] 3)) 23 (.pointer (some ⟨g, 0, none⟩))
    rw [World.size_alloc] at h1
    exact ((h1.alloc _).alloc _).cell
  have c2 : ((((wr.alloc (.cells #[.int .i64 0] 3)).alloc (.cells #[.pointer (some ⟨g, 0, none⟩)] 23)).alloc (.cells #[.int .i64 ((j : Nat) : Int)] 3)).alloc (.cells #[.int .i64 ((fsL j s.E : Nat) : Int)] 3)).cell? ⟨wr.heap.size + 2, 0, none⟩ = some (.int .i64 ((j : Nat) : Int)) := by
    have h1 := Boxed.new ((wr.alloc (.cells #[.int .i64 0] 3)).alloc (.cells #[.pointer (some ⟨g, 0, none⟩)] 23)) 3 (.int .i64 ((j : Nat) : Int))
    rw [World.size_alloc, World.size_alloc] at h1
    exact (h1.alloc _).cell
  have c3 : ((((wr.alloc (.cells #[.int .i64 0] 3)).alloc (.cells #[.pointer (some ⟨g, 0, none⟩)] 23)).alloc (.cells #[.int .i64 ((j : Nat) : Int)] 3)).alloc (.cells #[.int .i64 ((fsL j s.E : Nat) : Int)] 3)).cell? ⟨wr.heap.size + 3, 0, none⟩ = some (.int .i64 ((fsL j s.E : Nat) : Int)) := by
    have h1 := Boxed.new (((wr.alloc (.cells #[.int .i64 0] 3)).alloc (.cells #[.pointer (some ⟨g, 0, none⟩)] 23)).alloc (.cells #[.int .i64 ((j : Nat) : Int)] 3)) 3 (.int .i64 ((fsL j s.E : Nat) : Int))
    rw [World.size_alloc, World.size_alloc, World.size_alloc] at h1
    exact h1.cell
  have hz : ((((wr.alloc (.cells #[.int .i64 0] 3)).alloc (.cells #[.pointer (some ⟨g, 0, none⟩)] 23)).alloc (.cells #[.int .i64 ((j : Nat) : Int)] 3)).alloc (.cells #[.int .i64 ((fsL j s.E : Nat) : Int)] 3)).heap.size = wr.heap.size + 4 := by simp
  generalize ((((wr.alloc (.cells #[.int .i64 0] 3)).alloc (.cells #[.pointer (some ⟨g, 0, none⟩)] 23)).alloc (.cells #[.int .i64 ((j : Nat) : Int)] 3)).alloc (.cells #[.int .i64 ((fsL j s.E : Nat) : Int)] 3)) = W2 at *
  have HMW := HM.out.below HL.out.bel
  have hlw := HMW.lt
  have HLF : LF wr.heap.size (wr.heap.size + 4) B W2 g b cap s j := ⟨HMW.below HB2.out, by omega, by omega, by omega, by omega, by omega, c1, c2, c3⟩
  clear c1 c2 c3 hii
  have hlen : (lvl j s.E).length ≤ 1000000000 := by
    have h1 : (lvl j s.E).length ≤ s.E.length := by unfold lvl; rw [List.length_map]; exact List.length_filter_le _ _
    have := HM.out.rep.size
    omega
  refine (wpIn_wide (n := n)).1 ?_
  refine wpIn_rangeFunc_ownF rfl (by omega) (gf := 42) (lb := #[.pointer (some ⟨wr.heap.size + 1 + 1 + 1, 0, none⟩), .pointer (some ⟨wr.heap.size + 1, 0, none⟩), .pointer (some ⟨wr.heap.size + 1 + 1, 0, none⟩)]) rfl trivial (enters_of Try.func42 (by kernel_rfl) rfl)
    (lv_stops Fence.wide (n - 1) trivial rfl (by omega) wr.heap.size (wr.heap.size + 4) B g b cap s j hj12 W2 (by omega) HLF) (fun h k => h.trans k) (kc_b (by omega)) (Below.refl _ _) (fun _ => rfl)
    (CtI (wr.heap.size + 4) wr.heap.size W2) (fun _ _ _ => False) (by rw [hz]; exact ctI_own (by omega)) (fun _ _ _ _ _ h _ _ => h) HI0
    (fun x => { tmps := #[.pointer (some ⟨g, 0, none⟩), undef, .slice none 0 0, v, .int .i64 ((j : Nat) : Int), .int .i64 ((fsL j s.E : Nat) : Int), .pointer (some ⟨wr.heap.size, 0, none⟩), .pointer (some ⟨g, 0, none⟩), .bool false, .pointer (some ⟨g, 0, none⟩), .pointer (some ⟨g, 0, none⟩), .pointer (some ⟨g, 1, none⟩), .slice (some ⟨b, 0, none⟩) s.n cap, .pointer (some ⟨b, 0, none⟩), .pointer (some ⟨b, 4, none⟩), A15, .int .i64 ((j : Nat) : Int), .bool true, .int .i64 ((j : Nat) : Int), .int .i64 ((fsL j s.E : Nat) : Int), .int .i64 ((fsL j s.E : Nat) : Int), .bool false, .pointer (some ⟨g, 0, none⟩), .int .i64 ((j : Nat) : Int), .int .i64 ((fsL j s.E : Nat) : Int), .func (.func 42) #[] #[.pointer (some ⟨wr.heap.size + 1 + 1 + 1, 0, none⟩), .pointer (some ⟨wr.heap.size + 1, 0, none⟩), .pointer (some ⟨wr.heap.size + 1 + 1, 0, none⟩)], .int .i64 ((x : Nat) : Int), u27, u28, u29, u30, u31, u32, u33, undef], defers := [] }) ?assign ?body ?done ?stop
  case assign =>
    intro lp x W K hK
    gi_wp2
    exact hK
  case body =>
    rintro lp pre x W hI hlen'
    have cv := hI.1.cell
    have cf := hI.1.frozen
    have hpl : (pre.length : Int) < 1000000000 := by omega
    have HS : Hid _ := ctI_step hI x
    clear hI
    gi_wp2
    exact HS.out
  case stop =>
    rintro D c pre W _ _ h _
    exact h.elim
  case done =>
    rintro D xs W hD rfl hI hK
    rw [hz] at hD
    obtain ⟨r1, r2, r3, r4⟩ := HL.out.rowW HB2.out hI
    have cv := hI.1.cell
    have cf := hI.1.frozen
    have HNX : Hid (∀ (W3 : World) (v' : Value) (tmp : Obj), W3.ownsRow w.heap.size 3 1 v' ((levP s.E j).length + 1) (((levP s.E j).map fun x => .int .i64 ((x : Nat) : Int)) ++ [.int .i64 (((lvl j s.E).length : Nat) : Int)]) → (W.alloc tmp).grownBy W3 v.ownBlock → LI s w W3 (j + 1) v' (D :: Ds)) := fun W3 v' tmp k1 k2 => HL.out.next HB2.out hI hD hK hj12 hf k1 k2
    have HRA : Hid ((W.alloc (.cells #[.int .i64 (((lvl j s.E).length : Nat) : Int)] 3)).ownsRow w.heap.size 3 1 v (levP s.E j).length ((levP s.E j).map fun x => .int .i64 ((x : Nat) : Int))) := r1.alloc _
    have hbz := r4.size
    have hpl : (levP s.E j).length = j := by simp [levP]
    clear hlen HLF HMW hlw HI0 hD hK r1 r3 r4 hI hn
    obtain ⟨va, vc, rfl⟩ : ∃ va vc, v = .slice va (levP s.E j).length vc := by
      rcases HL.out.row.2 with ⟨q, q2⟩ | ⟨g', cp, cur, hv, _⟩
      · exact ⟨none, 0, by rw [q, q2]⟩
      · exact ⟨_, _, hv⟩
    obtain ⟨i0, hi, hz0, hz1, hz2⟩ := info_parts info3
    go_wp2_with (at_builtin; refine wpList_append_own _ rfl (.tmp 29) (.tmp 31) 28 rfl w.heap.size 3 i0 (.int .i64 0) 1 8 Try.underlying28 hi hz0 hz1 hz2 rfl (by decide) _ _ _ rfl HRA.out ⟨W.heap.size, 0, none⟩ 1 1 [.int .i64 (((lvl j s.E).length : Nat) : Int)] rfl rfl (cell_one_new _ _ _) (by simp [Value.oneCell']) (by unfold maxLen; omega) (by omega) (by simp; omega) ?_; intro v2 w2 hown2 hg2 hnn; have HF : Hid _ := HNX.out w2 v2 _ hown2 hg2; clear hown2 hg2 hnn)
    have ej : ((j + 1 : Nat) : Int) = (j : Int) + 1 := by omega
    refine ⟨⟨j + 1, v2, _, _, _, _, _, _, _, _, _, _, _, _, _, _, _, _, _, _, _, _, D :: Ds, by rw [ej]; rfl, HF.out⟩, ?_⟩
    show 12 - (((j : Int) + 1).toNat) < 12 - ((j : Int).toNat)
    omega
end Go.Proofs.Ytdgmjmohfpjlnaa
