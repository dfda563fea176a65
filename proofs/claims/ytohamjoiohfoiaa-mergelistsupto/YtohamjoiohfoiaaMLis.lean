/-
  MergeLists' walk; Goes over Cells of three lists; lists that are copied and wiped.
-/
import Derived.Test.YtohamjoiohfoiaaGoes3
import Derived.Test.YtohamjoiohfoiaaMUns
import Derived.Test.YtohamjoiohfoiaaCells
import Derived.Test.YtohamjoiohfoiaaClone
import Derived.Test.YtohamjoiohfoiaaCut2
import Derived.Test.YtohamjoiohfoiaaHtake
namespace Go.Proofs.Ytohamjoiohfoiaa
open Go.RowKit
/-- Goes over what Cells has handed back. -/
theorem goes_cells (w w' : World) (m : Nat) (ls : List Sl) (v : Value) (h : CellsOut w m ls (.returned v) w') (hm3 : m ≤ 3) (L : List Cl) (hL : mP (ls.map Sl.cs) = L) (xa : Option Addr) (n xc : Nat) (st : Int) (hca : CA w'.heap.size w' xa L) (hl : L.length = n) (hn : n < 100000000) :
    Calls Try.prog 17 #[v, .slice xa n xc, .int .i64 st] w' fun r w2 => r = .returned (.bool true) ∧ Below w'.heap.size w' w2 := by
  obtain ⟨ls', c0, a', e, hc0, hla, hlen, hcs, hb⟩ := h
  cases e
  have hP : mergeP ls' = L := by rw [mergeP_eq ls' (by omega), hcs, hL]
  unfold mergeP at hP
  cases hs : allS ls' with
  | true =>
    rw [hs, if_pos rfl] at hP
    refine goes_gen 34 _ L xa n xc st w' (enters_of Try.func34 (by kernel_rfl) rfl) (fun W hW => ?_) hca hl hn
    have := merged2_seq w'.heap.size (8 - 1) (by omega) c0 m m a' ls' W (cellUp hW hc0) (hla.below (fun b hb => hW.block b hb)) hlen (by omega) hW.size
    rw [hP] at this
    exact this
  | false =>
    rw [hs] at hP
    have hP' : L = [] := hP.symm
    subst hP'
    exact goes_gen 33 _ [] xa n xc st w' (enters_of Try.func33 (by kernel_rfl) rfl) (fun W hW => merged1_seq _ _ W) hca hl hn
theorem cells3_any (V : World) (a b c : Option Addr) (la lb lc : List Cl) (na nb nc ca cb cc : Nat) (ha : CA V.heap.size V a la) (hb : CA V.heap.size V b lb) (hc : CA V.heap.size V c lc) (hna : la.length = na) (hnb : lb.length = nb) (hnc : lc.length = nc) (hca : na ≤ ca) (hcb : nb ≤ cb) (hcc : nc ≤ cc) (h1 : na ≤ 3200000) (h2 : nb ≤ 3200000) (h3 : nc ≤ 3200000) :
    Calls Try.prog 18 #[.slice (some ⟨V.heap.size, 0, none⟩) 3 3] (V.alloc (.cells #[.slice a na ca, .slice b nb cb, .slice c nc cc] 25)) (CellsOut (V.alloc (.cells #[.slice a na ca, .slice b nb cb, .slice c nc cc] 25)) 3 [⟨a, ca, la⟩, ⟨b, cb, lb⟩, ⟨c, cc, lc⟩]) := by
  subst hna hnb hnc
  have up : ∀ {x l}, CA V.heap.size V x l → CA (V.alloc (.cells #[.slice a la.length ca, .slice b lb.length cb, .slice c lc.length cc] 25)).heap.size (V.alloc (.cells #[.slice a la.length ca, .slice b lb.length cb, .slice c lc.length cc] 25)) x l := fun {x l} h => (h.below (fun k hk => ((Below.refl _ V).alloc (Nat.le_refl _) _).block k hk)).up (by simp)
  refine cells_any 3 3 _ _ _ (la_lit (World.alloc_heap_new V _) (by simp) (fun s hs => ?_)) rfl (by omega) (fun s hs => ?_)
  · rcases List.mem_cons.1 hs with rfl | hs
    · exact ⟨up ha, hca, by show la.length < _; omega⟩
    · rcases List.mem_cons.1 hs with rfl | hs
      · exact ⟨up hb, hcb, by show lb.length < _; omega⟩
      · rw [List.mem_singleton.1 hs]; exact ⟨up hc, hcc, by show lc.length < _; omega⟩
  · rcases List.mem_cons.1 hs with rfl | hs
    · show la.length * 48 ≤ _; omega
    · rcases List.mem_cons.1 hs with rfl | hs
      · show lb.length * 48 ≤ _; omega
      · rw [List.mem_singleton.1 hs]; show lc.length * 48 ≤ _; omega
/-- Merge of nothing. -/
theorem merge0_any (V : World) : Calls Try.prog 15 #[.slice none 0 0] V fun r w' => (∃ ra rc, r = .returned (.slice ra 0 rc)) ∧ Below V.heap.size V w' := by
  have hla : LA V.heap.size V none ([] : List Sl) := fun j s h => by simp at h
  have ho : outM ([] : List Sl) = [] := rfl
  have hp : mergeP ([] : List Sl) = [] := rfl
  refine Calls.mono (merge_any 0 0 none [] V hla rfl (by omega) (by rw [ho]; simp)) ?_
  rintro r w' ⟨v, rfl, hr, b⟩
  rw [hp] at hr
  obtain ⟨ra, rc, rfl, _, _⟩ := ca_row hr
  exact ⟨⟨ra, rc, rfl⟩, b⟩
theorem wpList_copyC {ops : Array Oper} {rest : List Oper} {o : Oper} {act : Act} {Q : Exit → Act → World → Prop} {w0 : World} (hgd : o.guard = none) (s x : Operand)
    (ho : o.op = .call { callee := .builtin .append, args := #[s, x], argTypes := #[25, 25] }) (hs : act.eval s = .slice (some ⟨w0.heap.size, 0, none⟩) 0 0) (xa : Option Addr) (n xc : Nat) (l : List Cl) (hx : act.eval x = .slice xa n xc)
    (hca : CA w0.heap.size w0 xa l) (hl : l.length = n) (hn : n ≤ 1048576) (hz : xa = none → xc = 0)
    (h : ∀ va vc w', n ≤ vc → CA w'.heap.size w' va l → Below w0.heap.size w0 w' → wpList Try.prog ops Q rest (act.put o.dst (.slice va n vc)) w') : wpList Try.prog ops Q (o :: rest) act (w0.alloc (.cells #[] 24)) := by
  obtain ⟨i0, hi, hz0, hz1, hz2⟩ := info_parts info24
  have hB : Below w0.heap.size w0 (w0.alloc (.cells #[] 24)) := (Below.refl _ w0).alloc (Nat.le_refl _) _
  have hrow : (w0.alloc (.cells #[] 24)).ownsRow w0.heap.size 24 4 (.slice (some ⟨w0.heap.size, 0, none⟩) 0 0) 0 [] := ⟨rfl, Or.inr ⟨w0.heap.size, 0, #[], rfl, Nat.le_refl _, World.alloc_heap_new _ _, Nat.le_refl _, Nat.zero_le _, rfl, rfl⟩⟩
  cases xa with
  | none =>
    obtain rfl := ca_none hca
    obtain rfl : 0 = n := hl
    obtain rfl : xc = 0 := hz rfl
    exact wpList_append_own_none hgd s x 25 ho w0.heap.size 24 i0 4 Try.underlying25 hi _ _ _ hs hrow hx (h _ _ _ (Nat.le_refl _) (CA.nil _ _ _) hB)
  | some ad =>
    refine wpList_append_own _ hgd s x 25 ho w0.heap.size 24 i0 (.agg #[.string ByteArray.empty, .int .u64 0, .string ByteArray.empty, .bool false]) 4 48 Try.underlying25 hi hz0 hz1 hz2 rfl (by decide) _ _ _ hs hrow ad n xc (flC l) hx (by rw [flC_len, hl]) (ca_flat' ((hca.below (fun b hb => hB.block b hb)).up hB.size)) (flC_one l) (by unfold maxLen; omega) (by omega) hB.size ?_
    intro v' w' hown hg _
    have hr : w'.ownsRow w0.heap.size 24 4 v' l.length (flC l) := by rw [hl]; simpa using hown
    obtain ⟨va, vc, rfl, hc, hca'⟩ := ca_row hr
    rw [hl] at hc ⊢
    exact h va vc w' hc hca' (hB.grown hg hB.size (fun k e => (hrow.lt k e).1))
/-- A block of cells that is there. -/
def Blk (W : World) (g S : Nat) : Prop := ∃ cur, W.heap[g]? = some (.cells cur 24 (0, 0)) ∧ cur.size = S
theorem Blk.cell {W : World} {g S j : Nat} (h : Blk W g S) (hj : j < S) : ∃ v, W.cell? ⟨g, j, none⟩ = some v := by
  obtain ⟨cur, h1, h2⟩ := h
  exact ⟨cur[j]'(by omega), by rw [cells_of_block h1 j]; exact Array.getElem?_eq_getElem (by omega)⟩
theorem Blk.frozen {W : World} {g S j : Nat} (h : Blk W g S) : W.frozen? ⟨g, j, none⟩ = false := by
  obtain ⟨cur, h1, _⟩ := h
  simp [World.frozen?, h1]
theorem Blk.set {W : World} {g S : Nat} (h : Blk W g S) (o : Nat) (v : Value) : Blk (W.setCell ⟨g, o, none⟩ v) g S := by
  obtain ⟨cur, h1, h2⟩ := h
  exact ⟨_, block_set h1 o v, by simpa using h2⟩
theorem Blk.below {W V : World} {g S : Nat} (h : Blk W g S) (k : Below W.heap.size W V) : Blk V g S := by
  obtain ⟨cur, h1, h2⟩ := h
  exact ⟨cur, (k.block g (Array.getElem?_eq_some_iff.1 h1).1).trans h1, h2⟩
theorem merge3_own (V : World) (a b c : Option Addr) (la lb lc : List Cl) (na nb nc ca cb cc : Nat) (ha : CA V.heap.size V a la) (hb : CA V.heap.size V b lb) (hc : CA V.heap.size V c lc) (hna : la.length = na) (hnb : lb.length = nb) (hnc : lc.length = nc) (hca : na ≤ ca) (hcb : nb ≤ cb) (hcc : nc ≤ cc) (h1 : na ≤ 3200000) (h2 : nb ≤ 3200000) (h3 : nc ≤ 3200000) :
    Calls Try.prog 15 #[.slice (some ⟨V.heap.size, 0, none⟩) 3 3] (V.alloc (.cells #[.slice a na ca, .slice b nb cb, .slice c nc cc] 25)) fun r w' => ∃ v, r = .returned v ∧ w'.ownsRow V.heap.size 24 4 v (mP [la, lb, lc]).length (flC (mP [la, lb, lc])) ∧ Below V.heap.size V w' := by
  subst hna hnb hnc
  have hb' : Below V.heap.size V (V.alloc (.cells #[.slice a la.length ca, .slice b lb.length cb, .slice c lc.length cc] 25)) := (Below.refl _ V).alloc (Nat.le_refl _) _
  have up : ∀ {x l}, CA V.heap.size V x l → CA (V.alloc (.cells #[.slice a la.length ca, .slice b lb.length cb, .slice c lc.length cc] 25)).heap.size (V.alloc (.cells #[.slice a la.length ca, .slice b lb.length cb, .slice c lc.length cc] 25)) x l := fun {x l} h => (h.below (fun k hk => hb'.block k hk)).up hb'.size
  have hla : LA (V.alloc (.cells #[.slice a la.length ca, .slice b lb.length cb, .slice c lc.length cc] 25)).heap.size (V.alloc (.cells #[.slice a la.length ca, .slice b lb.length cb, .slice c lc.length cc] 25)) (some ⟨V.heap.size, 0, none⟩) [⟨a, ca, la⟩, ⟨b, cb, lb⟩, ⟨c, cc, lc⟩] := la_lit (World.alloc_heap_new V _) (by simp) (fun s hs => by
    rcases List.mem_cons.1 hs with rfl | hs
    · exact ⟨up ha, hca, by show la.length < _; omega⟩
    · rcases List.mem_cons.1 hs with rfl | hs
      · exact ⟨up hb, hcb, by show lb.length < _; omega⟩
      · rw [List.mem_singleton.1 hs]; exact ⟨up hc, hcc, by show lc.length < _; omega⟩)
  have ho := outM_len [⟨a, ca, la⟩, ⟨b, cb, lb⟩, ⟨c, cc, lc⟩] (by simp)
  have hol : (outM [⟨a, ca, la⟩, ⟨b, cb, lb⟩, ⟨c, cc, lc⟩]).length ≤ 9600000 := by simp at ho; omega
  refine Calls.mono (merge_any 3 3 _ _ _ hla rfl (by omega) (by omega)) ?_
  rintro r w' ⟨v, rfl, hr, b⟩
  rw [mergeP_eq _ (by simp)] at hr
  exact ⟨v, rfl, row_base hb'.size hr, hb'.trans (b.mono hb'.size)⟩
/-- While a list is wiped: what is older is as it was. -/
structure Wiped (w w6 : World) (ga : Option Addr) (nT : Nat) (W : World) : Prop where
  bel6 : Below w6.heap.size w6 W
  blk : 0 < nT → ∃ g S, ga = some ⟨g, 0, none⟩ ∧ w6.heap.size ≤ g ∧ nT * 4 ≤ S ∧ Blk W g S
  bel : Below w.heap.size w W
theorem Wiped.set {w w6 W : World} {g S nT : Nat} (h : Wiped w w6 (some ⟨g, 0, none⟩) nT W) (hw : w.heap.size ≤ w6.heap.size) (e2 : w6.heap.size ≤ g) (e3 : nT * 4 ≤ S) (e4 : Blk W g S) (o : Nat) (v : Value) : Wiped w w6 (some ⟨g, 0, none⟩) nT (W.setCell ⟨g, o, none⟩ v) :=
  ⟨h.bel6.setCell (p := ⟨g, o, none⟩) e2 v, fun _ => ⟨g, S, rfl, e2, e3, e4.set o v⟩, h.bel.setCell (p := ⟨g, o, none⟩) (Nat.le_trans hw e2) v⟩
set_option maxRecDepth 100000 in
set_option maxHeartbeats 8000000 in
theorem mlists_any (a b c : Option Addr) (na nb nc ca cb cc : Nat) (st : Int) (la lb lc : List Cl) (w : World) (ha : CA w.heap.size w a la) (hb : CA w.heap.size w b lb) (hc : CA w.heap.size w c lc) (hna : la.length = na) (hnb : lb.length = nb) (hnc : lc.length = nc) (hca : na ≤ ca) (hcb : nb ≤ cb) (hcc : nc ≤ cc) (h1 : na ≤ 1048576) (h2 : nb ≤ 1048576) (h3 : nc ≤ 1048576) (za : a = none → ca = 0) (zb : b = none → cb = 0) (zc : c = none → cc = 0) :
    Calls Try.prog 4 #[.agg #[.slice a na ca, .slice b nb cb, .slice c nc cc], .int .i64 st] w fun r w' => r = .returned (.bool true) ∧ Below w.heap.size w w' := by
  obtain ⟨T, hT⟩ : ∃ T, mP [la, lb, lc] = T := ⟨_, rfl⟩
  obtain ⟨nT, hnT⟩ : ∃ n, T.length = n := ⟨_, rfl⟩
  have bT : nT ≤ 3145728 := by have := mP_len [la, lb, lc]; rw [hT, hnT] at this; simp at this; omega
  have HU : Hid (∀ (L : List Cl) (A B : World) x, CA A.heap.size A x L → Below A.heap.size A B → CA B.heap.size B x L) := fun L A B x h k => (h.below (fun b hb => k.block b hb)).up k.size
  have HTR : Hid (∀ V W : World, Below w.heap.size w V → Below V.heap.size V W → Below w.heap.size w W) := fun V W k k' => k.trans (k'.mono k.size)
  have HA : Hid (∀ V, Below w.heap.size w V → CA V.heap.size V a la) := fun V k => HU.out la w V a ha k
  have HB : Hid (∀ V, Below w.heap.size w V → CA V.heap.size V b lb) := fun V k => HU.out lb w V b hb k
  have HC : Hid (∀ V, Below w.heap.size w V → CA V.heap.size V c lc) := fun V k => HU.out lc w V c hc k
  have HNA : Hid (la.length = na) := hna
  have HNB : Hid (lb.length = nb) := hnb
  have HNC : Hid (lc.length = nc) := hnc
  have C9 : Hid (∀ V : World, Calls Try.prog 9 #[] V fun r w' => r = .returned (.bool true) ∧ Below V.heap.size V w') := awake_any
  have C14 : Hid (∀ V, Below w.heap.size w V → Calls Try.prog 14 #[.slice (some ⟨V.heap.size, 0, none⟩) 3 3] (V.alloc (.cells #[.slice a na ca, .slice b nb cb, .slice c nc cc] 25)) fun r w' => ∃ ra rc, r = .returned (.slice ra nT rc) ∧ CA w'.heap.size w' ra T ∧ Below V.heap.size V w') := fun V k => by have := rmerge3_told V a b c la lb lc na nb nc ca cb cc (HA.out V k) (HB.out V k) (HC.out V k) hna hnb hnc hca hcb hcc (by omega) (by omega) (by omega); rw [hT, hnT] at this; exact this
  have C15 : Hid (∀ V x y z cx cy cz, CA V.heap.size V x la → CA V.heap.size V y lb → CA V.heap.size V z lc → na ≤ cx → nb ≤ cy → nc ≤ cz → Calls Try.prog 15 #[.slice (some ⟨V.heap.size, 0, none⟩) 3 3] (V.alloc (.cells #[.slice x na cx, .slice y nb cy, .slice z nc cz] 25)) fun r w' => ∃ v, r = .returned v ∧ w'.ownsRow V.heap.size 24 4 v nT (flC T) ∧ Below V.heap.size V w') := fun V x y z cx cy cz hx hy hz k1 k2 k3 => by have := merge3_own V x y z la lb lc na nb nc cx cy cz hx hy hz hna hnb hnc k1 k2 k3 (by omega) (by omega) (by omega); rw [hT, hnT] at this; exact this
  have C18 : Hid (∀ V x y z cx cy cz, CA V.heap.size V x la → CA V.heap.size V y lb → CA V.heap.size V z lc → na ≤ cx → nb ≤ cy → nc ≤ cz → Calls Try.prog 18 #[.slice (some ⟨V.heap.size, 0, none⟩) 3 3] (V.alloc (.cells #[.slice x na cx, .slice y nb cy, .slice z nc cz] 25)) fun r w' => ∃ v, r = .returned v ∧ Below V.heap.size V w' ∧ ∀ ta tc, CA w'.heap.size w' ta T → Calls Try.prog 17 #[v, .slice ta nT tc, .int .i64 st] w' fun r w2 => r = .returned (.bool true) ∧ Below w'.heap.size w' w2) := fun V x y z cx cy cz hx hy hz k1 k2 k3 => by
    refine Calls.mono (cells3_any V x y z la lb lc na nb nc cx cy cz hx hy hz hna hnb hnc k1 k2 k3 (by omega) (by omega) (by omega)) ?_
    intro r w' h
    have h' := h
    obtain ⟨ls', c0, a', rfl, _, _, _, _, hbl⟩ := h
    exact ⟨_, rfl, ((Below.refl _ V).alloc (Nat.le_refl _) _).trans (hbl.mono (by simp)), fun ta tc hta => goes_cells _ w' 3 _ _ h' (by omega) T (by rw [← hT]; rfl) ta nT tc st hta hnT (by omega)⟩
  have CS : Hid (∀ V x cx y cy (L : List Cl) n, CA V.heap.size V x L → CA V.heap.size V y L → L.length = n → n ≤ 3145728 → Calls Try.prog 16 #[.slice x n cx, .slice y n cy] V fun r w' => r = .returned (.bool true) ∧ Below V.heap.size V w') := fun V x cx y cy L n hx hy hn hb => same_ca V x y cx cy n L hx hy hn (by omega)
  have C0 : Hid (∀ V : World, Calls Try.prog 15 #[.slice none 0 0] V fun r w' => (∃ ra rc, r = .returned (.slice ra 0 rc)) ∧ Below V.heap.size V w') := merge0_any
  have HNT : Hid (T.length = nT) := hnT
  have hbx0 : Below w.heap.size w (w.alloc (.cells #[.slice a na ca, .slice b nb cb, .slice c nc cc] 30)) := (Below.refl _ w).alloc (Nat.le_refl _) _
  have HB0 : Hid _ := hbx0
  have HRC : Hid (∀ (W V : World) v, W.ownsRow V.heap.size 24 4 v nT (flC T) → ∃ ga gc, v = .slice ga nT gc ∧ CA W.heap.size W ga T ∧ (0 < nT → ∃ g S, ga = some ⟨g, 0, none⟩ ∧ V.heap.size ≤ g ∧ nT * 4 ≤ S ∧ Blk W g S)) := fun W V v hr => by
    have hr' : W.ownsRow V.heap.size 24 4 v T.length (flC T) := by rw [hnT]; exact hr
    obtain ⟨ga, gc, rfl, _, hca⟩ := ca_row hr'
    rw [hnT] at *
    refine ⟨ga, gc, rfl, hca, fun hp => ?_⟩
    rcases hr.2 with ⟨hv, h0⟩ | ⟨g, cap, cur, hv, hB, hh, hnc, _, hsz, _⟩
    · omega
    · simp only [Value.slice.injEq] at hv
      obtain ⟨rfl, _, _⟩ := hv
      exact ⟨g, cap * 4, rfl, hB, Nat.mul_le_mul_right _ hnc, cur, hh, hsz⟩
  have HZA : Hid (a = none → ca = 0) := za
  have HZB : Hid (b = none → cb = 0) := zb
  have HZC : Hid (c = none → cc = 0) := zc
  clear ha hb hc hT hnT hna hnb hnc hca hcb hcc hbx0 za zb zc
  go_enter Try.func4, Try.ntmps4
  go_wp2_with fail
  go_quiet (fail)
  have B1 : Hid (Below w.heap.size w ((w.alloc (.cells #[.slice a na ca, .slice b nb cb, .slice c nc cc] 30)).drewN nq)) := HB0.out.trans ((belD _ nq).mono HB0.out.size)
  generalize (w.alloc (.cells #[.slice a na ca, .slice b nb cb, .slice c nc cc] 30)).drewN nq = w1 at B1 ⊢
  go_wp2_with (first
    | (at_builtin; refine wpList_copyC (w0 := w4) rfl _ _ rfl rfl c nc cc lc rfl (HC.out w4 B4.out) HNC.out h3 HZC.out ?_; intro za vz w5 hvz hzc b; have Z5 : Hid (CA w5.heap.size w5 za lc) := hzc; have GZ : Hid (nc ≤ vz) := hvz; have Y5 : Hid (CA w5.heap.size w5 ya lb) := HU.out lb w4 w5 ya Y4.out b; have X5 : Hid (CA w5.heap.size w5 xa la) := HU.out la w4 w5 xa X4.out b; have B5 : Hid (Below w.heap.size w w5) := HTR.out w4 w5 B4.out b; clear b hzc hvz)
    | (at_builtin; refine wpList_copyC (w0 := w3) rfl _ _ rfl rfl b nb cb lb rfl (HB.out w3 B3.out) HNB.out h2 HZB.out ?_; intro ya vy w4 hvy hyc b; have Y4 : Hid (CA w4.heap.size w4 ya lb) := hyc; have GY : Hid (nb ≤ vy) := hvy; have X4 : Hid (CA w4.heap.size w4 xa la) := HU.out la w3 w4 xa X3.out b; have B4 : Hid (Below w.heap.size w w4) := HTR.out w3 w4 B3.out b; clear b hyc hvy)
    | (at_builtin; refine wpList_copyC (w0 := w2) rfl _ _ rfl rfl a na ca la rfl (HA.out w2 B2.out) HNA.out h1 HZA.out ?_; intro xa vx w3 hvx hxc b; have X3 : Hid (CA w3.heap.size w3 xa la) := hxc; have GX : Hid (na ≤ vx) := hvx; have B3 : Hid (Below w.heap.size w w3) := HTR.out w2 w3 B2.out b; clear b hxc hvx)
    | (go_at_call 16; refine Calls.mono (CS.out w12 za vz c cc lc nc Z12.out (HC.out w12 B12.out) HNC.out (by omega)) ?_; rintro e w13 ⟨rfl, b⟩; have B13 : Hid (Below w.heap.size w w13) := HTR.out w12 w13 B12.out b; have K13 : Hid (Below w7.heap.size w7 w13) := K12.out.trans (b.mono K12.out.size); clear b)
    | (go_at_call 16; refine Calls.mono (CS.out w11 ya vy b cb lb nb Y11.out (HB.out w11 B11.out) HNB.out (by omega)) ?_; rintro e w12 ⟨rfl, b⟩; have B12 : Hid (Below w.heap.size w w12) := HTR.out w11 w12 B11.out b; have Z12 : Hid (CA w12.heap.size w12 za lc) := HU.out lc w11 w12 za Z11.out b; have K12 : Hid (Below w7.heap.size w7 w12) := K11.out.trans (b.mono K11.out.size); clear b)
    | (go_at_call 16; refine Calls.mono (CS.out w10 xa vx a ca la na X10.out (HA.out w10 B10.out) HNA.out (by omega)) ?_; rintro e w11 ⟨rfl, b⟩; have B11 : Hid (Below w.heap.size w w11) := HTR.out w10 w11 B10.out b; have Y11 : Hid (CA w11.heap.size w11 ya lb) := HU.out lb w10 w11 ya Y10.out b; have Z11 : Hid (CA w11.heap.size w11 za lc) := HU.out lc w10 w11 za Z10.out b; have K11 : Hid (Below w7.heap.size w7 w11) := K10.out.trans (b.mono K10.out.size); clear b)
    | (go_at_call 17; refine Calls.mono (GO9.out ta tc T9.out) ?_; rintro e w10 ⟨rfl, b⟩; have B10 : Hid (Below w.heap.size w w10) := HTR.out w9 w10 B9.out b; have X10 : Hid (CA w10.heap.size w10 xa la) := HU.out la w9 w10 xa X9.out b; have Y10 : Hid (CA w10.heap.size w10 ya lb) := HU.out lb w9 w10 ya Y9.out b; have Z10 : Hid (CA w10.heap.size w10 za lc) := HU.out lc w9 w10 za Z9.out b; have K10 : Hid (Below w7.heap.size w7 w10) := K9.out.trans (b.mono K9.out.size); clear b)
    | (go_at_call 18; refine Calls.mono (C18.out w8 xa ya za vx vy vz X8.out Y8.out Z8.out GX.out GY.out GZ.out) ?_; rintro e w9 ⟨it, rfl, b, hgo⟩; have GO9 : Hid _ := hgo; have B9 : Hid (Below w.heap.size w w9) := HTR.out w8 w9 B8.out b; have X9 : Hid (CA w9.heap.size w9 xa la) := HU.out la w8 w9 xa X8.out b; have Y9 : Hid (CA w9.heap.size w9 ya lb) := HU.out lb w8 w9 ya Y8.out b; have Z9 : Hid (CA w9.heap.size w9 za lc) := HU.out lc w8 w9 za Z8.out b; have T9 : Hid (CA w9.heap.size w9 ta T) := HU.out T w8 w9 ta T8.out b; have K9 : Hid (Below w7.heap.size w7 w9) := K8.out.trans (b.mono K8.out.size); clear b hgo)
    | (go_at_call 16; refine Calls.mono (CS.out w7 ga gc ta tc T nT G7.out T7.out HNT.out bT) ?_; rintro e w8 ⟨rfl, b⟩; have B8 : Hid (Below w.heap.size w w8) := HTR.out w7 w8 B7.out b; have K8 : Hid (Below w7.heap.size w7 w8) := b; have X8 : Hid (CA w8.heap.size w8 xa la) := HU.out la w7 w8 xa X7.out b; have Y8 : Hid (CA w8.heap.size w8 ya lb) := HU.out lb w7 w8 ya Y7.out b; have Z8 : Hid (CA w8.heap.size w8 za lc) := HU.out lc w7 w8 za Z7.out b; have T8 : Hid (CA w8.heap.size w8 ta T) := HU.out T w7 w8 ta T7.out b; clear b)
    | (go_at_call 15; refine Calls.mono (C15.out w6 xa ya za vx vy vz X6.out Y6.out Z6.out GX.out GY.out GZ.out) ?_; rintro e w7 ⟨gv, rfl, hr, b⟩; obtain ⟨ga, gc, hgv, hg7, hgb⟩ := HRC.out w7 w6 gv hr; subst hgv; have G7 : Hid (CA w7.heap.size w7 ga T) := hg7; have W7 : Hid (0 < nT → ∃ g S, ga = some ⟨g, 0, none⟩ ∧ w6.heap.size ≤ g ∧ nT * 4 ≤ S ∧ Blk w7 g S) := hgb; have B7 : Hid (Below w.heap.size w w7) := HTR.out w6 w7 B6.out b; have J7 : Hid (Below w6.heap.size w6 w7) := b; have X7 : Hid (CA w7.heap.size w7 xa la) := HU.out la w6 w7 xa X6.out b; have Y7 : Hid (CA w7.heap.size w7 ya lb) := HU.out lb w6 w7 ya Y6.out b; have Z7 : Hid (CA w7.heap.size w7 za lc) := HU.out lc w6 w7 za Z6.out b; have T7 : Hid (CA w7.heap.size w7 ta T) := HU.out T w6 w7 ta T6.out b; clear b hr hg7 hgb)
    | (go_at_call 14; refine Calls.mono (C14.out w5 B5.out) ?_; rintro e w6 ⟨ta, tc, rfl, ht, b⟩; have T6 : Hid (CA w6.heap.size w6 ta T) := ht; have B6 : Hid (Below w.heap.size w w6) := HTR.out w5 w6 B5.out b; have X6 : Hid (CA w6.heap.size w6 xa la) := HU.out la w5 w6 xa X5.out b; have Y6 : Hid (CA w6.heap.size w6 ya lb) := HU.out lb w5 w6 ya Y5.out b; have Z6 : Hid (CA w6.heap.size w6 za lc) := HU.out lc w5 w6 za Z5.out b; clear b ht)
    | (go_at_call 9; refine Calls.mono (C9.out w1) ?_; rintro e w2 ⟨rfl, b⟩; have B2 : Hid (Below w.heap.size w w2) := HTR.out w1 w2 B1.out b; clear b))
  have HX6 : Hid (∀ V, Below w6.heap.size w6 V → CA V.heap.size V xa la ∧ CA V.heap.size V ya lb ∧ CA V.heap.size V za lc ∧ CA V.heap.size V ta T) := fun V k => ⟨HU.out la w6 V xa X6.out k, HU.out lb w6 V ya Y6.out k, HU.out lc w6 V za Z6.out k, HU.out T w6 V ta T6.out k⟩
  have HW0 : Hid (Wiped w w6 ga nT w13) := ⟨J7.out.trans (K13.out.mono J7.out.size), fun hp => by
    obtain ⟨g, S, e1, e2, e3, e4⟩ := W7.out hp
    exact ⟨g, S, e1, e2, e3, e4.below K13.out⟩, B13.out⟩
  have HW6 : Hid (w.heap.size ≤ w6.heap.size) := B6.out.size
  clear X3 X4 X5 X6 X7 X8 X9 X10 Y4 Y5 Y6 Y7 Y8 Y9 Y10 Y11 Z5 Z6 Z7 Z8 Z9 Z10 Z11 Z12 T6 T7 T8 T9 K8 K9 K10 K11 K12 K13 B1 B2 B3 B4 B5 B6 B7 B8 B9 B10 B11 B12 B13 G7 W7 J7 GO9
  go_loopw [76] (fun iv wr => ∃ i : Nat, i ≤ nT ∧ iv = .int .i64 (i : Nat) ∧ Hid (Wiped w w6 ga nT wr)) (fun iv _ => nT - (intOf iv).toNat)
  case atStart => exact ⟨0, by omega, rfl, HW0.out⟩
  case round =>
    clear HW0
    obtain ⟨i, hin, rfl, HWI⟩ := hrel
    by_cases hlt : i < nT
    · obtain ⟨g, S, rfl, e2, e3, e4⟩ := HWI.out.blk (by omega)
      obtain ⟨v0, c0⟩ := e4.cell (j := i * 4) (by omega)
      obtain ⟨v1, c1⟩ := e4.cell (j := i * 4 + 1) (by omega)
      obtain ⟨v2, c2⟩ := e4.cell (j := i * 4 + 2) (by omega)
      obtain ⟨v3, c3⟩ := e4.cell (j := i * 4 + 3) (by omega)
      have f0 := e4.frozen (j := i * 4)
      have f1 := e4.frozen (j := i * 4 + 1)
      have f2 := e4.frozen (j := i * 4 + 2)
      have f3 := e4.frozen (j := i * 4 + 3)
      have HNX : Hid (∀ u0 u1 u2 u3, Wiped w w6 (some ⟨g, 0, none⟩) nT ((((wr.setCell ⟨g, i * 4, none⟩ u0).setCell ⟨g, i * 4 + 1, none⟩ u1).setCell ⟨g, i * 4 + 2, none⟩ u2).setCell ⟨g, i * 4 + 3, none⟩ u3)) := fun u0 u1 u2 u3 => (((HWI.out.set HW6.out e2 e3 e4 _ u0).set HW6.out e2 e3 (e4.set _ _) _ u1).set HW6.out e2 e3 ((e4.set _ _).set _ _) _ u2).set HW6.out e2 e3 (((e4.set _ _).set _ _).set _ _) _ u3
      clear e2 e3 e4
      go_wp2_with fail
      go_roundw
      case rel => exact ⟨i + 1, by omega, by go_num, HNX.out _ _ _ _⟩
      case measure => simp [intOf]; omega
    · obtain ⟨x14, y14, z14, t14⟩ := HX6.out wr HWI.out.bel6
      have B14 : Hid (Below w.heap.size w wr) := HWI.out.bel
      have CM : Hid _ := C15.out wr xa ya za vx vy vz x14 y14 z14 GX.out GY.out GZ.out
      have T14 : Hid (CA wr.heap.size wr ta T) := t14
      clear x14 y14 z14 t14 HWI HX6
      go_wp2_with (first
        | (go_at_call 15; refine Calls.mono (C0.out w16) ?_; rintro e w17 ⟨⟨oa, oc, rfl⟩, b⟩; have B17 : Hid (Below w.heap.size w w17) := HTR.out w16 w17 B16.out b; clear b)
        | (go_at_call 16; refine Calls.mono (CS.out w15 ra rc ta tc T nT R15.out T15.out HNT.out bT) ?_; rintro e w16 ⟨rfl, b⟩; have B16 : Hid (Below w.heap.size w w16) := HTR.out w15 w16 B15.out b; clear b)
        | (go_at_call 15; refine Calls.mono CM.out ?_; rintro e w15 ⟨rv, rfl, hr, b⟩; obtain ⟨ra, rc, hrv, hr7, _⟩ := HRC.out w15 wr rv hr; subst hrv; have R15 : Hid (CA w15.heap.size w15 ra T) := hr7; have T15 : Hid (CA w15.heap.size w15 ta T) := HU.out T wr w15 ta T14.out b; have B15 : Hid (Below w.heap.size w w15) := HTR.out wr w15 B14.out b; clear b hr hr7))
      go_ret
      exact ⟨rfl, B17.out⟩
end Go.Proofs.Ytohamjoiohfoiaa
