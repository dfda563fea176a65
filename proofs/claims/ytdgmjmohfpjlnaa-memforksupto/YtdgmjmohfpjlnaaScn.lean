/-
  Scan's closure as an iterator.
-/
import Derived.Test.YtdgmjmohfpjlnaaLvg
import Derived.Test.YtdgmjmohfpjlnaaLev
import Derived.Deep.RegionHeld
namespace Go.Proofs.Ytdgmjmohfpjlnaa
open Go.RowKit Go.Shelf
attribute [local go_sem] Oper.semAt_some
theorem roundIn_any {m m' lp : Nat} {P : Program} {l : Nat} {f : FuncId} {tmps : Array Value} {assign body : Code} {w : World} {R : Ending → World → Prop} (h : RoundIn Fence.wide m P l f tmps assign body w R) : RoundIn (Fence.wide.inRound lp) m' P l f tmps assign body w R :=
  ⟨h.1, fun c cs _ => h.2 c cs (room_wide _)⟩
theorem sgeq (t : TypeId) (a b : ByteArray) (W : World) : (binOp BinOp.geq t (.string a) (.string b)).run Try.prog W = .ok (.bool (!(Op.bytesLess a.toList b.toList))) W := by
  simp [binOp, Op.stringOp, Sem.run_pure]
theorem wp_then_false {P : Program} {c : Code} {K : Act → World → Prop} {Q' : Exit → Act → World → Prop} {a : Act} {w : World} (h : c.wp P (Exit.then K (fun _ _ _ => False)) a w) : c.wp P (Exit.then K Q') a w :=
  Code.wp_mono (fun e a w q => by cases e <;> first | exact q | exact q.elim) h
theorem lev_new {B : Nat} (W : World) (o1 o2 o3 : Obj) (h : B ≤ W.heap.size) : Below B W (((W.alloc o1).alloc o2).alloc o3) := (((Below.refl B W).alloc h o1).alloc (by simp; omega) o2).alloc (by simp; omega) o3
theorem mark_grown {w w' : World} (D : Nat) (e0 : w'.os = w.os ∧ w'.tape = w.tape ∧ w'.output = w.output) (e1 : w'.heap.size = w.heap.size) (e2 : ∀ q, q ∉ [D] → w'.heap[q]? = w.heap[q]?) : w.grownBy w' (some D) :=
  ⟨e0.1, e0.2.1, e0.2.2, by omega, fun q _ hne => e2 q (fun k => hne (by rw [List.mem_singleton.1 k]))⟩
/-- May a cell come, below where a scan ends? -/
def upK (tw : ByteArray) (c : Cl) : Bool := tw.toList.isEmpty || Op.bytesLess c.key.toList tw.toList
/-- The cells of a scan. -/
def scanL (fr tw : ByteArray) (E : List En) : List Cl := ((beE fr 72057594037927935 E).map En.c).takeWhile (upK tw)
theorem tw_whole {p : Cl → Bool} {L : List Cl} (h : ∀ c ∈ L, p c = true) : L.takeWhile p = L := by
  induction L with
  | nil => rfl
  | cons a L ih => rw [List.takeWhile_cons_of_pos (h a (List.mem_cons_self ..)), ih (fun c hc => h c (List.mem_cons_of_mem _ hc))]
theorem tw_stops {p : Cl → Bool} {A R : List Cl} {c : Cl} (h : ∀ c ∈ A, p c = true) (hc : p c = false) : (A ++ c :: R).takeWhile p = A := by
  rw [List.takeWhile_append_of_pos h, List.takeWhile_cons_of_neg (by rw [hc]; decide), List.append_nil]
theorem tw_pre {p : Cl → Bool} {A R : List Cl} (h : ∀ c ∈ A, p c = true) : A <+: (A ++ R).takeWhile p := by
  rw [List.takeWhile_append_of_pos h]
  exact ⟨_, rfl⟩
/-- The blocks of a table and of a scan. -/
def obS (g b x : Nat) (q : Nat) : Prop := q = g ∨ q = b ∨ q = x ∨ q = x + 1 ∨ q = x + 2
/-- A scan's rounds. -/
def ScI (s : St) (ob : Nat → Prop) (z : Nat) (tw : ByteArray) (U : World) (J : Nat → List Cl → World → Prop) (ys : List {e : En // e ∈ s.E}) (W : World) : Prop :=
  J U.heap.size (ys.map (fun e => e.1.c)) W ∧ KpM ob z U.heap.size U W ∧ ∀ e ∈ ys, upK tw e.1.c = true
def ScX (s : St) (tw : ByteArray) (U : World) (J Jx : Nat → List Cl → World → Prop) (c : Code) (ys : List {e : En // e ∈ s.E}) (W : World) : Prop :=
  c = .ret ∧ ((∃ (ys' : List {e : En // e ∈ s.E}) (e : {e : En // e ∈ s.E}), ys = ys' ++ [e] ∧ (∀ e ∈ ys', upK tw e.1.c = true) ∧ upK tw e.1.c = false ∧ J U.heap.size (ys'.map (fun e => e.1.c)) W) ∨
    (Jx U.heap.size (ys.map (fun e => e.1.c)) W ∧ ∀ e ∈ ys, upK tw e.1.c = true))
theorem own_up {β : Type} {B B' : Nat} {I : β → World → Prop} (h : OwnFrom B I) (hB : B ≤ B') : OwnFrom B' I := fun s W W' row h1 h2 h3 => h s W W' row h1 h2 (fun r e => ⟨Nat.le_trans hB (h3 r e).1, (h3 r e).2⟩)
theorem scI_own {s : St} {ob : Nat → Prop} {z : Nat} {tw : ByteArray} {U : World} {J : Nat → List Cl → World → Prop} (hJ : ∀ M, OwnFrom z (J M)) (hz : z ≤ U.heap.size) (hob : ∀ q, ob q → q < U.heap.size) : OwnFrom U.heap.size (fun ys W => ScI s ob z tw U J ys W ∧ U.heap.size ≤ W.heap.size) := by
  rintro ys A A' row ⟨⟨h1, h2, h3⟩, h4⟩ hg hr
  refine ⟨⟨own_up (hJ _) hz _ _ _ row h1 hg hr, fun q hq => ?_, h3⟩, Nat.le_trans h4 hg.size⟩
  have hq2 : q < U.heap.size := by rcases hq with hq | hq; exact hob q hq; exact hq.2
  exact (hg.block q (by omega) (fun e => by have := (hr q e.symm).1; omega)).trans (h2 q hq)
theorem scX_own {s : St} {z : Nat} {tw : ByteArray} {U : World} {J Jx : Nat → List Cl → World → Prop} (hJ : ∀ M, OwnFrom z (J M)) (hJx : ∀ M, OwnFrom z (Jx M)) (hz : z ≤ U.heap.size) (c : Code) : OwnFrom U.heap.size (ScX s tw U J Jx c) := by
  rintro ys A A' row ⟨h1, h2⟩ hg hr
  refine ⟨h1, ?_⟩
  rcases h2 with ⟨ys', e, q1, q2, q3, q4⟩ | ⟨q1, q2⟩
  · exact .inl ⟨ys', e, q1, q2, q3, own_up (hJ _) hz _ _ _ row q4 hg hr⟩
  · exact .inr ⟨own_up (hJx _) hz _ _ _ row q1 hg hr, q2⟩
set_option maxRecDepth 100000 in
set_option maxHeartbeats 8000000 in
theorem scan_seq (n B g b cap : Nat) (s : St) (x : Nat) (fr tw : ByteArray) (w : World) (hM : MA B w g b cap s) (x0 : w.cell? ⟨x, 0, none⟩ = some (.pointer (some ⟨g, 0, none⟩))) (x1 : w.cell? ⟨x + 1, 0, none⟩ = some (.string fr)) (x2 : w.cell? ⟨x + 2, 0, none⟩ = some (.string tw)) (hx : x + 2 < w.heap.size) :
    SeqM Fence.wide n Try.prog 40 #[.pointer (some ⟨x, 0, none⟩), .pointer (some ⟨x + 1, 0, none⟩), .pointer (some ⟨x + 2, 0, none⟩)] (fun c : Cl => #[clV c]) (obS g b x) (fun ys => ys = scanL fr tw s.E) (fun pre => pre <+: scanL fr tw s.E) s.E.length w := by
  intro l J Jx W hW hJ hJx hY h0
  have HY : Hid _ := hY
  have HJ0 : Hid _ := h0
  have HJO : Hid _ := hJ
  have HJX : Hid _ := hJx
  have hlt := hM.lt
  have HMW : Hid (∀ V, Below W.heap.size W V → MA B V g b cap s ∧ V.cell? ⟨x, 0, none⟩ = some (.pointer (some ⟨g, 0, none⟩)) ∧ V.cell? ⟨x + 1, 0, none⟩ = some (.string fr) ∧ V.cell? ⟨x + 2, 0, none⟩ = some (.string tw)) := fun V hV => by
    have hb : Below w.heap.size w V := hW.trans (hV.mono hW.size)
    exact ⟨hM.below hb, (hb.cell (p := ⟨x, 0, none⟩) (by show x < _; omega)).trans x0, (hb.cell (p := ⟨x + 1, 0, none⟩) (by show x + 1 < _; omega)).trans x1, (hb.cell (p := ⟨x + 2, 0, none⟩) (by show x + 2 < _; omega)).trans x2⟩
  have HLT : Hid (g < W.heap.size ∧ b < W.heap.size ∧ x + 2 < W.heap.size) := by have := hW.size; exact ⟨by omega, by omega, by omega⟩
  obtain ⟨E0, E1⟩ : ∃ A0, s.E = A0 ++ beE fr 72057594037927935 s.E := ⟨_, (ah_be fr 72057594037927935 s.E).symm⟩
  have HE : Hid _ := E1
  have hh : ∀ e ∈ s.E, 1 ≤ e.h := fun e he => (hM.rep.each e he).2.2.2.1
  have HH : Hid _ := hh
  have hsm := hM.small
  have hsz := hM.rep.size
  have HSZ : Hid _ := hsz
  clear hM x0 x1 x2 hx hW hY h0 hJ hJx hlt E1 hh hsz
  obtain ⟨z, hz⟩ : ∃ z, W.heap.size = z := ⟨_, rfl⟩
  obtain ⟨W1, hW1⟩ : ∃ W1, W.alloc (.cells #[.func (.yield l) #[] #[]] 80) = W1 := ⟨_, rfl⟩
  have b1 : Below W.heap.size W W1 := by rw [← hW1]; exact below_new _ _
  have y1 : W1.heap[z]? = some (.cells #[.func (.yield l) #[] #[]] 80 (0, 0)) := by rw [← hW1, ← hz]; exact block_alloc_at _ _
  obtain ⟨m1, k0, k1, k2⟩ := HMW.out W1 b1
  have z1 : W1.heap.size = z + 1 := by rw [← hW1, ← hz]; simp
  obtain ⟨W2, hW2⟩ : ∃ W2, W1.alloc (.cells #[.int .i64 ((s.n : Nat) : Int)] 3) = W2 := ⟨_, rfl⟩
  have b2 : Below W1.heap.size W1 W2 := by rw [← hW2]; exact below_new _ _
  have HB2 : Hid (Below W.heap.size W W2) := b1.trans (b2.mono b1.size)
  have HY2 : Hid (W2.heap[z]? = some (.cells #[.func (.yield l) #[] #[]] 80 (0, 0)) ∧ W2.heap[z + 1]? = some (.cells #[.int .i64 ((s.n : Nat) : Int)] 3 (0, 0))) := by
    refine ⟨(b2.block _ (by omega)).trans y1, ?_⟩
    rw [← hW2, ← z1]
    exact block_alloc_at _ _
  have HCL : Hid (∀ _ : Unit, _) := fun _ => closed_no g W1 m1.hd.1
  have n1 := m1.hd.2.1
  have k0u : (W.alloc (.cells #[.func (.yield l) #[] #[]] 80)).cell? ⟨x, 0, none⟩ = some (.pointer (some ⟨g, 0, none⟩)) := by rw [hW1]; exact k0
  have HW1 : Hid _ := hW1
  have HW2 : Hid _ := hW2
  have HZ1 : Hid (z + 1 = W1.heap.size ∧ W2.heap.size = z + 2) := ⟨z1.symm, by rw [← hW2]; simp; omega⟩
  clear b1 y1 m1 hW1 hW2 z1 b2
  refine callsIn_of_wp_marks (F := Fence.wide) (n := n) Try.func40 rfl trivial ?_ rfl
  refine wpIn_wide.2 ?_
  simp only [Try.ntmps40, List.size_toArray, List.length_cons, List.length_nil, Nat.reduceAdd, Nat.reduceSub, Array.replicate_succ, Array.replicate_zero, List.push_toArray, List.append_toArray, List.nil_append, List.cons_append]
  rw [hz]
  go_wp2_with fail
  rw [HW1.out]
  refine (HCL.out ()).mono ?_
  rintro e w1 ⟨rfl, hw1⟩
  rw [hw1]
  clear hw1 w1 k0u
  go_wp2_with fail
  rw [HW2.out, ← HZ1.out.1]
  clear HW1 HW2 k0 k1 k2 n1 HCL
  have HSS : Hid (∀ V, Below W2.heap.size W2 V → V.cell? ⟨x, 0, none⟩ = some (.pointer (some ⟨g, 0, none⟩)) ∧ V.cell? ⟨x + 1, 0, none⟩ = some (.string fr)) := fun V hV => by
    obtain ⟨_, q0, q1, _⟩ := HMW.out V (HB2.out.trans (hV.mono HB2.out.size))
    exact ⟨q0, q1⟩
  have HSK : Hid (∀ V, Below W2.heap.size W2 V → Calls Try.prog 38 #[.pointer (some ⟨g, 0, none⟩), .string fr, .int .u64 72057594037927935] V fun e w' => e = .returned (.int .i64 (fsL 0 (beE fr 72057594037927935 s.E) : Nat)) ∧ Below V.heap.size V w') := fun V hV => seek_any B g b cap s fr 72057594037927935 V (HMW.out V (HB2.out.trans (hV.mono HB2.out.size))).1
  obtain ⟨R0, hR0⟩ : ∃ R, beE fr 72057594037927935 s.E = R := ⟨_, rfl⟩
  rw [hR0] at HSK HE
  have HLV : Hid (∀ V, Calls Try.prog 39 #[.pointer (some ⟨g, 0, none⟩), .int .i64 0, .int .i64 ((fsL 0 R0 : Nat) : Int)] V fun e w' => e = .returned (.func (.func 42) #[] #[.pointer (some ⟨V.heap.size + 1 + 1, 0, none⟩), .pointer (some ⟨V.heap.size, 0, none⟩), .pointer (some ⟨V.heap.size + 1, 0, none⟩)]) ∧ w' = ((V.alloc (.cells #[.pointer (some ⟨g, 0, none⟩)] 23)).alloc (.cells #[.int .i64 0] 3)).alloc (.cells #[.int .i64 ((fsL 0 R0 : Nat) : Int)] 3)) := fun V => level_any (some ⟨g, 0, none⟩) 0 (fsL 0 R0) V
  have HBD : Hid (Below W2.heap.size W2 W2.drew) := (Below.refl _ _).drew
  have hS0 := HSS.out W2.drew HBD.out
  refine wp_then_false ?_
  refine wp_region_held_drew (S := fun W => W.cell? ⟨x, 0, none⟩ = some (.pointer (some ⟨g, 0, none⟩)) ∧ W.cell? ⟨x + 1, 0, none⟩ = some (.string fr)) (by kernel_rfl) hS0 (fun hHeld => ?_)
  refine wpAnyH_take (i := 0) (oi := ({ dst := some 15, op := Op.load 23 (Operand.tmp 1), type := 23, pos := "mem.go:83", after := #[], guard := none } : Oper)) (v := ?_) rfl (by kernel_rfl) (by kernel_rfl) (by kernel_rfl) (fun _ _ _ h => h) (Or.inl ⟨by rfl, ?_⟩) (by assumption) ?_
  rotate_left
  · (intro w hSw; (try dsimp only at hSw); go_simp; try with_reducible rfl)
  try simp only [Act.put, List.setIfInBounds_toArray, List.set_cons_zero, List.set_cons_succ]
  refine wpAnyH_take (i := 1) (oi := ({ dst := some 16, op := Op.load 23 (Operand.tmp 1), type := 23, pos := "mem.go:83", after := #[], guard := none } : Oper)) (v := ?_) rfl (by kernel_rfl) (by kernel_rfl) (by kernel_rfl) (fun _ _ _ h => h) (Or.inl ⟨by rfl, ?_⟩) (by assumption) ?_
  rotate_left
  · (intro w hSw; (try dsimp only at hSw); go_simp; try with_reducible rfl)
  try simp only [Act.put, List.setIfInBounds_toArray, List.set_cons_zero, List.set_cons_succ]
  refine wpAnyH_take (i := 2) (oi := ({ dst := some 17, op := Op.load 9 (Operand.tmp 2), type := 9, pos := "mem.go:83", after := #[], guard := none } : Oper)) (v := ?_) rfl (by kernel_rfl) (by kernel_rfl) (by kernel_rfl) (fun _ _ _ h => h) (Or.inl ⟨by rfl, ?_⟩) (by assumption) ?_
  rotate_left
  · (intro w hSw; (try dsimp only at hSw); go_simp; try with_reducible rfl)
  try simp only [Act.put, List.setIfInBounds_toArray, List.set_cons_zero, List.set_cons_succ]
  refine wpAnyH_ready (rs := [3]) (by kernel_rfl) (by simp) ?_
  refine AllReadyH.cons rfl (fun K hK => ?_) AllReadyH.nil
  go_simp
  go_wp2_with (go_at_call 38; refine (HSK.out _ HBD.out).mono ?_; rintro e w5 ⟨rfl, b5⟩; have q5 : Below W2.heap.size W2 w5 := HBD.out.trans (b5.mono HBD.out.size); have hS5 := HSS.out w5 q5; clear b5)
  refine hK.out _ _ (by assumption) (fun hHeld => ?_)
  clear hK K
  refine wpAnyH_ready (rs := [4]) (by kernel_rfl) (by simp) ?_
  refine AllReadyH.cons rfl (fun K hK => ?_) AllReadyH.nil
  go_simp
  go_wp2_with (go_at_call 39; refine (HLV.out _).mono ?_; rintro e w6 ⟨rfl, rfl⟩; have hS6 := HSS.out _ (q5.trans (lev_new w5 (.cells #[.pointer (some ⟨g, 0, none⟩)] 23) (.cells #[.int .i64 0] 3) (.cells #[.int .i64 ((fsL 0 R0 : Nat) : Int)] 3) q5.size)))
  refine hK.out _ _ (by assumption) (fun hHeld => ?_)
  clear hK K
  refine wpAnyH_done (by kernel_rfl) ?_ _
  go_wp2_with fail
  obtain ⟨U, hU⟩ : ∃ U, ((w5.alloc (.cells #[.pointer (some ⟨g, 0, none⟩)] 23)).alloc (.cells #[.int .i64 0] 3)).alloc (.cells #[.int .i64 ((fsL 0 R0 : Nat) : Int)] 3) = U := ⟨_, rfl⟩
  have c1 : U.cell? ⟨w5.heap.size, 0, none⟩ = some (.pointer (some ⟨g, 0, none⟩)) := by
    rw [← hU]; exact (((Boxed.new w5 23 (.pointer (some ⟨g, 0, none⟩))).alloc _).alloc _).cell
  have c2 : U.cell? ⟨w5.heap.size + 1, 0, none⟩ = some (.int .i64 ((0 : Nat) : Int)) := by
    have h1 := Boxed.new (w5.alloc (.cells #[.pointer (some ⟨g, 0, none⟩)] 23)) 3 (.int .i64 0)
    rw [World.size_alloc] at h1
    rw [← hU]; exact (h1.alloc _).cell
  have c3 : U.cell? ⟨w5.heap.size + 2, 0, none⟩ = some (.int .i64 ((fsL 0 R0 : Nat) : Int)) := by
    have h1 := Boxed.new ((w5.alloc (.cells #[.pointer (some ⟨g, 0, none⟩)] 23)).alloc (.cells #[.int .i64 0] 3)) 3 (.int .i64 ((fsL 0 R0 : Nat) : Int))
    rw [World.size_alloc, World.size_alloc] at h1
    rw [← hU]; exact h1.cell
  have zU : U.heap.size = w5.heap.size + 3 := by rw [← hU]; simp
  have bU : Below W.heap.size W U := HB2.out.trans ((q5.trans (by rw [← hU]; exact lev_new w5 _ _ _ q5.size)).mono HB2.out.size)
  have bU2 : Below W2.heap.size W2 U := q5.trans (by rw [← hU]; exact lev_new w5 _ _ _ q5.size)
  rw [hU]
  obtain ⟨y, hy⟩ : ∃ y, w5.heap.size = y := ⟨_, rfl⟩
  rw [hy] at c1 c2 c3 zU ⊢
  obtain ⟨mU, u0, u1, u2⟩ := HMW.out U bU
  have hLG : LG B U g b cap s 0 y R0 := ⟨mU, c1, c2, c3⟩
  have HMU : Hid (MA B U g b cap s) := mU
  have HU : Hid (U.cell? ⟨x, 0, none⟩ = some (.pointer (some ⟨g, 0, none⟩)) ∧ U.cell? ⟨x + 2, 0, none⟩ = some (.string tw)) := ⟨u0, u2⟩
  have HUB : Hid (U.heap[z]? = some (.cells #[.func (.yield l) #[] #[]] 80 (0, 0)) ∧ U.heap[z + 1]? = some (.cells #[.int .i64 ((s.n : Nat) : Int)] 3 (0, 0))) := by
    have := HZ1.out
    exact ⟨(bU2.block _ (by omega)).trans HY2.out.1, (bU2.block _ (by omega)).trans HY2.out.2⟩
  have hJ0 := HJ0.out U bU
  have HZY : Hid (z ≤ y ∧ U.heap.size = y + 3) := by have := q5.size; have := HZ1.out; exact ⟨by omega, zU⟩
  have hzU : z + 2 ≤ U.heap.size := by have := bU2.size; have := HZ1.out; omega
  have hlR : R0.length ≤ s.E.length := by have := congrArg List.length HE.out; simp at this; omega
  have hob : ∀ q, obS g b x q → q < U.heap.size := fun q hq => by
    have := HLT.out
    have := bU.size
    unfold obS at hq
    omega
  have HOB : Hid _ := hob
  have HBU : Hid (Below W.heap.size W U) := bU
  clear q5 hS5 hS6 hHeld hU bU bU2 u0 u1 u2 c1 c2 c3 hS0 HBD HSS HSK HLV HMW HB2 HY2 HZ1 mU
  rw [hz] at HJO HJX HY
  have hgm := HLT.out
  have hyU : y + 2 < U.heap.size := by omega
  clear zU
  refine (wpIn_wide (n := 8)).1 ?_
  refine wpIn_rangeFunc_ownG rfl (by omega) (gf := 42) (lb := #[.pointer (some ⟨y + 1 + 1, 0, none⟩), .pointer (some ⟨y, 0, none⟩), .pointer (some ⟨y + 1, 0, none⟩)]) rfl trivial (enters_of Try.func42 (by kernel_rfl) rfl)
    (lvg_stops Fence.wide (8 - 1) trivial rfl (by omega) y B g b cap s 0 (by decide) E0 R0 HE.out U hLG hyU) (fun h k => h.trans k)
    (fun W l o o' hl ho _ _ => fun q hq => World.putObj_heap_other (by have := hob g (.inl rfl); have := hob b (.inr (.inl rfl)); omega)) (Below.refl _ _) (fun _ => rfl)
    (fun ys W => ScI s (obS g b x) z tw U J ys W ∧ U.heap.size ≤ W.heap.size) (fun c ys W => ScX s tw U J Jx c ys W)
    (scI_own HJO.out (by omega) hob) (scX_own HJO.out HJX.out (by omega)) ⟨⟨hJ0, KpM.refl _ _ _ _, fun e he => (by cases he)⟩, Nat.le_refl _⟩
    (fun e : {e : En // e ∈ s.E} => { tmps := #[.func (.yield l) #[] #[], .pointer (some ⟨x, 0, none⟩), .pointer (some ⟨x + 1, 0, none⟩), .pointer (some ⟨x + 2, 0, none⟩), .pointer (some ⟨z, 0, none⟩), .pointer (some ⟨z + 1, 0, none⟩), .int .i64 ((e.1.p : Nat) : Int), undef, .pointer (some ⟨g, 0, none⟩), .bool false, .pointer (some ⟨g, 0, none⟩), .pointer (some ⟨g, 0, none⟩), .pointer (some ⟨g, 1, none⟩), .slice (some ⟨b, 0, none⟩) s.n cap, .int .i64 ((s.n : Nat) : Int), .pointer (some ⟨g, 0, none⟩), .pointer (some ⟨g, 0, none⟩), .string fr, .int .i64 ((fsL 0 R0 : Nat) : Int), .func (.func 42) #[] #[.pointer (some ⟨y + 1 + 1, 0, none⟩), .pointer (some ⟨y, 0, none⟩), .pointer (some ⟨y + 1, 0, none⟩)], .int .i64 ((e.1.p : Nat) : Int), undef, undef, undef, undef, undef, undef, undef, undef, undef, undef, undef, undef, undef, undef, undef, undef, undef, undef, undef, undef, undef, undef, undef, undef, undef], defers := [] }) ?assign ?body ?done ?stop
  case assign =>
    intro lp e W K hK
    gi_wp2
    exact hK
  case body =>
    rintro lp ys ⟨⟨p, c, hg⟩, hmem⟩ W3 ⟨⟨hj, hk, hup⟩, hs3⟩ hlen'
    obtain ⟨hp1, hpn, hce, _, _⟩ := HMU.out.rep.each _ hmem
    simp only at hp1 hpn hce
    have mW : MA B W3 g b cap s := HMU.out.eq (hk g (.inl (.inl rfl))) (hk b (.inl (.inr (.inl rfl))))
    obtain ⟨n0, n1, n2, n3⟩ := mW.node hpn
    rw [hce] at n0 n1 n2 n3
    have m1 := mW.hd.2.1
    have v0 : W3.cell? ⟨x, 0, none⟩ = some (.pointer (some ⟨g, 0, none⟩)) := cell_eq (hk x (.inl (.inr (.inr (.inl rfl))))) HU.out.1
    obtain ⟨V, hV⟩ : ∃ V, W3.alloc (.cells #[.string c.key, .int .u64 ((c.seq : Nat) : Int), .string c.val, .bool c.gone] 33) = V := ⟨_, rfl⟩
    have bV : Below W3.heap.size W3 V := by rw [← hV]; exact below_new _ _
    have hkV : KpM (obS g b x) z U.heap.size U V := hk.trans (fun q hq => bV.block q (by
      rcases hq with hq | hq
      · have := HOB.out q hq; omega
      · omega))
    have zV : V.heap[W3.heap.size]? = some (.cells #[.string c.key, .int .u64 ((c.seq : Nat) : Int), .string c.val, .bool c.gone] 33 (0, 0)) := by rw [← hV]; exact block_alloc_at _ _
    have hjV : J U.heap.size (ys.map (fun e => e.1.c)) V := by rw [← hV]; exact (HJO.out _).alloc _ hj
    have e0 : V.cell? ⟨x + 2, 0, none⟩ = some (.string tw) := cell_eq (hkV (x + 2) (.inl (.inr (.inr (.inr (.inr rfl)))))) HU.out.2
    have e1 : V.cell? ⟨z, 0, none⟩ = some (.func (.yield l) #[] #[]) := cell_eq (hkV z (.inr ⟨by omega, by omega⟩)) (cell_of_block HUB.out.1 rfl)
    have e2 : V.cell? ⟨z + 1, 0, none⟩ = some (.int .i64 ((s.n : Nat) : Int)) := cell_eq (hkV (z + 1) (.inr ⟨by omega, by omega⟩)) (cell_of_block HUB.out.2 rfl)
    have f0 : V.cell? ⟨W3.heap.size, 0, none⟩ = some (.string c.key) := cell_of_block zV rfl
    have f1 : V.cell? ⟨W3.heap.size, 1, none⟩ = some (.int .u64 ((c.seq : Nat) : Int)) := cell_of_block zV rfl
    have f2 : V.cell? ⟨W3.heap.size, 2, none⟩ = some (.string c.val) := cell_of_block zV rfl
    have f3 : V.cell? ⟨W3.heap.size, 3, none⟩ = some (.bool c.gone) := cell_of_block zV rfl
    have HKV : Hid (KeepsFrom U.heap.size W3 V) := (KeepsFrom.of_grownBy (by rw [← hV]; exact World.grownBy_alloc W3 _ none) (fun j q => by cases q))
    have HJV : Hid _ := hjV
    have HKP : Hid (KpM (obS g b x) z U.heap.size U V) := hkV
    have HWV : Hid (∀ q, q < U.heap.size → V.heap[q]? = W3.heap[q]?) := fun q hq => bV.block q (by omega)
    have HS3 : Hid (U.heap.size ≤ W3.heap.size) := hs3
    have HSV : Hid (U.heap.size ≤ V.heap.size) := Nat.le_trans hs3 bV.size
    have HUP : Hid _ := hup
    have hpz : ((p : Nat) : Int) < ((s.n : Nat) : Int) := by omega
    have hsmz : ((s.n : Nat) : Int) ≤ 1000000000 := by omega
    have HLEN : Hid (ys.length < s.E.length) := by rw [Hid]; omega
    have HV : Hid _ := hV
    rw [← hV] at e0 e1 e2 f0 f1 f2 f3
    clear hyU hV bV hkV zV hjV mW hj hk hup hs3 hlen' hp1 hpn hce hLG hJ0 hob
    have hge : ∀ W : World, (binOp BinOp.geq 9 (.string c.key) (.string tw)).run Try.prog W = .ok (.bool (!(Op.bytesLess c.key.toList tw.toList))) W := fun W => sgeq 9 c.key tw W
    cases hu : upK tw c with
    | false =>
      have hte : tw.toList.isEmpty = false := by unfold upK at hu; simp at hu; simpa using hu.1
      have hbl : Op.bytesLess c.key.toList tw.toList = false := by unfold upK at hu; simp at hu; simpa using hu.2
      rw [hbl] at hge
      have HUU : Hid (upK tw c = false) := hu
      clear hu hbl
      gi_wp2
      rw [HV.out]
      exact ⟨HKV.out, rfl, .inl ⟨ys, ⟨⟨p, c, hg⟩, hmem⟩, rfl, HUP.out, HUU.out, HJV.out⟩⟩
    | true =>
      have HUA : Hid (∀ e ∈ ys ++ [(⟨⟨p, c, hg⟩, hmem⟩ : {e : En // e ∈ s.E})], upK tw e.1.c = true) := by
        intro e he
        rcases List.mem_append.1 he with he | he
        · exact HUP.out e he
        · rw [List.mem_singleton.1 he]; exact hu
      have HYY : Hid (YieldAt Fence.wide (n - 1) Try.prog l #[clV c] V _) := HY.out U.heap.size (ys.map (fun e => e.1.c)) c V (by omega) HJV.out (by rw [List.length_map]; exact HLEN.out)
      obtain ⟨fn, tmps, assign, body, hyl, hRR⟩ := HYY.out
      simp only [clV] at hyl
      rw [← HV.out] at hyl hRR
      have HRR : Hid _ := hRR
      have HEQ : Hid ((ys ++ [(⟨⟨p, c, hg⟩, hmem⟩ : {e : En // e ∈ s.E})]).map (fun e => e.1.c) = ys.map (fun e => e.1.c) ++ [c]) := by simp [Hid]
      clear hRR
      have hcase : tw.toList.isEmpty = true ∨ (tw.toList.isEmpty = false ∧ Op.bytesLess c.key.toList tw.toList = true) := by
        unfold upK at hu
        cases h : tw.toList.isEmpty <;> simp [h] at hu ⊢
        exact hu
      clear hu
      rcases hcase with hte | ⟨hte, hbl⟩
      · gi_wp2
        refine (roundIn_any HRR.out).mono ?_
        rintro e' W4 (⟨rfl, hJ4, hF4, hK4⟩ | ⟨rfl, hJ4, hF4⟩)
        · rw [HV.out] at hF4 hK4
          have HFI : Hid (KeepsFrom U.heap.size W3 W4 ∧ KpM (obS g b x) z U.heap.size V W4 ∧ J U.heap.size ((ys ++ [(⟨⟨p, c, hg⟩, hmem⟩ : {e : En // e ∈ s.E})]).map (fun e => e.1.c)) W4) := ⟨HKV.out.trans (KeepsFrom.up hF4 (by omega)), hK4, by rw [HEQ.out]; exact hJ4⟩
          clear hJ4 hF4 hK4
          gi_wp2
          refine ⟨HFI.out.1, ?_, ⟨⟨HFI.out.2.2, KpM.trans HKP.out HFI.out.2.1, HUA.out⟩, Nat.le_trans HS3.out HFI.out.1.size⟩⟩
          intro q hq
          have hgy := HZY.out
          have hql : obS g b x q ∨ (z ≤ q ∧ q < U.heap.size) := by
            rcases hq with rfl | rfl | rfl | rfl | rfl
            · exact .inl (.inl rfl)
            · exact .inl (.inr (.inl rfl))
            · exact .inr ⟨by omega, by omega⟩
            · exact .inr ⟨by omega, by omega⟩
            · exact .inr ⟨by omega, by omega⟩
          refine (HFI.out.2.1 q hql).trans (HWV.out q ?_)
          rcases hql with h | h
          · exact HOB.out q h
          · exact h.2
        · rw [HV.out] at hF4
          have HFI : Hid (KeepsFrom U.heap.size W3 W4 ∧ Jx U.heap.size ((ys ++ [(⟨⟨p, c, hg⟩, hmem⟩ : {e : En // e ∈ s.E})]).map (fun e => e.1.c)) W4) := ⟨HKV.out.trans (KeepsFrom.up hF4 (by omega)), by rw [HEQ.out]; exact hJ4⟩
          clear hJ4 hF4
          gi_wp2
          exact ⟨HFI.out.1, rfl, .inr ⟨HFI.out.2, HUA.out⟩⟩
      · rw [hbl] at hge
        clear hbl
        gi_wp2
        refine (roundIn_any HRR.out).mono ?_
        rintro e' W4 (⟨rfl, hJ4, hF4, hK4⟩ | ⟨rfl, hJ4, hF4⟩)
        · rw [HV.out] at hF4 hK4
          have HFI : Hid (KeepsFrom U.heap.size W3 W4 ∧ KpM (obS g b x) z U.heap.size V W4 ∧ J U.heap.size ((ys ++ [(⟨⟨p, c, hg⟩, hmem⟩ : {e : En // e ∈ s.E})]).map (fun e => e.1.c)) W4) := ⟨HKV.out.trans (KeepsFrom.up hF4 (by omega)), hK4, by rw [HEQ.out]; exact hJ4⟩
          clear hJ4 hF4 hK4
          gi_wp2
          refine ⟨HFI.out.1, ?_, ⟨⟨HFI.out.2.2, KpM.trans HKP.out HFI.out.2.1, HUA.out⟩, Nat.le_trans HS3.out HFI.out.1.size⟩⟩
          intro q hq
          have hgy := HZY.out
          have hql : obS g b x q ∨ (z ≤ q ∧ q < U.heap.size) := by
            rcases hq with rfl | rfl | rfl | rfl | rfl
            · exact .inl (.inl rfl)
            · exact .inl (.inr (.inl rfl))
            · exact .inr ⟨by omega, by omega⟩
            · exact .inr ⟨by omega, by omega⟩
            · exact .inr ⟨by omega, by omega⟩
          refine (HFI.out.2.1 q hql).trans (HWV.out q ?_)
          rcases hql with h | h
          · exact HOB.out q h
          · exact h.2
        · rw [HV.out] at hF4
          have HFI : Hid (KeepsFrom U.heap.size W3 W4 ∧ Jx U.heap.size ((ys ++ [(⟨⟨p, c, hg⟩, hmem⟩ : {e : En // e ∈ s.E})]).map (fun e => e.1.c)) W4) := ⟨HKV.out.trans (KeepsFrom.up hF4 (by omega)), by rw [HEQ.out]; exact hJ4⟩
          clear hJ4 hF4
          gi_wp2
          exact ⟨HFI.out.1, rfl, .inr ⟨HFI.out.2, HUA.out⟩⟩
  case done =>
    rintro D ys W3 hD hS ⟨⟨hj, hk, hup⟩, hs3⟩ hK
    have hfin : ∃ xs, xs = scanL fr tw s.E ∧ J U.heap.size xs W3 := by
      refine ⟨ys.map (fun e => e.1.c), ?_, hj⟩
      have h1 : (ys.map (fun e => e.1)).map En.c = ys.map (fun e => e.1.c) := by rw [List.map_map]; rfl
      rw [hS, lvE_zero (fun e he => HH.out e (by rw [HE.out]; exact List.mem_append_right _ he))] at h1
      unfold scanL
      rw [hR0, h1, tw_whole]
      intro c hc
      obtain ⟨e, he, rfl⟩ := List.mem_map.1 hc
      exact hup e he
    have HFN : Hid _ := hfin
    have HK : Hid _ := hK
    clear hfin hS hj hk hup hK
    have HGR : Hid (∀ w' : World, (w'.os = W3.os ∧ w'.tape = W3.tape ∧ w'.output = W3.output) → w'.heap.size = W3.heap.size → (∀ q, q ∉ [D] → w'.heap[q]? = W3.heap[q]?) → W3.grownBy w' (some D) ∧ ∀ r, some D = some r → z ≤ r ∧ ∃ o : Obj, W3.heap[r]? = some o ∧ o.isCells = false) := fun w' e0 e1 e2 => ⟨mark_grown D e0 e1 e2, fun r e => by cases e; exact ⟨by omega, _, HK.out, rfl⟩⟩
    go_wp2_with fail
    refine leaves_marks [D] _ (by simp) (fun D' hD' => by rw [List.mem_singleton.1 hD']; exact HK.out) (fun w' e0 e1 e2 => ?_)
    refine ⟨_, results_none rfl _ _ _, ⟨_, rfl⟩, U.heap.size, by omega, .inl ?_⟩
    obtain ⟨xs, h1, h2⟩ := HFN.out
    obtain ⟨g1, g2⟩ := HGR.out w' e0 e1 e2
    exact ⟨xs, h1, HJO.out _ _ _ _ _ h2 g1 g2⟩
  case stop =>
    rintro D c0 ys W3 hD hS ⟨rfl, hx3⟩ hK
    have hfin : (∃ xs, xs = scanL fr tw s.E ∧ J U.heap.size xs W3) ∨ (∃ pre, pre <+: scanL fr tw s.E ∧ Jx U.heap.size pre W3) := by
      rw [lvE_zero (fun e he => HH.out e (by rw [HE.out]; exact List.mem_append_right _ he))] at hS
      obtain ⟨T, hT⟩ := hS
      unfold scanL
      rw [hR0, ← hT, List.map_append, List.map_map]
      rcases hx3 with ⟨ys', e, rfl, q2, q3, q4⟩ | ⟨q1, q2⟩
      · refine .inl ⟨_, ?_, q4⟩
        rw [List.map_append, List.append_assoc]
        exact (tw_stops (fun c hc => by obtain ⟨e, he, rfl⟩ := List.mem_map.1 hc; exact q2 e he) q3).symm
      · refine .inr ⟨_, ?_, q1⟩
        exact tw_pre (fun c hc => by obtain ⟨e, he, rfl⟩ := List.mem_map.1 hc; exact q2 e he)
    have HFN : Hid _ := hfin
    have HK : Hid _ := hK
    clear hfin hS hx3 hK
    have HGR : Hid (∀ w' : World, (w'.os = W3.os ∧ w'.tape = W3.tape ∧ w'.output = W3.output) → w'.heap.size = W3.heap.size → (∀ q, q ∉ [D] → w'.heap[q]? = W3.heap[q]?) → W3.grownBy w' (some D) ∧ ∀ r, some D = some r → z ≤ r ∧ ∃ o : Obj, W3.heap[r]? = some o ∧ o.isCells = false) := fun w' e0 e1 e2 => ⟨mark_grown D e0 e1 e2, fun r e => by cases e; exact ⟨by omega, _, HK.out, rfl⟩⟩
    refine wpIn_wide.2 ?_
    go_wp2_with fail
    refine leaves_marks [D] _ (by simp) (fun D' hD' => by rw [List.mem_singleton.1 hD']; exact HK.out) (fun w' e0 e1 e2 => ?_)
    obtain ⟨g1, g2⟩ := HGR.out w' e0 e1 e2
    refine ⟨_, results_none rfl _ _ _, ⟨_, rfl⟩, U.heap.size, by omega, ?_⟩
    rcases HFN.out with ⟨xs, h1, h2⟩ | ⟨xs, h1, h2⟩
    · exact .inl ⟨xs, h1, HJO.out _ _ _ _ _ h2 g1 g2⟩
    · exact .inr ⟨xs, h1, HJX.out _ _ _ _ _ h2 g1 g2⟩
end Go.Proofs.Ytdgmjmohfpjlnaa
