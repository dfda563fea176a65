/-
  Goes in general: what a round over the cells holds on to.
-/
import Derived.Test.YtdgmjmohfpjlnaaCel
import Derived.Test.YtdgmjmohfpjlnaaGoe
import Derived.Test.YtdgmjmohfpjlnaaTwo
import Derived.LoopN
import Derived.Sort.QuietIn
namespace Go.Proofs.Ytdgmjmohfpjlnaa
open Go.RowKit Go.Shelf
section
variable {F : Fence} {n : Nat} {P : Program}
theorem wpIn_rangeFunc_MB2 {α : Type} {g : Operand} {ps : Array Tmp} {assign body : Code} {Q : Exit → Act → World → Prop} {a : Act} {w : World}
    (hro : F.round = none) (h1 : 1 ≤ n) {gf : Nat} {lb : Array Value} (hg : a.eval g = .func (.func gf) #[] lb) (hFg : F.fn gf) (eg : ∀ args w, (callFunc gf args).run P w = .ok (.enter gf args) w)
    {encs : α → Array Value} {ob : Nat → Prop} {S Sp : List α → Prop} {N : Nat} {w0 : World} (hseq : SeqM F (n - 1) P gf lb encs ob S Sp N w0)
    (hob : ∀ q, ob q → q < w.heap.size) (hb0 : Below w0.heap.size w0 w) (hps : ∀ x, (encs x).size = ps.size)
    (I : Nat → List α → World → Prop) (Ix : Nat → Code → List α → World → Prop) (hI : ∀ M, OwnFrom w.heap.size (I M)) (hIx : ∀ M c, OwnFrom w.heap.size (Ix M c)) (h0 : ∀ W0, Below w.heap.size w W0 → w.heap.size + 2 ≤ W0.heap.size → I W0.heap.size [] W0) (obj : α → Obj) (a₁ : α → Nat → Act)
    (hassign : ∀ (l : Nat) (x : α) (W : World) (A : Nat), W.heap.size = A → ∀ (K : Act → World → Prop), K (a₁ x A) (W.alloc (obj x)) →
      assign.wpIn (F.inRound l) (n - 1 - 1) P (Exit.then K (fun _ _ _ => False)) { tmps := (ps.zip (encs x)).foldl (fun t (p, v) => t.setIfInBounds p v) a.tmps, defers := [] } W)
    (hbody : ∀ (l M : Nat) (pre : List α) (x : α) (A : Nat) (W : World), w.heap.size + 2 ≤ M → M ≤ A → W.heap[A]? = some (obj x) → I M pre W → pre.length < N → body.wpIn (F.inRound l) (n - 1 - 1) P (ownPostG w.heap.size (KpM ob (w.heap.size + 2) M) (I M) (Ix M) (pre ++ [x]) W) (a₁ x A) W)
    (hdone : ∀ (D M : Nat) (xs : List α) (W : World), w.heap.size ≤ D → w.heap.size + 2 ≤ M → S xs → I M xs W → W.heap[D]? = some (.deferred (some [])) → Q .normal { a with defers := { target := .collected D, args := #[] } :: a.defers } W)
    (hstop : ∀ (D M : Nat) (c : Code) (pre : List α) (W : World), w.heap.size ≤ D → w.heap.size + 2 ≤ M → Sp pre → Ix M c pre W → W.heap[D]? = some (.deferred (some [])) → c.wpIn F n P Q { a with defers := { target := .collected D, args := #[] } :: a.defers } W) :
    (Code.rangeFunc g ps assign body).wpIn F n P Q a w :=
  wpIn_rangeFunc_MB hro h1 hg hFg eg hseq hob hb0 hps I Ix hI hIx h0 obj a₁ (fun l x W K hK => hassign l x W _ rfl K hK) hbody hdone hstop
end
section
variable {F : Fence} {n : Nat} {P : Program} {ops : Array Oper} {md : Region.Mode} {C : World → Prop}
theorem semAt_any (ro : Option Nat) (ρ : Operand → Value) (o : Oper) (h : ∀ c, o.op ≠ .defer c) : Oper.semAt ro ρ o = execOp ρ o := by
  cases ro with
  | none => exact Oper.semAt_none ρ o
  | some l => exact Oper.semAt_some l ρ o h
theorem wpIn_of_quiet_r {o : Oper} {a : Act} {K : Act → Prop} {K' : Act → World → Prop} {Q' : Exit → Act → World → Prop} {w : World} (hd : ∀ c, o.op ≠ .defer c) (hw : C w) (h : ∀ a w', C w' → K a → K' a w')
    (ha : o.askedIn F P a C) (hh : o.quietIn F n P a C K) : o.wpIn F n P a w K' Q' := by
  obtain ⟨v, h1, h2⟩ := hh
  have h3 := h1 w hw
  unfold Oper.quietAtIn at h3
  unfold Oper.wpIn
  refine ⟨ha w hw, ?_⟩
  rw [semAt_any _ _ _ hd]
  generalize (execOp a.eval o).run P w = r at *
  cases r with
  | ok x w' =>
    cases x <;> simp only [Oper.quietUponIn] at h3 <;> simp only [Oper.uponIn]
    case value u =>
      obtain ⟨e1, e2⟩ := h3
      rw [e1, e2]
      exact h _ _ hw h2
    case skip =>
      obtain ⟨e1, e2⟩ := h3
      rw [e1, ← e2]
      exact h _ _ hw h2
    case enter f args =>
      obtain ⟨e1, hd, hc⟩ := h3
      rw [e1]
      exact ⟨hd, hc.mono fun e w'' ⟨he, hw''⟩ => by subst he; exact h _ _ hw'' h2⟩
  | halt x w' => simp only [Oper.quietUponIn] at h3
theorem wpOpIn_of_q_r {i : Nat} {a : Act} {K : Act → Prop} {K' : Act → World → Prop} {Q' : Exit → Act → World → Prop} {w : World} (hnd : ∀ o ∈ ops.toList, ∀ c, o.op ≠ .defer c) (hC : C w) (h : ∀ a w', C w' → K a → K' a w')
    (hh : qOpIn F n P ops C i K a) : wpOpIn F n P ops Q' i K' a w := by
  unfold qOpIn at hh
  unfold wpOpIn
  split
  · rename_i ho; simp only [ho] at hh; exact h _ _ hC hh
  · rename_i o ho
    simp only [ho] at hh
    obtain ⟨ha, hh⟩ := hh
    split
    · rename_i hw; simp only [hw, if_true] at hh; exact wpIn_of_quiet_r (hnd o (Array.mem_toList_iff.2 (Array.mem_of_getElem? ho))) hC h ha hh
    · rename_i hw; simp only [hw] at hh; exact ⟨ha w hC, h _ _ hC hh⟩
theorem wpAnyIn_of_q_r {Q : Act → Prop} {Q' : Exit → Act → World → Prop} (hnd : ∀ o ∈ ops.toList, ∀ c, o.op ≠ .defer c) (hQ : ∀ a w, C w → Q a → Q' .normal a w) : ∀ (fuel : Nat) (listed : Array Bool) (a : Act) (w : World), C w →
    wpAnyQIn F n P md ops C Q fuel listed a → wpAnyIn F n P md ops Q' fuel listed a w
  | 0, _, _, _, hw, h => ⟨h.1, hQ _ _ hw h.2⟩
  | fuel + 1, _, _, _, hw, h => ⟨fun h0 => hQ _ _ hw (h.1 h0), fun i hi => wpOpIn_of_q_r hnd hw (fun a' w' hw' => wpAnyIn_of_q_r hnd hQ fuel _ a' w' hw') (h.2 i hi)⟩
/-- A region that draws its order and only reads, in a round: one walk in the text's order. -/
theorem wpIn_region_q_r {id : Nat} {Q : Exit → Act → World → Prop} {a : Act} {w : World} {l : List Oper} (hnd : ∀ o ∈ l, ∀ c, o.op ≠ .defer c) (hm : P.follows .mixedOrders = true) (hB : Region.lexB .any l.toArray = true)
    (h : wpQuietIn F n P l.toArray (fun w' => ∃ n, w' = w.drewN n) (fun a' => ∀ w', (∃ n, w' = w.drewN n) → Q .normal a' w') l a) : (Code.region id l.toArray true).wpIn F n P Q a w := by
  have hC : (fun w' => ∃ n, w' = w.drewN n) ({ w with drawn := w.drawn + 1 } : World) := ⟨1, rfl⟩
  simp only [Region.lexB, Bool.and_eq_true] at hB
  refine wpIn_region_any hm (wpAnyIn_of_q_r (C := fun w' => ∃ n, w' = w.drewN n) (Q := fun a' => ∀ w', (∃ n, w' = w.drewN n) → Q .normal a' w') (by simpa using hnd) (fun _ w' hw' h => h w' hw') _ _ _ _ hC ?_)
  have := wpAnyQIn_lex (F := F) (n := n) (C := fun w' => ∃ n, w' = w.drewN n) (md := .any) (ops := l.toArray) hB.1 l 0 (Array.replicate l.toArray.size false) a (by simp) (by simpa using hB.2) h
  simpa using this
end
theorem boxed_cell {W : World} {B : Nat} {t : TypeId} {v : Value} (h : Boxed W B t v) : W.cell? ⟨B, 0, none⟩ = some v := h.cell
theorem boxed_frozen {W : World} {B : Nat} {t : TypeId} {v : Value} (h : Boxed W B t v) : W.frozen? ⟨B, 0, none⟩ = false := h.frozen
theorem boxed_below {W W' : World} {B N : Nat} {t : TypeId} {v : Value} (h : Boxed W B t v) (k : Below N W W') (hN : B < N) : Boxed W' B t v := (k.block B hN).trans h
theorem own_of_below {α : Type} {z : Nat} {I : α → World → Prop} (hs : ∀ x A, I x A → z ≤ A.heap.size) (h : ∀ x A B, I x A → Below z A B → I x B) : OwnFrom z I := fun x X Y _ hi hg hr =>
  h x X Y hi ((Below.refl z X).grown hg (hs x X hi) (fun k e => (hr k e).1))
theorem below_drewN (z : Nat) (W : World) (q : Nat) : Below z W (W.drewN q) := ⟨rfl, rfl, rfl, Nat.le_refl _, fun _ _ => rfl⟩
/-- What a round over the cells holds on to. -/
structure GI (w : World) (s z b7 b8 k : Nat) (ds : List Nat) (xa : Option Addr) (n xc : Nat) (st : Int) (L pre : List Cl) (W : World) : Prop where
  bel : Below s w W
  sz : z ≤ W.heap.size
  q4 : Boxed W s 27 (.slice xa n xc)
  q5 : Boxed W (s + 1) 3 (.int .i64 st)
  q6 : Boxed W (s + 2) 4 (.bool false)
  q7 : Boxed W b7 3 (.int .i64 (k : Nat))
  q8 : Boxed W b8 3 (.int .i64 (pre.length : Nat))
  dq : ∀ D ∈ ds, s ≤ D ∧ D < b7 ∧ W.heap[D]? = some (.deferred (some []))
  pre : pre <+: L
structure GL (s z b7 b8 : Nat) : Prop where
  h0 : s + 3 ≤ b7
  h1 : b7 < b8
  h2 : b8 < z
section
variable {w W W' : World} {s z b7 b8 k : Nat} {ds : List Nat} {xa : Option Addr} {n xc : Nat} {st : Int} {L pre : List Cl}
theorem GI.below (h : GI w s z b7 b8 k ds xa n xc st L pre W) (hk : Below z W W') (hL : GL s z b7 b8) : GI w s z b7 b8 k ds xa n xc st L pre W' := by
  have h0 := hL.h0
  have h1 := hL.h1
  have h2 := hL.h2
  refine ⟨h.bel.trans (hk.mono (by omega)), Nat.le_trans h.sz hk.size, boxed_below h.q4 hk (by omega), boxed_below h.q5 hk (by omega), boxed_below h.q6 hk (by omega), boxed_below h.q7 hk (by omega), boxed_below h.q8 hk (by omega), fun D hD => ?_, h.pre⟩
  obtain ⟨e1, e2, e3⟩ := h.dq D hD
  exact ⟨e1, e2, (hk.block D (by omega)).trans e3⟩
theorem GI.step (h : GI w s z b7 b8 k ds xa n xc st L pre W) (hL : GL s z b7 b8) (c : Cl) {m : Nat} (hm : pre.length = m) (hp : pre ++ [c] <+: L) (q : Nat) : GI w s z b7 b8 k ds xa n xc st L (pre ++ [c]) ((W.drewN q).setCell ⟨b8, 0, none⟩ (.int .i64 ((m : Int) + 1))) := by
  have hd := h.below (below_drewN z W q) hL
  generalize W.drewN q = V at *
  have hb : Below b8 V (V.setCell ⟨b8, 0, none⟩ (.int .i64 ((m : Int) + 1))) := (Below.refl _ V).setCell (p := ⟨b8, 0, none⟩) (Nat.le_refl _) _
  have h0 := hL.h0
  have h1 := hL.h1
  refine ⟨hd.bel.trans (hb.mono (by omega)), Nat.le_trans hd.sz hb.size, boxed_below hd.q4 hb (by omega), boxed_below hd.q5 hb (by omega), boxed_below hd.q6 hb (by omega), boxed_below hd.q7 hb (by omega), ?_, fun D hD => ?_, hp⟩
  · rw [List.length_append, hm]
    exact Boxed.set (.int .i64 ((m : Int) + 1)) hd.q8
  · obtain ⟨e1, e2, e3⟩ := hd.dq D hD
    exact ⟨e1, e2, (hb.block D (by omega)).trans e3⟩
theorem GI.kp (hL : GL s z b7 b8) {ob : Nat → Prop} (hob : ∀ q, ob q → q < s) (M : Nat) (v : Value) (q : Nat) : KpM ob (z + 2) M W ((W.drewN q).setCell ⟨b8, 0, none⟩ v) := fun j hj => by
  have h0 := hL.h0
  have h1 := hL.h1
  have h2 := hL.h2
  exact Below.heap_setCell _ _ _ j (by
    show j ≠ b8
    rcases hj with hj | hj
    · have := hob j hj; omega
    · omega)
end
theorem keeps_set (W : World) (q : Nat) (p : Addr) (v : Value) (B : Nat) : KeepsFrom B W ((W.drewN q).setCell p v) :=
  (KeepsOthers.from (W := W) (⟨(KeepsOthers.setCell (W.drewN q) p v).size, fun k o ho hc => (KeepsOthers.setCell (W.drewN q) p v).same k o ho hc⟩ : KeepsOthers W ((W.drewN q).setCell p v)) B)
/-- Where the loop leaves: whole, or at a stop, or for a fault. -/
def GX (w : World) (s z b7 b8 k : Nat) (ds : List Nat) (xa : Option Addr) (n xc : Nat) (st : Int) (L : List Cl) (stops : Bool) (c : Code) (pre : List Cl) (W : World) : Prop :=
  (stops = true ∧ c = .exit 2 ∧ (pre.length : Int) = st ∧ GI w s z b7 b8 k ds xa n xc st L pre W) ∨ ¬ pre <+: L
theorem gi_own {w : World} {s z b7 b8 k : Nat} {ds : List Nat} {xa : Option Addr} {n xc : Nat} {st : Int} {L : List Cl} (hL : GL s z b7 b8) : OwnFrom z (fun pre W => GI w s z b7 b8 k ds xa n xc st L pre W) :=
  own_of_below (fun _ _ h => h.sz) (fun _ _ _ h k => h.below k hL)
theorem gx_own {w : World} {s z b7 b8 k : Nat} {ds : List Nat} {xa : Option Addr} {n xc : Nat} {st : Int} {L : List Cl} (hL : GL s z b7 b8) (stops : Bool) (c : Code) : OwnFrom z (fun pre W => GX w s z b7 b8 k ds xa n xc st L stops c pre W) := by
  rintro pre A B row (⟨h1, h2, h3, h4⟩ | h) hg hr
  · exact .inl ⟨h1, h2, h3, gi_own hL pre A B row h4 hg hr⟩
  · exact .inr h
/-- Two cells that are not the same. -/
theorem cne {c d : Cl} (h : c ≠ d) (W : World) : (binOp BinOp.neq 33 (.agg #[.string c.key, .int .u64 ((c.seq : Nat) : Int), .string c.val, .bool c.gone]) (.agg #[.string d.key, .int .u64 ((d.seq : Nat) : Int), .string d.val, .bool d.gone])).run Try.prog W = .ok (.bool true) W := by
  obtain ⟨ck, cs, cv, cg⟩ := c
  obtain ⟨dk, ds, dv, dg⟩ := d
  go_simp
  intro h1 h2 h3 h4
  refine h ?_
  have e : ∀ {a b : ByteArray}, a.toList = b.toList → a = b := fun {a b} q => by
    rw [ByteArray.toList_eq, ByteArray.toList_eq] at q
    exact ByteArray.ext (Array.toList_inj.1 q)
  rw [e h1, e h3, h4, Int.ofNat_inj.1 h2]
end Go.Proofs.Ytdgmjmohfpjlnaa
