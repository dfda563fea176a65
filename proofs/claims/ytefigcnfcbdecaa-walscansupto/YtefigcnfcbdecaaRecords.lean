/-
  The contract of records: it goes over a log's records, one by one.
-/
import Derived.Test.YtefigcnfcbdecaaNext
import Derived.Test.YtefigcnfcbdecaaRangeT
namespace Go.Proofs.Ytefigcnfcbdecaa
open Go.RowKit Go.Shelf
attribute [local go_sem] Oper.semAt_some
/-- A record, and where it ends. -/
abbrev Rec := List UInt8 × Nat
/-- The records from a place on, and how the log ends. -/
def recsR (l : List UInt8) : Nat → Nat → List Rec × Nat
  | 0, _ => ([], 0)
  | g + 1, at_ => match nextR l (l.length + 1) at_ false [] with
    | .inl e => ([], e)
    | .inr (rec, at') => ((rec, at') :: (recsR l g at').1, (recsR l g at').2)
def scanL (l : List UInt8) : List Rec × Nat := recsR l (l.length + 1) 0
theorem next_bounds {l : List UInt8} : ∀ {g at_ : Nat} {bg : Bool} {acc : List UInt8} {rec : List UInt8} {at' : Nat}, nextR l g at_ bg acc = .inr (rec, at') → at_ + 7 ≤ at' ∧ at' ≤ l.length
  | 0, _, _, _, _, _, h => by cases h
  | g + 1, at_, bg, acc, rec, at', h => by
    rw [nextR] at h
    cases hf : findL l at_ bg with
    | inl e => rw [hf] at h; cases h
    | inr f =>
      obtain ⟨k, s, n⟩ := f
      rw [hf] at h
      have hb := find_bounds hf
      dsimp only at h
      by_cases hk : k = 1 ∨ k = 4
      · rw [if_pos hk] at h
        simp only [Sum.inr.injEq, Prod.mk.injEq] at h
        omega
      · rw [if_neg hk] at h
        have := next_bounds h
        omega
def encR (r : Rec) : Array Value := #[.int .i64 (r.2 : Nat), .string ⟨r.1.toArray⟩]
/-- Where the walk through the log stands, when these have come. -/
def At (x : Nat) (a : Option Addr) (cap : Nat) (l : List UInt8) (pre : List Rec) (W : World) : Prop :=
  (∃ t g : Nat, pre ++ (recsR l g t).1 = (scanL l).1 ∧ (recsR l g t).2 = (scanL l).2 ∧ l.length < t + g ∧ t ≤ l.length ∧ (pre ≠ [] → ∃ r, pre.getLast? = some r ∧ r.2 = t) ∧ W.heap[x]? = some (.cells #[.slice a l.length cap, .int .i64 (t : Nat), .int .i64 0] 62 (0, 0))) ∧ BytesAt W a l
def End (x : Nat) (a : Option Addr) (cap : Nat) (l : List UInt8) (xs : List Rec) (W : World) : Prop :=
  xs = (scanL l).1 ∧ ∃ t : Nat, W.heap[x]? = some (.cells #[.slice a l.length cap, .int .i64 (t : Nat), .int .i64 ((scanL l).2 : Nat)] 62 (0, 0))
/-- What the walk may do to memory. -/
def Mv (x : Nat) (A B : World) : Prop := Kept x A B ∧ ∃ c f, A.heap[x]? = some (.cells c 62 f)
theorem Mv.others {x : Nat} {A B : World} (h : Mv x A B) : KeepsOthers A B := by
  obtain ⟨hk, c, f, hc⟩ := h
  refine ⟨hk.size, fun k o ho hn => (hk.block k (Array.getElem?_eq_some_iff.1 ho).1 (fun e => ?_)).trans ho⟩
  subst e
  rw [hc] at ho
  cases ho
  cases hn
theorem at_of_heap {x : Nat} {a : Option Addr} {cap : Nat} {l : List UInt8} {pre : List Rec} {W W' : World} (h : At x a cap l pre W) (hx : W'.heap[x]? = W.heap[x]?) (hb : BytesAt W' a l) : At x a cap l pre W' := by
  obtain ⟨⟨t, g, h1, h2, h3, h4, h5, h6⟩, _⟩ := h
  exact ⟨⟨t, g, h1, h2, h3, h4, h5, hx.trans h6⟩, hb⟩
theorem own_block {W W' : World} {row : Option Nat} {k : Nat} {c : Array Value} {t : TypeId} {f : Nat × Nat} {B : Nat} (h : W.heap[k]? = some (.cells c t f)) (hg : W.grownBy W' row) (hr : ∀ r, row = some r → B ≤ r ∧ ∃ o : Obj, W.heap[r]? = some o ∧ o.isCells = false) : W'.heap[k]? = W.heap[k]? := by
  refine hg.block k (Array.getElem?_eq_some_iff.1 h).1 (fun e => ?_)
  obtain ⟨_, o, ho, hn⟩ := hr k e.symm
  rw [h] at ho
  cases ho
  cases hn
theorem own_bytes {W W' : World} {row : Option Nat} {a : Option Addr} {l : List UInt8} {B : Nat} (h : BytesAt W a l) (hg : W.grownBy W' row) (hr : ∀ r, row = some r → B ≤ r ∧ ∃ o : Obj, W.heap[r]? = some o ∧ o.isCells = false) : BytesAt W' a l := by
  intro j c hj
  obtain ⟨b, off, ha, hb, hc⟩ := h j c hj
  refine ⟨b, off, ha, Nat.lt_of_lt_of_le hb hg.size, ?_⟩
  exact cell_kept hc hg (fun r e => (hr r e).2)
theorem at_own {x : Nat} {a : Option Addr} {cap : Nat} {l : List UInt8} (B : Nat) : OwnFrom B (At x a cap l) := fun s W W' row h hg hr => by
  obtain ⟨t, g, h1, h2, h3, h4, h5, h6⟩ := h.1
  exact at_of_heap h (own_block h6 hg hr) (own_bytes h.2 hg hr)
theorem end_own {x : Nat} {a : Option Addr} {cap : Nat} {l : List UInt8} (B : Nat) : OwnFrom B (End x a cap l) := fun s W W' row h hg hr => by
  obtain ⟨h1, t, h2⟩ := h
  exact ⟨h1, t, (own_block h2 hg hr).trans h2⟩
theorem wide_next {x : Nat} {a : Option Addr} {cap : Nat} {l : List UInt8} (hN : l.length ≤ 140737488355328) (hcap : l.length ≤ cap) (hc0 : a = none → cap = 0) (hsp : ∀ ad, a = some ad → ad.spot = none ∨ cap = 0) (hne : l ≠ [] → ∀ ad, a = some ad → ad.block ≠ x) (W : World) (t : Nat) (ht : t ≤ l.length) (hx : W.heap[x]? = some (.cells #[.slice a l.length cap, .int .i64 (t : Nat), .int .i64 0] 62 (0, 0))) (hb : BytesAt W a l) :
    Calls Try.prog 34 #[.pointer (some ⟨x, 0, none⟩)] W fun r w' => Kept x W w' ∧ NTold x (.slice a l.length cap) 0 w' r (nextR l (l.length + 1) t false []) := next_any x a cap l t 0 W hx hb hne ht hN hcap hc0 hsp
/-- Where the walk stands, read off memory. -/
def atW (x : Nat) (W : World) : Nat := match W.cell? ⟨x, 1, none⟩ with
  | some v => (intOf v).toNat
  | none => 0
theorem atW_of {x : Nat} {W : World} {v z : Value} {t : Nat} (h : W.heap[x]? = some (.cells #[v, .int .i64 (t : Nat), z] 62 (0, 0))) : atW x W = t := by
  have := cells_of_block h 1
  simp only [List.getElem?_toArray, List.getElem?_cons_zero, List.getElem?_cons_succ] at this
  rw [atW, this]
  simp [intOf]
set_option maxRecDepth 100000 in
set_option maxHeartbeats 4000000 in
theorem records_seq (n : Nat) (hn : 1 ≤ n) (x : Nat) (a : Option Addr) (cap : Nat) (l : List UInt8) (hN : l.length ≤ 140737488355328) (hcap : l.length ≤ cap) (hc0 : a = none → cap = 0) (hsp : ∀ ad, a = some ad → ad.spot = none ∨ cap = 0) (hne : l ≠ [] → ∀ ad, a = some ad → ad.block ≠ x) :
    SeqT Fence.wide n Try.prog 25 #[.pointer (some ⟨x, 0, none⟩)] #[] encR (Mv x) (At x a cap l) (End x a cap l) (fun pre => ∃ rest, pre ++ rest = (scanL l).1) (scanL l).1.length := fun lp J Jx W hJ hJx hY h0 hT0 => by
  have HNX : Hid _ := wide_next hN hcap hc0 hsp hne
  refine callsIn_of_wp Try.func25 rfl trivial ?_ rfl
  refine wpIn_wide.2 ?_
  simp only [Try.ntmps25, List.size_toArray, List.length_cons, List.length_nil, Nat.reduceAdd, Nat.reduceSub, Array.replicate_succ, Array.replicate_zero, List.push_toArray, List.append_toArray, List.nil_append, List.cons_append]
  have HNE : Hid _ := hne
  clear hcap hc0 hsp hne
  refine (wpIn_wide (n := n)).1 ?_
  gi_wp2
  gi_loopw [4] (fun _ wr => ∃ pre, J pre wr ∧ At x a cap l pre wr) (fun _ wr => l.length - atW x wr)
  case atStart => exact ⟨[], h0, hT0⟩
  case round =>
    obtain ⟨pre, hJp, hA⟩ := hrel
    obtain ⟨⟨t, g, h1, h2, h3, h4, h5, h6⟩, hb⟩ := hA
    obtain ⟨g', rfl⟩ : ∃ g', g = g' + 1 := ⟨g - 1, by omega⟩
    have HM : Hid (atW x wr = t) := atW_of h6
    have HC := HNX.out wr t h4 h6 hb
    cases hnx : nextR l (l.length + 1) t false [] with
    | inl e =>
      rw [hnx] at HC
      have HE : Hid (pre = (scanL l).1 ∧ e = (scanL l).2) := by
        rw [recsR, hnx] at h1 h2
        exact ⟨by simpa using h1, h2⟩
      have HC' : Hid _ := HC
      clear hnx HC h1 h2
      gi_wp2
      refine ⟨trivial, (callsIn_wide.2 HC'.out).mono ?_⟩
      rintro r w1 ⟨hk1, rfl, t1, hx1⟩
      have HJ1 : Hid (J pre w1) := hJ pre wr w1 hJp ⟨hk1, _, _, h6⟩
      gi_wp2
      refine ⟨fun f e => (by cases e), ?_⟩
      gi_wp2
      refine bodyPost_ret (results_none rfl _ _ _) rfl ?_
      refine ⟨⟨_, rfl⟩, .inl ⟨pre, ⟨HE.out.1, t1, ?_⟩, HJ1.out⟩⟩
      rw [← HE.out.2]
      exact hx1
    | inr f =>
      obtain ⟨rec, t'⟩ := f
      rw [hnx] at HC
      have hbd := next_bounds hnx
      have HE : Hid ((pre ++ [(rec, t')]) ++ (recsR l g' t').1 = (scanL l).1 ∧ (recsR l g' t').2 = (scanL l).2) := by
        rw [recsR, hnx] at h1 h2
        exact ⟨by simpa using h1, h2⟩
      have HC' : Hid _ := HC
      clear hnx HC h1 h2
      gi_wp2
      refine ⟨trivial, (callsIn_wide.2 HC'.out).mono ?_⟩
      rintro r w1 ⟨hk1, rfl, hx1⟩
      have hJ1 : J pre w1 := hJ pre wr w1 hJp ⟨hk1, _, _, h6⟩
      have hA1 : At x a cap l (pre ++ [(rec, t')]) w1 := ⟨⟨t', g', HE.out.1, HE.out.2, by omega, hbd.2, fun _ => ⟨(rec, t'), by simp, rfl⟩, hx1⟩, hb.kept HNE.out hk1⟩
      have hlen : pre.length < (scanL l).1.length := by rw [← HE.out.1]; simp
      have HM1 : Hid (atW x w1 = t') := atW_of hx1
      obtain ⟨fn, tmps, assign, body, hy, hR⟩ := hY pre (rec, t') w1 hJ1 hA1 hlen
      have c1 := cells_of_block hx1 1
      simp only [List.getElem?_toArray, List.getElem?_cons_zero, List.getElem?_cons_succ] at c1
      simp only [encR] at hy
      clear hx1 hJ1 hA1 hk1
      gi_wp2
      refine hR.mono ?_
      rintro e W3 (⟨rfl, hJ3, hT3⟩ | ⟨rfl, hJx3⟩)
      · have HM3 : Hid (atW x W3 = t') := by
          obtain ⟨⟨t3, g3, _, _, _, _, k5, k6⟩, _⟩ := hT3
          obtain ⟨r3, e3, e4⟩ := k5 (by simp)
          simp at e3
          rw [Hid, atW_of k6, ← e4, ← e3]
        gi_wp2
        go_roundw
        case rel => exact ⟨_, hJ3, hT3⟩
        case measure => rw [HM3.out, HM.out]; omega
      · gi_wp2
        refine bodyPost_ret (results_none rfl _ _ _) rfl ?_
        exact ⟨⟨_, rfl⟩, .inr ⟨_, ⟨_, HE.out.1⟩, hJx3⟩⟩
end Go.Proofs.Ytefigcnfcbdecaa
