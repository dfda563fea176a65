/-
  keys goes over the versions of each key.
-/
import Derived.Test.YtohamjoiohfoiaaFind
import Derived.Test.YtohamjoiohfoiaaRangeK
import Derived.RangeFuncNested
import Derived.RangeFuncBound
import Derived.RangeFuncCalls
import Derived.RangeFuncLeaves
import Derived.OwnWalkIn
import Derived.TacticsInMore
import Derived.LoopNIn
import Derived.LoopIn
namespace Go.Proofs.Ytohamjoiohfoiaa
open Go.RowKit
attribute [local go_sem] Oper.semAt_some
theorem wide_yield {m : Nat} (m' : Nat) {l : Nat} {args : Array Value} {W : World} {R : Ending → World → Prop} (h : YieldAt Fence.wide m Try.prog l args W R) : YieldAt Fence.wide m' Try.prog l args W R := by
  obtain ⟨fn, tmps, assign, body, hy, hR⟩ := h
  exact ⟨fn, tmps, assign, body, hy, hR.1, fun c cs _ => hR.2 c cs (room_wide _)⟩
/-- Where each key's versions begin, and how many they are, from a place on. -/
def grps (l : List Cl) : Nat → Nat → List (Nat × Nat)
  | 0, _ => []
  | g + 1, k => if k < l.length then (k, runN (l.drop k)) :: grps l g (k + runN (l.drop k)) else []
def allG (l : List Cl) : List (Nat × Nat) := if sortedC l then grps l (l.length + 1) 0 else []
/-- A variable of the walk: it holds a part of the list. -/
def BoxOf (ob : Option Nat) (o : Obj) : Prop := ∃ bl off m c f, ob = some bl ∧ o = .cells #[.slice (some ⟨bl, off, none⟩) m c] 25 f
/-- What the walk may do to memory. -/
structure RkC (z : Nat) (ob : Option Nat) (A B : World) : Prop where
  os : B.os = A.os
  tape : B.tape = A.tape
  output : B.output = A.output
  size : A.heap.size ≤ B.heap.size
  block : ∀ (k : Nat) (o : Obj), A.heap[k]? = some o → k < z ∨ ¬ BoxOf ob o → B.heap[k]? = some o
/-- What each round keeps. -/
structure KcC (ob : Option Nat) (A B : World) : Prop where
  size : A.heap.size ≤ B.heap.size
  lst : ∀ bl (o : Obj), ob = some bl → A.heap[bl]? = some o → o.isCells = true → B.heap[bl]? = some o
  box : ∀ (k : Nat) (o : Obj), A.heap[k]? = some o → BoxOf ob o → B.heap[k]? = some o
theorem RkC.of_below {z : Nat} {ob : Option Nat} {A B : World} (h : Below A.heap.size A B) : RkC z ob A B := ⟨h.os, h.tape, h.output, h.size, fun k _ ho _ => (h.block k (Array.getElem?_eq_some_iff.1 ho).1).trans ho⟩
theorem RkC.trans {z : Nat} {ob : Option Nat} {A B C : World} (h : RkC z ob A B) (k : RkC z ob B C) : RkC z ob A C := ⟨k.os.trans h.os, k.tape.trans h.tape, k.output.trans h.output, Nat.le_trans h.size k.size, fun j o ho hn => k.block j o (h.block j o ho hn) hn⟩
theorem RkC.others {z : Nat} {ob : Option Nat} {A B : World} (h : RkC z ob A B) : KeepsOthers A B := ⟨h.size, fun k o ho hc => h.block k o ho (Or.inr (fun ⟨_, _, _, _, _, _, e⟩ => by rw [e] at hc; cases hc))⟩
theorem RkC.set {z : Nat} {ob : Option Nat} {x : Nat} {A : World} {o : Obj} (v : Value) (hx : A.heap[x]? = some o) (hb : BoxOf ob o) (hz : z ≤ x) : RkC z ob A (A.setCell ⟨x, 0, none⟩ v) := ⟨rfl, rfl, rfl, (KeepsWalks.setCell A _ v).size, fun k o' ho hn => (Below.heap_setCell _ _ _ k (fun e => by
  have e' : k = x := e
  rw [e', hx] at ho
  cases ho
  rcases hn with hn | hn
  · omega
  · exact hn hb)).trans ho⟩
theorem KcC.trans {ob : Option Nat} {A B C : World} (h : KcC ob A B) (k : KcC ob B C) : KcC ob A C := ⟨Nat.le_trans h.size k.size, fun bl o e ho hc => k.lst bl o e (h.lst bl o e ho hc) hc, fun j o ho hb => k.box j o (h.box j o ho hb) hb⟩
theorem KcC.put {ob : Option Nat} (A : World) (l : Nat) (o o' : Obj) (h : A.heap[l]? = some o) (ho : o.isCells = false) : KcC ob A (A.putObj l o') := by
  have ne : ∀ (k : Nat) (q : Obj), A.heap[k]? = some q → q.isCells = true → (A.putObj l o').heap[k]? = some q := fun k q hq hc => (World.putObj_heap_other (fun e => by
    rw [e, h] at hq
    cases hq
    rw [ho] at hc
    cases hc)).trans hq
  exact ⟨by simp, fun bl q _ hq hc => ne bl q hq hc, fun k q hq ⟨_, _, _, _, _, _, e⟩ => ne k q hq (by rw [e]; rfl)⟩
theorem CA.drop {B : Nat} {w : World} {b off : Nat} {l : List Cl} (h : CA B w (some ⟨b, off, none⟩) l) (k : Nat) : CA B w (some ⟨b, off + k * 4, none⟩) (l.drop k) := by
  intro j c hj
  rw [List.getElem?_drop] at hj
  obtain ⟨b', off', e, hb, h0, h1, h2, h3⟩ := h (k + j) c hj
  cases e
  have ea : off + (k + j) * 4 = off + k * 4 + j * 4 := by omega
  rw [ea] at h0 h1 h2 h3
  exact ⟨b, off + k * 4, rfl, hb, h0, h1, h2, h3⟩
theorem CA.not_box {B : Nat} {w : World} {b off : Nat} {l : List Cl} (h : CA B w (some ⟨b, off, none⟩) l) (hl : l ≠ []) : (∃ c t f, w.heap[b]? = some (.cells c t f)) ∧ ∀ o ob, w.heap[b]? = some o → ¬ BoxOf ob o := by
  cases l with
  | nil => exact absurd rfl hl
  | cons x l =>
    obtain ⟨b', off', e, hb, h0, _⟩ := h 0 x rfl
    cases e
    refine ⟨?_, ?_⟩
    · simp only [World.cell?] at h0
      cases ho : w.heap[b]? with
      | none => rw [ho] at h0; simp at h0
      | some o =>
        rw [ho] at h0
        cases o <;> simp at h0
        exact ⟨_, _, _, rfl⟩
    · rintro o ob ho ⟨b1, o1, m, c, f, _, rfl⟩
      have := cells_of_block ho (off + 0 * 4)
      rw [h0] at this
      cases hk : off + 0 * 4 with
      | zero => rw [hk] at this; simp at this
      | succ k => rw [hk] at this; simp at this
/-- What a variable of the walk leads to, read off memory. -/
def leftW (s : Value) (W : World) : Nat := match s with
  | .pointer (some a) => match W.cell? a with
    | some (.slice _ n _) => n
    | _ => 0
  | _ => 0
theorem leftW_of {x : Nat} {W : World} {a : Option Addr} {n c : Nat} {t : TypeId} {f : Nat × Nat} (h : W.heap[x]? = some (.cells #[.slice a n c] t f)) : leftW (.pointer (some ⟨x, 0, none⟩)) W = n := by
  have := cells_of_block h 0
  simp only [List.getElem?_toArray, List.getElem?_cons_zero] at this
  simp [leftW, this]
theorem grps_le (l : List Cl) : ∀ g k, ∀ y ∈ grps l g k, y.1 + y.2 ≤ l.length ∧ 1 ≤ y.2
  | 0, k, y, h => by simp [grps] at h
  | g + 1, k, y, h => by
    rw [grps] at h
    split at h
    · rename_i hk
      rcases List.mem_cons.1 h with rfl | h
      · have h1 := runN_le (l.drop k)
        have h2 := runN_pos (l := l.drop k) (by intro e; have := congrArg List.length e; simp at this; omega)
        simp at h1
        exact ⟨by show k + runN (l.drop k) ≤ _; omega, h2⟩
      · exact grps_le l g _ y h
    · simp at h
def encG (bl off : Nat) (y : Nat × Nat) : Array Value := #[.slice (some ⟨bl, off + y.1 * 4, none⟩) y.2 y.2]
/-- The walk stands at place k, when these have come. -/
structure AtK (z bl off m cp : Nat) (l : List Cl) (pre : List (Nat × Nat)) (x k : Nat) (W : World) : Prop where
  box : ∃ o, W.heap[x]? = some (.cells #[.slice (some ⟨bl, o, none⟩) (m - k) (cp - k)] 25 (0, 0)) ∧ (k < m → o = off + k * 4)
  ca : CA W.heap.size W (some ⟨bl, off, none⟩) l
  gr : ∃ g, pre ++ grps l g k = grps l (l.length + 1) 0 ∧ m < k + g
  km : k ≤ m
  zx : z ≤ x
theorem CA.rk {bl off : Nat} {A B : World} {l : List Cl} (h : CA A.heap.size A (some ⟨bl, off, none⟩) l) (hk : B.heap[bl]? = A.heap[bl]?) (hs : A.heap.size ≤ B.heap.size) : CA B.heap.size B (some ⟨bl, off, none⟩) l := by
  intro j c hj
  obtain ⟨b', off', e, hb, h0, h1, h2, h3⟩ := h j c hj
  cases e
  refine ⟨bl, off, rfl, by omega, ?_, ?_, ?_, ?_⟩ <;> (simp only [World.cell?] at h0 h1 h2 h3 ⊢; rw [hk]; assumption)
/-- The next place, in a variable of its own. -/
theorem step_at {z bl off m cp q ec x k r o o' : Nat} {l : List Cl} {pre : List (Nat × Nat)} {W3 : World} (hbox : W3.heap[x]? = some (.cells #[.slice (some ⟨bl, o, none⟩) q ec] 25 (0, 0))) (hca : CA W3.heap.size W3 (some ⟨bl, off, none⟩) l) (hne : l ≠ []) (hq : m - k = q ∧ cp - k = ec)
    (hg : ∃ g, pre ++ (k, r) :: grps l g (k + r) = grps l (l.length + 1) 0 ∧ m < k + r + g) (hkr : k + r ≤ m) (ho : k + r < m → o' = off + (k + r) * 4) (hzx : z ≤ x) (hzW : z ≤ W3.heap.size) :
    RkC z (some bl) W3 ((W3.setCell ⟨x, 0, none⟩ (.slice (some ⟨bl, o', none⟩) (q - r) (ec - r))).alloc (.cells #[.slice (some ⟨bl, o', none⟩) (q - r) (ec - r)] 25)) ∧ AtK z bl off m cp l (pre ++ [(k, r)]) W3.heap.size (k + r) ((W3.setCell ⟨x, 0, none⟩ (.slice (some ⟨bl, o', none⟩) (q - r) (ec - r))).alloc (.cells #[.slice (some ⟨bl, o', none⟩) (q - r) (ec - r)] 25)) := by
  have r1 : RkC z (some bl) W3 (W3.setCell ⟨x, 0, none⟩ (.slice (some ⟨bl, o', none⟩) (q - r) (ec - r))) := RkC.set _ hbox ⟨_, _, _, _, _, rfl, rfl⟩ hzx
  have hs : (W3.setCell ⟨x, 0, none⟩ (.slice (some ⟨bl, o', none⟩) (q - r) (ec - r))).heap.size = W3.heap.size := by simp [World.setCell]
  have r2 : RkC z (some bl) W3 ((W3.setCell ⟨x, 0, none⟩ (.slice (some ⟨bl, o', none⟩) (q - r) (ec - r))).alloc (.cells #[.slice (some ⟨bl, o', none⟩) (q - r) (ec - r)] 25)) := r1.trans (RkC.of_below ((Below.refl _ _).alloc (Nat.le_refl _) _))
  refine ⟨r2, ⟨⟨o', ?_, ho⟩, ?_, ?_, hkr, hzW⟩⟩
  · have := World.alloc_heap_new (W3.setCell ⟨x, 0, none⟩ (.slice (some ⟨bl, o', none⟩) (q - r) (ec - r))) (.cells #[.slice (some ⟨bl, o', none⟩) (q - r) (ec - r)] 25)
    rw [hs] at this
    rw [this]
    have e1 : q - r = m - (k + r) := by omega
    have e2 : ec - r = cp - (k + r) := by omega
    rw [e1, e2]
  · obtain ⟨⟨c, t, f, hb⟩, hn⟩ := hca.not_box hne
    exact CA.rk hca ((r2.block bl _ hb (Or.inr (hn _ (some bl) hb))).trans hb.symm) r2.size
  · obtain ⟨g, g1, g2⟩ := hg
    exact ⟨g, by rw [List.append_assoc]; exact g1, g2⟩
set_option maxRecDepth 100000 in
set_option maxHeartbeats 8000000 in
theorem keys1_some (z n : Nat) (hn : 2 ≤ n) (c0 bl off m cp : Nat) (l : List Cl) (W : World) (hc0 : W.cell? ⟨c0, 0, none⟩ = some (.slice (some ⟨bl, off, none⟩) m cp)) (hca : CA W.heap.size W (some ⟨bl, off, none⟩) l) (hl : l.length = m) (hne : l ≠ []) (hm : m ≤ cp) (hmx : m < 1000000000000000) (hs : sortedC l = true) (hzz : z ≤ W.heap.size) :
    SeqK Fence.wide n Try.prog 39 #[] #[.pointer (some ⟨c0, 0, none⟩)] (encG bl off) (RkC z (some bl)) (KcC (some bl)) (fun pre y => ∃ rest, pre ++ y :: rest = grps l (l.length + 1) 0) (fun xs => xs = grps l (l.length + 1) 0) (fun pre => ∃ rest, pre ++ rest = grps l (l.length + 1) 0) W := fun lp J Jx hJ hJx hY h0 => by
  have HSO : Hid (Calls Try.prog 12 #[.slice (some ⟨bl, off, none⟩) m cp] W fun r w' => r = .returned (.bool true) ∧ Below W.heap.size W w') := by
    have := sorted_any W.heap.size m cp (some ⟨bl, off, none⟩) l W hca hl (Nat.le_refl _) hmx
    rw [hs] at this
    exact this
  have HIX : Hid (∀ (w : World) k o x, k < m → w.cell? ⟨x, 0, none⟩ = some (.slice (some ⟨bl, o, none⟩) (m - k) (cp - k)) → o = off + k * 4 → CA w.heap.size w (some ⟨bl, off, none⟩) l → Calls Try.prog 40 #[.slice (some ⟨bl, o, none⟩) (m - k) (cp - k), .func (.func 41) #[] #[.pointer (some ⟨x, 0, none⟩)]] w fun r w' => r = .returned (.int .i64 (idxR (l.drop k) (m - k))) ∧ Below w.heap.size w w') := fun w k o x hk hx ho hc => by
    subst ho
    have hlt : k < l.length := by omega
    obtain ⟨c, hc1⟩ : ∃ c, l[k]? = some c := ⟨l[k], List.getElem?_eq_getElem hlt⟩
    exact index_any bl (off + k * 4) (m - k) (cp - k) x c (l.drop k) w hx (hc.drop k) (by simp; omega) (by rw [List.getElem?_drop]; simpa using hc1) (by omega)
  have HCA : Hid (CA W.heap.size W (some ⟨bl, off, none⟩) l) := hca
  have HNE : Hid (l ≠ []) := hne
  have HLN : Hid (l.length = m) := hl
  have HY : Hid _ := hY
  have HJ : Hid _ := hJ
  have HJX : Hid _ := hJx
  have H0 : Hid (J [] W) := h0
  clear hca hne hl hs hY hJ hJx h0
  refine callsIn_of_wp Try.func39 rfl trivial ?_ rfl
  refine wpIn_wide.2 ?_
  simp only [Try.ntmps39, List.size_toArray, List.length_cons, List.length_nil, Nat.reduceAdd, Nat.reduceSub, Array.replicate_succ, Array.replicate_zero, List.push_toArray, List.append_toArray, List.nil_append, List.cons_append]
  refine (wpIn_wide (n := n)).1 ?_
  gi_wp2
  refine ⟨trivial, fun _ => by omega, (callsIn_wide.2 HSO.out).mono ?_⟩
  rintro r w1 ⟨rfl, b1⟩
  have c1 : w1.cell? ⟨c0, 0, none⟩ = some (.slice (some ⟨bl, off, none⟩) m cp) := (b1.cell (p := ⟨c0, 0, none⟩) (World.block_lt_of_cell? W _ hc0)).trans hc0
  have HB1 : Hid (Below W.heap.size W w1) := b1
  clear b1 hc0 HSO
  gi_wp2
  have HST : Hid (J [] (w1.alloc (.cells #[.slice (some ⟨bl, off, none⟩) m cp] 25)) ∧ AtK z bl off m cp l [] w1.heap.size 0 (w1.alloc (.cells #[.slice (some ⟨bl, off, none⟩) m cp] 25))) := by
    have bw : Below W.heap.size W (w1.alloc (.cells #[.slice (some ⟨bl, off, none⟩) m cp] 25)) := HB1.out.alloc HB1.out.size _
    refine ⟨HJ.out _ _ _ H0.out (RkC.of_below bw), ⟨⟨off, World.alloc_heap_new _ _, fun _ => by omega⟩, (CA.below HCA.out (fun b hb => bw.block b hb)).up bw.size, ⟨l.length + 1, rfl, by have := HLN.out; omega⟩, Nat.zero_le _, by have := HB1.out.size; omega⟩⟩
  gi_loopw [3] (fun s wr => ∃ pre x k, s = .pointer (some ⟨x, 0, none⟩) ∧ J pre wr ∧ AtK z bl off m cp l pre x k wr) (fun s wr => leftW s wr)
  case atStart => exact ⟨[], _, 0, rfl, HST.out⟩
  case round =>
    clear HST
    obtain ⟨pre, x, k, rfl, hJp, hA⟩ := hrel
    obtain ⟨o, hbx, ho⟩ := hA.box
    have cx : wr.cell? ⟨x, 0, none⟩ = some (.slice (some ⟨bl, o, none⟩) (m - k) (cp - k)) := by have := cells_of_block hbx 0; simpa using this
    have HM : Hid (leftW (.pointer (some ⟨x, 0, none⟩)) wr = m - k) := leftW_of hbx
    have hkm := hA.km
    by_cases hk : k < m
    · have ho' := ho hk
      obtain ⟨r, hr⟩ : ∃ r, runN (l.drop k) = r := ⟨_, rfl⟩
      have hr1 : 1 ≤ r := by rw [← hr]; exact runN_pos (by intro e; have := congrArg List.length e; simp at this; have := HLN.out; omega)
      have hr2 : r ≤ m - k := by have := runN_le (l.drop k); simp at this; have := HLN.out; omega
      have HC := HIX.out wr k o x hk cx ho' hA.ca
      have HPR : Hid (∃ g, pre ++ (k, r) :: grps l g (k + r) = grps l (l.length + 1) 0 ∧ m < k + r + g) := by
        obtain ⟨g, g1, g2⟩ := hA.gr
        obtain ⟨g', rfl⟩ : ∃ g', g = g' + 1 := ⟨g - 1, by omega⟩
        rw [grps, if_pos (by have := HLN.out; omega), hr] at g1
        exact ⟨g', g1, by omega⟩
      obtain ⟨q, hq⟩ : ∃ q, m - k = q := ⟨_, rfl⟩
      obtain ⟨ec, hec⟩ : ∃ ec, cp - k = ec := ⟨_, rfl⟩
      have HHQ : Hid (m - k = q ∧ cp - k = ec) := ⟨hq, hec⟩
      have hqe : q ≤ ec := by omega
      have hrq : r ≤ q := by omega
      have hqx : q < 1000000000000000 := by omega
      rw [hq, hec] at cx HC
      rw [hq] at HM
      have HWR : Hid (J pre wr ∧ AtK z bl off m cp l pre x k wr) := ⟨hJp, hA⟩
      have HHR : Hid (runN (l.drop k) = r) := hr
      have HOO : Hid (o = off + k * 4) := ho'
      clear hq hec hr hr2 hJp hA hbx ho ho'
      by_cases hrn : r < q
      · have HC2 : Hid (Calls Try.prog 40 #[.slice (some ⟨bl, o, none⟩) q ec, .func (.func 41) #[] #[.pointer (some ⟨x, 0, none⟩)]] wr fun r2 w' => r2 = .returned (.int .i64 (r : Nat)) ∧ Below wr.heap.size wr w') := by
          rw [idxR, HHR.out, if_pos hrn] at HC
          exact HC
        clear HC
        gi_wp2
        refine ⟨trivial, fun _ => by omega, (callsIn_wide.2 HC2.out).mono ?_⟩
        rintro e w2 ⟨rfl, b2⟩
        have cx2 : w2.cell? ⟨x, 0, none⟩ = some (.slice (some ⟨bl, o, none⟩) q ec) := (b2.cell (p := ⟨x, 0, none⟩) (World.block_lt_of_cell? wr _ cx)).trans cx
        have HB2 : Hid (Below wr.heap.size wr w2) := b2
        clear b2 HC2 cx
        have hY2 : YieldAt Fence.wide (n - 1) Try.prog lp #[.slice (some ⟨bl, o, none⟩) r r] w2 fun e W' => (e = .returned (.bool true) ∧ J (pre ++ [(k, r)]) W' ∧ KcC (some bl) w2 W') ∨ (e = .returned (.bool false) ∧ Jx (pre ++ [(k, r)]) W') := by
          obtain ⟨g, g1, _⟩ := HPR.out
          have := HY.out pre (k, r) w2 (HJ.out _ _ _ HWR.out.1 (RkC.of_below HB2.out)) ⟨_, g1⟩
          rw [encG, ← HOO.out] at this
          exact this
        obtain ⟨fn, tmps, assign, body, hy, hR⟩ := hY2
        have HN3 : Hid (∀ W3, KcC (some bl) w2 W3 → W3.heap[x]? = some (.cells #[.slice (some ⟨bl, o, none⟩) q ec] 25 (0, 0)) ∧ CA W3.heap.size W3 (some ⟨bl, off, none⟩) l) := fun W3 k3 => by
          obtain ⟨o2, hb2, _⟩ := HWR.out.2.box
          have hb3 := (HB2.out.block x (Array.getElem?_eq_some_iff.1 hb2).1).trans hb2
          have hx3 := k3.box x _ hb3 ⟨_, _, _, _, _, rfl, rfl⟩
          have ca2 : CA w2.heap.size w2 (some ⟨bl, off, none⟩) l := (CA.below HWR.out.2.ca (fun b hb => HB2.out.block b hb)).up HB2.out.size
          obtain ⟨⟨cc, tt, ff, hbb⟩, _⟩ := ca2.not_box HNE.out
          refine ⟨?_, CA.rk ca2 ((k3.lst bl _ rfl hbb rfl).trans hbb.symm) k3.size⟩
          have c3 := cells_of_block hb3 0
          simp only [List.getElem?_toArray, List.getElem?_cons_zero] at c3
          rw [cx2] at c3
          simp only [Option.some.injEq, Value.slice.injEq] at c3
          rw [hx3, c3.1, c3.2.1, c3.2.2]
        have hd : decide ((r : Int) < 0) = false := decide_eq_false (by omega)
        gi_wp2
        refine ⟨fun _ => by omega, hR.mono ?_⟩
        clear hR hy
        rintro e W3 (⟨rfl, hJ3, hK3⟩ | ⟨rfl, hJx3⟩)
        · obtain ⟨hb3, ca3⟩ := HN3.out W3 hK3
          have cx3 : W3.cell? ⟨x, 0, none⟩ = some (.slice (some ⟨bl, o, none⟩) q ec) := by have := cells_of_block hb3 0; simpa using this
          have fx3 : W3.frozen? ⟨x, 0, none⟩ = false := by simp [World.frozen?, hb3]
          have HX3 : Hid (W3.heap[x]? = some (.cells #[.slice (some ⟨bl, o, none⟩) q ec] 25 (0, 0)) ∧ CA W3.heap.size W3 (some ⟨bl, off, none⟩) l ∧ J (pre ++ [(k, r)]) W3) := ⟨hb3, ca3, hJ3⟩
          have HZ3 : Hid (z ≤ x ∧ z ≤ W3.heap.size) := ⟨HWR.out.2.zx, by have := HWR.out.2.zx; have := (Array.getElem?_eq_some_iff.1 hb3).1; omega⟩
          clear hb3 ca3 hJ3 hK3 HN3
          have hre : ¬ ec = r := by omega
          gi_wp2
          have HF := step_at (o' := o + r * 4) (r := r) HX3.out.1 HX3.out.2.1 HNE.out HHQ.out HPR.out (by have := HHQ.out; omega) (fun hlt => by rw [HOO.out]; omega) HZ3.out.1 HZ3.out.2
          exact ⟨⟨_, _, _, rfl, HJ.out _ _ _ HX3.out.2.2 HF.1, HF.2⟩, by
            obtain ⟨o3, hb, _⟩ := HF.2.box
            rw [leftW_of hb, HM.out]
            have := HHQ.out
            omega⟩
        · gi_wp2
          refine bodyPost_ret (results_none rfl _ _ _) rfl ?_
          obtain ⟨g, g1, _⟩ := HPR.out
          exact ⟨⟨_, rfl⟩, .inr ⟨_, ⟨_, by rw [List.append_assoc]; exact g1⟩, hJx3⟩⟩
      · obtain rfl : q = r := by omega
        have HC2 : Hid (Calls Try.prog 40 #[.slice (some ⟨bl, o, none⟩) q ec, .func (.func 41) #[] #[.pointer (some ⟨x, 0, none⟩)]] wr fun r2 w' => r2 = .returned (.int .i64 (-1)) ∧ Below wr.heap.size wr w') := by
          rw [idxR, HHR.out, if_neg hrn] at HC
          exact HC
        clear HC
        gi_wp2
        refine ⟨trivial, fun _ => by omega, (callsIn_wide.2 HC2.out).mono ?_⟩
        rintro e w2 ⟨rfl, b2⟩
        have cx2 : w2.cell? ⟨x, 0, none⟩ = some (.slice (some ⟨bl, o, none⟩) q ec) := (b2.cell (p := ⟨x, 0, none⟩) (World.block_lt_of_cell? wr _ cx)).trans cx
        have HB2 : Hid (Below wr.heap.size wr w2) := b2
        clear b2 HC2 cx
        have hY2 : YieldAt Fence.wide (n - 1) Try.prog lp #[.slice (some ⟨bl, o, none⟩) q q] w2 fun e W' => (e = .returned (.bool true) ∧ J (pre ++ [(k, q)]) W' ∧ KcC (some bl) w2 W') ∨ (e = .returned (.bool false) ∧ Jx (pre ++ [(k, q)]) W') := by
          obtain ⟨g, g1, _⟩ := HPR.out
          have := HY.out pre (k, q) w2 (HJ.out _ _ _ HWR.out.1 (RkC.of_below HB2.out)) ⟨_, g1⟩
          rw [encG, ← HOO.out] at this
          exact this
        obtain ⟨fn, tmps, assign, body, hy, hR⟩ := hY2
        have HN3 : Hid (∀ W3, KcC (some bl) w2 W3 → W3.heap[x]? = some (.cells #[.slice (some ⟨bl, o, none⟩) q ec] 25 (0, 0)) ∧ CA W3.heap.size W3 (some ⟨bl, off, none⟩) l) := fun W3 k3 => by
          obtain ⟨o2, hb2, _⟩ := HWR.out.2.box
          have hb3 := (HB2.out.block x (Array.getElem?_eq_some_iff.1 hb2).1).trans hb2
          have hx3 := k3.box x _ hb3 ⟨_, _, _, _, _, rfl, rfl⟩
          have ca2 : CA w2.heap.size w2 (some ⟨bl, off, none⟩) l := (CA.below HWR.out.2.ca (fun b hb => HB2.out.block b hb)).up HB2.out.size
          obtain ⟨⟨cc, tt, ff, hbb⟩, _⟩ := ca2.not_box HNE.out
          refine ⟨?_, CA.rk ca2 ((k3.lst bl _ rfl hbb rfl).trans hbb.symm) k3.size⟩
          have c3 := cells_of_block hb3 0
          simp only [List.getElem?_toArray, List.getElem?_cons_zero] at c3
          rw [cx2] at c3
          simp only [Option.some.injEq, Value.slice.injEq] at c3
          rw [hx3, c3.1, c3.2.1, c3.2.2]
        have hd : decide ((q : Int) < 0) = false := decide_eq_false (by omega)
        gi_wp2
        refine ⟨fun _ => by omega, hR.mono ?_⟩
        clear hR hy
        rintro e W3 (⟨rfl, hJ3, hK3⟩ | ⟨rfl, hJx3⟩)
        · obtain ⟨hb3, ca3⟩ := HN3.out W3 hK3
          have cx3 : W3.cell? ⟨x, 0, none⟩ = some (.slice (some ⟨bl, o, none⟩) q ec) := by have := cells_of_block hb3 0; simpa using this
          have fx3 : W3.frozen? ⟨x, 0, none⟩ = false := by simp [World.frozen?, hb3]
          have HX3 : Hid (W3.heap[x]? = some (.cells #[.slice (some ⟨bl, o, none⟩) q ec] 25 (0, 0)) ∧ CA W3.heap.size W3 (some ⟨bl, off, none⟩) l ∧ J (pre ++ [(k, q)]) W3) := ⟨hb3, ca3, hJ3⟩
          have HZ3 : Hid (z ≤ x ∧ z ≤ W3.heap.size) := ⟨HWR.out.2.zx, by have := HWR.out.2.zx; have := (Array.getElem?_eq_some_iff.1 hb3).1; omega⟩
          clear hb3 ca3 hJ3 hK3 HN3
          by_cases hre : ec = q
          · subst hre
            gi_wp2
            have HF := step_at (o' := o) (r := ec) HX3.out.1 HX3.out.2.1 HNE.out HHQ.out HPR.out (by have := HHQ.out; omega) (fun hlt => by have := HHQ.out; omega) HZ3.out.1 HZ3.out.2
            rw [Nat.sub_self] at HF
            exact ⟨⟨_, _, _, rfl, HJ.out _ _ _ HX3.out.2.2 HF.1, HF.2⟩, by
              obtain ⟨o3, hb, _⟩ := HF.2.box
              rw [leftW_of hb, HM.out]
              have := HHQ.out
              omega⟩
          ·
            gi_wp2
            have HF := step_at (o' := o + q * 4) (r := q) HX3.out.1 HX3.out.2.1 HNE.out HHQ.out HPR.out (by have := HHQ.out; omega) (fun hlt => by rw [HOO.out]; omega) HZ3.out.1 HZ3.out.2
            rw [Nat.sub_self] at HF
            exact ⟨⟨_, _, _, rfl, HJ.out _ _ _ HX3.out.2.2 HF.1, HF.2⟩, by
              obtain ⟨o3, hb, _⟩ := HF.2.box
              rw [leftW_of hb, HM.out]
              have := HHQ.out
              omega⟩
        · gi_wp2
          refine bodyPost_ret (results_none rfl _ _ _) rfl ?_
          obtain ⟨g, g1, _⟩ := HPR.out
          exact ⟨⟨_, rfl⟩, .inr ⟨_, ⟨_, by rw [List.append_assoc]; exact g1⟩, hJx3⟩⟩
    · have hz : m - k = 0 := by omega
      rw [hz] at cx
      have HG : Hid (pre = grps l (l.length + 1) 0) := by
        obtain ⟨g, g1, g2⟩ := hA.gr
        obtain ⟨g', rfl⟩ : ∃ g', g = g' + 1 := ⟨g - 1, by omega⟩
        rw [grps, if_neg (by have := HLN.out; omega), List.append_nil] at g1
        exact g1
      have HJP : Hid (J pre wr) := hJp
      clear hA hbx ho hJp
      gi_wp2
      refine bodyPost_end (results_none rfl _ _ _) rfl ?_
      exact ⟨⟨_, rfl⟩, .inl ⟨pre, HG.out, HJP.out⟩⟩
set_option maxRecDepth 100000 in
set_option maxHeartbeats 2000000 in
/-- Of a list that is not in order, or has no cells, nothing comes. -/
theorem keys1_none (z n : Nat) (hn : 2 ≤ n) (c0 bl off m cp : Nat) (a : Option Addr) (l : List Cl) (W : World) (hc0 : W.cell? ⟨c0, 0, none⟩ = some (.slice a m cp)) (hca : CA W.heap.size W a l) (hl : l.length = m) (hmx : m < 1000000000000000) (hs : l = [] ∨ sortedC l = false) (Pr : List (Nat × Nat) → Nat × Nat → Prop) (Sp : List (Nat × Nat) → Prop) :
    SeqK Fence.wide n Try.prog 39 #[] #[.pointer (some ⟨c0, 0, none⟩)] (encG bl off) (RkC z none) (KcC none) Pr (fun xs => xs = []) Sp W := fun lp J Jx hJ hJx hY h0 => by
  have HSO : Hid (Calls Try.prog 12 #[.slice a m cp] W fun r w' => r = .returned (.bool (sortedC l)) ∧ Below W.heap.size W w') := sorted_any W.heap.size m cp a l W hca hl (Nat.le_refl _) hmx
  have HF : Hid (∀ w', Below W.heap.size W w' → J [] w') := fun w' k => hJ _ _ _ h0 (RkC.of_below k)
  have HLN : Hid (l.length = m) := hl
  clear hca hl hJ hJx hY h0
  cases hso : sortedC l with
  | true =>
    have hle : l = [] := by
      rcases hs with e | e
      · exact e
      · rw [hso] at e; cases e
    have hm0 : m = 0 := by rw [← HLN.out, hle]; rfl
    rw [hso] at HSO
    subst hm0
    clear hs hso hle HLN
    refine callsIn_of_wp Try.func39 rfl trivial ?_ rfl
    refine wpIn_wide.2 ?_
    simp only [Try.ntmps39, List.size_toArray, List.length_cons, List.length_nil, Nat.reduceAdd, Nat.reduceSub, Array.replicate_succ, Array.replicate_zero, List.push_toArray, List.append_toArray, List.nil_append, List.cons_append]
    refine (wpIn_wide (n := n)).1 ?_
    gi_wp2
    refine ⟨trivial, fun _ => by omega, (callsIn_wide.2 HSO.out).mono ?_⟩
    rintro r w1 ⟨rfl, b1⟩
    have c1 : w1.cell? ⟨c0, 0, none⟩ = some (.slice a 0 cp) := (b1.cell (p := ⟨c0, 0, none⟩) (World.block_lt_of_cell? W _ hc0)).trans hc0
    have HB1 : Hid (Below W.heap.size W w1) := b1
    have HB2 : Hid (Below W.heap.size W (w1.alloc (.cells #[.slice a 0 cp] 25))) := b1.alloc b1.size _
    have hx : (w1.alloc (.cells #[.slice a 0 cp] 25)).cell? ⟨w1.heap.size, 0, none⟩ = some (.slice a 0 cp) := by exact Boxed.cell (Boxed.new w1 25 (.slice a 0 cp))
    clear b1 hc0 HSO
    gi_wp2
    refine wpIn_loop_rounds 1 ?_
    rw [roundsIn_succ]
    gi_wp2
    refine bodyPost_end (results_none rfl _ _ _) rfl ?_
    exact ⟨⟨_, rfl⟩, .inl ⟨[], rfl, HF.out _ HB2.out⟩⟩
  | false =>
    rw [hso] at HSO
    refine callsIn_of_wp Try.func39 rfl trivial ?_ rfl
    refine wpIn_wide.2 ?_
    simp only [Try.ntmps39, List.size_toArray, List.length_cons, List.length_nil, Nat.reduceAdd, Nat.reduceSub, Array.replicate_succ, Array.replicate_zero, List.push_toArray, List.append_toArray, List.nil_append, List.cons_append]
    refine (wpIn_wide (n := n)).1 ?_
    gi_wp2
    refine ⟨trivial, fun _ => by omega, (callsIn_wide.2 HSO.out).mono ?_⟩
    rintro r w1 ⟨rfl, b1⟩
    have HB1 : Hid (Below W.heap.size W w1) := b1
    clear b1
    gi_wp2
    refine bodyPost_ret (results_none rfl _ _ _) rfl ?_
    exact ⟨⟨_, rfl⟩, .inl ⟨[], rfl, HF.out _ HB1.out⟩⟩
end Go.Proofs.Ytohamjoiohfoiaa
