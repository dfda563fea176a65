/-
  What merged hands back goes over the cells of all lists, each version once.
-/
import Derived.Test.YtohamjoiohfoiaaHpure
import Derived.Test.YtohamjoiohfoiaaKeys
import Derived.Shelf.RegionOpen
namespace Go.Proofs.Ytohamjoiohfoiaa
open Go.RowKit
attribute [local go_sem] Oper.semAt_some
/-- What the walk may do to memory: its heap's box and rows alone, from z on. -/
structure RkM (z : Nat) (A B : World) : Prop where
  os : B.os = A.os
  tape : B.tape = A.tape
  output : B.output = A.output
  size : A.heap.size ≤ B.heap.size
  block : ∀ (k : Nat) (o : Obj), A.heap[k]? = some o → (k < z ∨ ((∀ c f, o ≠ .cells c 69 f) ∧ ∀ c f, o ≠ .cells c 72 f)) → B.heap[k]? = some o
/-- What each round keeps. -/
structure KcM (z : Nat) (A B : World) : Prop where
  size : A.heap.size ≤ B.heap.size
  old : ∀ (k : Nat) (o : Obj), k < z → A.heap[k]? = some o → o.isCells = true → B.heap[k]? = some o
  own : ∀ (k : Nat) c t f, A.heap[k]? = some (.cells c t f) → t = 69 ∨ t = 72 → B.heap[k]? = some (.cells c t f)
theorem RkM.of_below {z : Nat} {A B : World} (h : Below A.heap.size A B) : RkM z A B := ⟨h.os, h.tape, h.output, h.size, fun k _ ho _ => (h.block k (Array.getElem?_eq_some_iff.1 ho).1).trans ho⟩
theorem RkM.trans {z : Nat} {A B C : World} (h : RkM z A B) (k : RkM z B C) : RkM z A C := ⟨k.os.trans h.os, k.tape.trans h.tape, k.output.trans h.output, Nat.le_trans h.size k.size, fun j o ho hn => k.block j o (h.block j o ho hn) hn⟩
theorem RkM.others {z : Nat} {A B : World} (h : RkM z A B) : KeepsOthers A B := ⟨h.size, fun k o ho hc => h.block k o ho (Or.inr ⟨fun c f e => (by rw [e] at hc; cases hc), fun c f e => (by rw [e] at hc; cases hc)⟩)⟩
theorem RkM.of_kh {z p : Nat} {hs : List Hd} {A B : World} (h : Kh z p A B) (ha : HAt z A p hs) : RkM z A B := ⟨h.os, h.tape, h.output, h.size, fun k o ho hn => h.block k o ho (by
  rcases hn with hn | ⟨h1, h2⟩
  · exact Or.inl hn
  · refine Or.inr ⟨fun e => ?_, h2⟩
    obtain ⟨g, cap, hb, _⟩ := ha.ex
    have hb' : A.heap[p]? = some (.cells #[.slice (some ⟨g, 0, none⟩) hs.length cap] 69 (0, 0)) := hb
    rw [← e, ho] at hb'
    exact h1 _ _ (Option.some.inj hb'))⟩
theorem KcM.trans {z : Nat} {A B C : World} (h : KcM z A B) (k : KcM z B C) : KcM z A C := ⟨Nat.le_trans h.size k.size, fun j o hj ho hc => k.old j o hj (h.old j o hj ho hc) hc, fun j c t f ho ht => k.own j c t f (h.own j c t f ho ht) ht⟩
theorem KcM.put {z : Nat} (A : World) (l : Nat) (o o' : Obj) (h : A.heap[l]? = some o) (ho : o.isCells = false) : KcM z A (A.putObj l o') := by
  have ne : ∀ (k : Nat) (q : Obj), A.heap[k]? = some q → q.isCells = true → (A.putObj l o').heap[k]? = some q := fun k q hq hc => (World.putObj_heap_other (fun e => by
    rw [e, h] at hq
    cases hq
    rw [ho] at hc
    cases hc)).trans hq
  exact ⟨by simp, fun k q _ hq hc => ne k q hq hc, fun k c t f hq _ => ne k _ hq rfl⟩
theorem KcM.of_below {z : Nat} {A B : World} (k : Below A.heap.size A B) : KcM z A B := ⟨k.size, fun j _ _ ho _ => (k.block j (Array.getElem?_eq_some_iff.1 ho).1).trans ho, fun j _ _ _ ho _ => (k.block j (Array.getElem?_eq_some_iff.1 ho).1).trans ho⟩
/-- Lists in memory lie in blocks of cells. -/
theorem CA.kept {z : Nat} {A B : World} {a : Option Addr} {l : List Cl} (h : CA z A a l) (k : ∀ (j : Nat) (o : Obj), j < z → A.heap[j]? = some o → o.isCells = true → B.heap[j]? = some o) : CA z B a l := by
  intro j c hj
  obtain ⟨b, off, e, hb, h0, h1, h2, h3⟩ := h j c hj
  have hh : B.heap[b]? = A.heap[b]? := by
    cases ho : A.heap[b]? with
    | none => simp [World.cell?, ho] at h0
    | some o =>
      cases o with
      | cells cs t f => exact k b _ hb ho rfl
      | _ => simp [World.cell?, ho] at h0
  exact ⟨b, off, e, hb, by rw [World.cell?_of_block hh]; exact h0, by rw [World.cell?_of_block hh]; exact h1, by rw [World.cell?_of_block hh]; exact h2, by rw [World.cell?_of_block hh]; exact h3⟩
theorem HAt.kept {z p : Nat} {A B : World} {hs : List Hd} (h : HAt z A p hs) (k : KcM z A B) : HAt z B p hs := by
  obtain ⟨g, cap, hb, hr⟩ := h.ex
  have hb' : A.heap[p]? = some (.cells #[.slice (some ⟨g, 0, none⟩) hs.length cap] 69 (0, 0)) := hb
  refine ⟨⟨g, cap, k.own p _ _ _ hb' (Or.inl rfl), owns_same hr (fun j e => ?_)⟩, h.pz, fun q hq => ⟨(h.each q hq).1.kept k.old, (h.each q hq).2⟩⟩
  rcases hr.2 with ⟨ev, _⟩ | ⟨g', cap', cur, ev, _, hh, _⟩
  · cases ev
  · simp only [Value.slice.injEq, Option.some.injEq, Addr.mk.injEq, and_true] at ev
    have e3 : g = j := by simpa [Value.ownBlock] using e
    rw [← ev.1, e3] at hh
    rw [hh]
    exact k.own j _ _ _ hh (Or.inr rfl)
/-- So many cells are left, read off memory. -/
def leftH (s : Value) (W : World) : Nat := match s with
  | .pointer (some a) => match W.cell? a with
    | some (.slice (some g) n _) => ((List.range n).map fun i => match W.cell? ⟨g.block, i * 2, none⟩ with | some (.slice _ m _) => m | _ => 0).sum
    | _ => 0
  | _ => 0
theorem leftH_of {z p : Nat} {W : World} {hs : List Hd} (h : HAt z W p hs) : leftH (.pointer (some ⟨p, 0, none⟩)) W = wt hs := by
  obtain ⟨g, cap, c0, hat⟩ := h.at
  simp only [leftH, c0, wt]
  congr 1
  apply List.ext_getElem?
  intro i
  rw [List.getElem?_map, List.getElem?_map]
  by_cases hi : i < hs.length
  · rw [List.getElem?_range hi, List.getElem?_eq_getElem hi]
    obtain ⟨a0, _⟩ := hat i hs[i] (List.getElem?_eq_getElem hi)
    simp only [Option.map_some, a0, hdS]
  · rw [List.getElem?_eq_none (by simp; omega), List.getElem?_eq_none (by omega)]
    rfl
theorem c24 {V : World} {x : Nat} {c : Cl} (e : V.heap[x]? = some (.cells #[.string c.key, .int .u64 (c.seq : Nat), .string c.val, .bool c.gone] 24 (0, 0))) : V.cell? ⟨x, 0, none⟩ = some (.string c.key) ∧ V.cell? ⟨x, 1, none⟩ = some (.int .u64 (c.seq : Nat)) ∧ V.cell? ⟨x, 2, none⟩ = some (.string c.val) ∧ V.cell? ⟨x, 3, none⟩ = some (.bool c.gone) :=
  ⟨by have := cells_of_block e 0; simpa using this, by have := cells_of_block e 1; simpa using this, by have := cells_of_block e 2; simpa using this, by have := cells_of_block e 3; simpa using this⟩
set_option maxRecDepth 100000 in
set_option maxHeartbeats 8000000 in
theorem merged2_seq (z n : Nat) (hn : 2 ≤ n) (c0 m cp : Nat) (a : Option Addr) (ls : List Sl) (W : World) (hc0 : W.cell? ⟨c0, 0, none⟩ = some (.slice a m cp)) (hla : LA z W a ls) (hl : ls.length = m) (hm : m < 800000) (hz : z ≤ W.heap.size) :
    SeqK Fence.wide n Try.prog 34 #[] #[.pointer (some ⟨c0, 0, none⟩)] (fun c => #[clV c]) (RkM z) (KcM z) (fun pre y => ∃ rest, pre ++ y :: rest = outM ls) (fun xs => xs = outM ls) (fun pre => ∃ rest, pre ++ rest = outM ls) W := fun lp J Jx hJ hJx hY h0 => by
  have HBE : Hid (Calls Try.prog 35 #[.slice a m cp] W fun r w' => ∃ p, r = .returned (.pointer (some ⟨p, 0, none⟩)) ∧ W.heap.size ≤ p ∧ HAt z w' p (beginK ls m) ∧ Kh z p W w') := begin_any z m cp a ls W hla hl hz hm
  have HY : Hid _ := hY
  have HJ : Hid _ := hJ
  have HJX : Hid _ := hJx
  have H0 : Hid (J [] W) := h0
  have HLN : Hid (ls.length = m) := hl
  clear hla hl hY hJ hJx h0
  refine callsIn_of_wp Try.func34 rfl trivial ?_ rfl
  refine wpIn_wide.2 ?_
  simp only [Try.ntmps34, List.size_toArray, List.length_cons, List.length_nil, Nat.reduceAdd, Nat.reduceSub, Array.replicate_succ, Array.replicate_zero, List.push_toArray, List.append_toArray, List.nil_append, List.cons_append]
  go_wp2_with fail
  refine Calls.mono HBE.out ?_
  rintro e w1 ⟨p, rfl, hpz, h1, k1⟩
  have hR1 : RkM z W w1 := ⟨k1.os, k1.tape, k1.output, k1.size, fun k o ho hq => k1.block k o ho (by
    rcases hq with hq | ⟨_, h2⟩
    · exact Or.inl hq
    · exact Or.inr ⟨by have := (Array.getElem?_eq_some_iff.1 ho).1; omega, h2⟩)⟩
  have HST : Hid (∃ (pre : List Cl) (f : Nat) (hs : List Hd), J pre w1 ∧ HAt z w1 p hs ∧ (∀ a ∈ hs, 0 < a.cs.length) ∧ wt hs ≤ f ∧ pre ++ outF f hs = outM ls ∧ hs.length < 800000) :=
    ⟨[], _, beginK ls m, HJ.out _ _ _ H0.out hR1, h1, beginK_ne ls m, Nat.le_refl _, by rw [outM, HLN.out]; rfl, by have := beginK_len ls m; omega⟩
  clear h1 k1 hR1 hpz HBE H0
  go_wp2_with fail
  go_loopw [7] (fun _ wr => Hid (∃ (pre : List Cl) (f : Nat) (hs : List Hd), J pre wr ∧ HAt z wr p hs ∧ (∀ a ∈ hs, 0 < a.cs.length) ∧ wt hs ≤ f ∧ pre ++ outF f hs = outM ls ∧ hs.length < 800000)) (fun _ wr => leftH (.pointer (some ⟨p, 0, none⟩)) wr)
  case atStart => exact HST.out
  case round =>
    clear HST
    obtain ⟨wo, rfl⟩ : ∃ wo, wo = wr := ⟨wr, rfl⟩
    have HR : Hid _ := hrel
    obtain ⟨pre, f, hs, hJp, hA, hne, hwf, hout, hlen⟩ := HR.out
    clear HR hrel
    cases hs with
    | nil =>
      have HL : Hid (Calls Try.prog 36 #[.pointer (some ⟨p, 0, none⟩)] wo fun r W' => r = .returned (.int .i64 0) ∧ W' = wo) := len_any z p [] wo hA
      have HJP : Hid (pre = outM ls ∧ J pre wo) := ⟨by rw [outF_nil, List.append_nil] at hout; exact hout, hJp⟩
      clear hA hne hwf hout hlen hJp
      go_wp2_with fail
      refine Calls.mono HL.out ?_
      rintro e w2 ⟨rfl, hw2⟩
      rw [hw2]
      clear hw2
      go_wp2_with fail
      go_end0
      exact ⟨⟨_, rfl⟩, .inl ⟨_, HJP.out.1, HJP.out.2⟩⟩
    | cons x t =>
      have hx0 := hne x (by simp)
      obtain ⟨c, r, hxc⟩ : ∃ c r, x.cs = c :: r := by
        cases e : x.cs with
        | nil => rw [e] at hx0; simp at hx0
        | cons c r => exact ⟨c, r, rfl⟩
      have HL : Hid (Calls Try.prog 36 #[.pointer (some ⟨p, 0, none⟩)] wo fun r W' => r = .returned (.int .i64 ((t.length : Int) + 1)) ∧ W' = wo) := len_any z p (x :: t) wo hA
      have HTK : Hid (Calls Try.prog 37 #[.pointer (some ⟨p, 0, none⟩)] wo fun e W' => e = .returned (clV c) ∧ HAt z W' p (takeL (x :: t)) ∧ Kh z p wo W') := take_any z p x t c r wo hA hxc (fun a ha => hne a (by simp [ha])) (by simp at hlen; omega)
      have HM0 : Hid (leftH (.pointer (some ⟨p, 0, none⟩)) wo = wt (x :: t)) := leftH_of hA
      have hwt := wt_take (t := t) hx0
      obtain ⟨f, rfl⟩ : ∃ f', f = f' + 1 := ⟨f - 1, by omega⟩
      rw [outF_cons hxc] at hout
      have hne2 := take_ne hne
      have hlen2 := take_len (x := x) (t := t)
      have HA : Hid _ := hA
      have HJP : Hid (J pre wo) := hJp
      obtain ⟨T, hT⟩ : ∃ T, takeL (x :: t) = T := ⟨_, rfl⟩
      rw [hT] at HTK hwt hout hne2 hlen2
      obtain ⟨R, hR⟩ : ∃ R, skipF (wt T) c T = R := ⟨_, rfl⟩
      have hRok := skip_ok (wt T) c T hne2
      rw [hR] at hout hRok
      have HOUT : Hid (pre ++ c :: outF f R = outM ls ∧ (∀ a ∈ R, 0 < a.cs.length) ∧ wt R ≤ f ∧ R.length < 800000 ∧ wt R < wt (x :: t)) := ⟨hout, hRok.1, by omega, by simp at hlen; omega, by omega⟩
      have HSK : Hid (skipF (wt T) c T = R ∧ (∀ a ∈ T, 0 < a.cs.length) ∧ T.length < 800000) := ⟨hR, hne2, by simp at hlen; omega⟩
      have htp : (0 : Int) < (t.length : Int) + 1 := by omega
      obtain ⟨k1, s1, v1, g1⟩ := c
      simp only [clV] at HTK
      clear hA hne hwf hout hlen hJp hx0 hxc hwt hne2 hlen2 hT hR hRok
      go_wp2_with fail
      refine Calls.mono HL.out ?_
      rintro e w2 ⟨rfl, hw2⟩
      rw [hw2]
      clear hw2
      go_wp2_with fail
      refine Calls.mono HTK.out ?_
      rintro e w3 ⟨rfl, h3, k3⟩
      have b4 : Below w3.heap.size w3 (w3.alloc (.cells #[.string k1, .int .u64 (s1 : Nat), .string v1, .bool g1] 24)) := (Below.refl _ w3).alloc (Nat.le_refl _) _
      have HW4 : Hid (HAt z (w3.alloc (.cells #[.string k1, .int .u64 (s1 : Nat), .string v1, .bool g1] 24)) p T ∧ RkM z wo (w3.alloc (.cells #[.string k1, .int .u64 (s1 : Nat), .string v1, .bool g1] 24)) ∧ (w3.alloc (.cells #[.string k1, .int .u64 (s1 : Nat), .string v1, .bool g1] 24)).heap[w3.heap.size]? = some (.cells #[.string k1, .int .u64 (s1 : Nat), .string v1, .bool g1] 24 (0, 0))) :=
        ⟨h3.below b4 h3.zle, (RkM.of_kh k3 HA.out).trans (RkM.of_below b4), World.alloc_heap_new _ _⟩
      clear h3 k3 b4 HTK HL htp
      go_wp2_with fail
      go_loopw [12] (fun _ w5 => Hid (∃ (g : Nat) (hs : List Hd), HAt z w5 p hs ∧ RkM z wo w5 ∧ w5.heap[w3.heap.size]? = some (.cells #[.string k1, .int .u64 (s1 : Nat), .string v1, .bool g1] 24 (0, 0)) ∧ (∀ a ∈ hs, 0 < a.cs.length) ∧ wt hs ≤ g ∧ skipF g ⟨k1, s1, v1, g1⟩ hs = R ∧ hs.length < 800000)) (fun _ w5 => leftH (.pointer (some ⟨p, 0, none⟩)) w5)
      case atStart => exact ⟨_, T, HW4.out.1, HW4.out.2.1, HW4.out.2.2, HSK.out.2.1, Nat.le_refl _, HSK.out.1, HSK.out.2.2⟩
      case round =>
        clear HW4 HSK
        obtain ⟨w5, rfl⟩ : ∃ w5, w5 = wr := ⟨wr, rfl⟩
        have HR5 : Hid _ := hrel
        obtain ⟨g, hs, hA5, hR5, hc5, hne5, hw5, hsk5, hl5⟩ := HR5.out
        clear HR5 hrel
        cases hs with
        | nil =>
          have HRE : Hid (R = []) := by rw [Hid, ← hsk5, skipF_nil]
          have HL5 : Hid (∀ V, Below w5.heap.size w5 V → Calls Try.prog 36 #[.pointer (some ⟨p, 0, none⟩)] V fun r W' => r = .returned (.int .i64 0) ∧ W' = V) := fun V hV => len_any z p [] V (hA5.below hV hA5.zle)
          have HAL : Hid (∀ V, Below w5.heap.size w5 V → (HAt z V p R ∧ RkM z wo V) ∧ V.heap[w3.heap.size]? = some (.cells #[.string k1, .int .u64 (s1 : Nat), .string v1, .bool g1] 24 (0, 0))) := fun V hV => ⟨⟨by rw [HRE.out]; exact hA5.below hV hA5.zle, hR5.trans (RkM.of_below hV)⟩, (hV.block _ (Array.getElem?_eq_some_iff.1 hc5).1).trans hc5⟩
          have HBD : Hid (Below w5.heap.size w5 w5.drew) := (Below.refl _ w5).drew
          clear hA5 hR5 hc5 hne5 hw5 hsk5 hl5
          obtain ⟨e0, e1, e2, e3⟩ := c24 (c := ⟨k1, s1, v1, g1⟩) (HAL.out _ HBD.out).2
          simp only at e0 e1 e2 e3
          refine (wpIn_wide (n := n)).1 ?_
          gi_wp2
          have hmx : Try.prog.follows .mixedOrders = true := by kernel_rfl
          first | gi_region_with_o (first | (refine ⟨trivial, fun _ => by omega, ?_⟩; gi_at_call 36; refine (callsIn_wide.2 (HL5.out _ HBD.out)).mono ?_; rintro e w6 ⟨rfl, hw6⟩; subst hw6) | (refine ⟨trivial, ?_⟩)) | fail
          all_goals
            gi_wp2
            obtain ⟨fn, tmps, assign, body, hy, hRY⟩ : YieldAt Fence.wide (n - 1) Try.prog lp #[.agg #[.string k1, .int .u64 (s1 : Nat), .string v1, .bool g1]] w5.drew _ := HY.out pre ⟨k1, s1, v1, g1⟩ w5.drew (HJ.out _ _ _ HJP.out (HAL.out _ HBD.out).1.2) ⟨_, HOUT.out.1⟩
            refine (wpIn_wide (n := n)).1 ?_
            gi_wp2
            refine ⟨fun _ => by omega, hRY.mono ?_⟩
            clear hRY hy
            rintro e W3 (⟨rfl, hJ3, hK3⟩ | ⟨rfl, hJx3⟩)
            · have HA3 := HAt.kept (HAL.out _ HBD.out).1.1 hK3
              have HF : Hid (J (pre ++ [⟨k1, s1, v1, g1⟩]) W3 ∧ HAt z W3 p _) := ⟨hJ3, HA3⟩
              clear hJ3 hK3 HA3
              gi_wp2
              exact ⟨⟨_, f, _, HF.out.1, HF.out.2, HOUT.out.2.1, HOUT.out.2.2.1, by rw [List.append_assoc]; exact HOUT.out.1, HOUT.out.2.2.2.1⟩, by rw [leftH_of HF.out.2, HM0.out]; exact HOUT.out.2.2.2.2⟩
            · gi_wp2
              refine bodyPost_ret (results_none rfl _ _ _) rfl ?_
              exact ⟨⟨_, rfl⟩, .inr ⟨_, ⟨_, by rw [List.append_assoc]; exact HOUT.out.1⟩, hJx3⟩⟩
        | cons y u =>
          have hy0 := hne5 y (by simp)
          obtain ⟨d, r2, hyd⟩ : ∃ c r, y.cs = c :: r := by
            cases e : y.cs with
            | nil => rw [e] at hy0; simp at hy0
            | cons c r => exact ⟨c, r, rfl⟩
          have hB : ∀ V, Below w5.heap.size w5 V → HAt z V p (y :: u) := fun V hV => hA5.below hV hA5.zle
          have HL5 : Hid (∀ V, Below w5.heap.size w5 V → Calls Try.prog 36 #[.pointer (some ⟨p, 0, none⟩)] V fun r W' => r = .returned (.int .i64 ((u.length : Int) + 1)) ∧ W' = V) := fun V hV => len_any z p (y :: u) V (hB V hV)
          have HF5 : Hid (∀ V, Below w5.heap.size w5 V → Calls Try.prog 38 #[.pointer (some ⟨p, 0, none⟩)] V fun r W' => r = .returned (clV d) ∧ Below V.heap.size V W') := fun V hV => first_any z p (y :: u) y d V (hB V hV) rfl (by rw [hyd]; rfl)
          have HLS : Hid (∀ V : World, Calls Try.prog 10 #[.agg #[.string k1, .int .u64 (s1 : Nat), .string v1, .bool g1], clV d] V fun r w' => r = .returned (.bool (lessC ⟨k1, s1, v1, g1⟩ d)) ∧ Below V.heap.size V w') := fun V => less_any ⟨k1, s1, v1, g1⟩ d V
          have HTK : Hid (∀ V, Below w5.heap.size w5 V → Calls Try.prog 37 #[.pointer (some ⟨p, 0, none⟩)] V fun e W' => e = .returned (clV d) ∧ HAt z W' p (takeL (y :: u)) ∧ Kh z p V W') := fun V hV => take_any z p y u d r2 V (hB V hV) hyd (fun a ha => hne5 a (by simp [ha])) (by simp at hl5; omega)
          have HAL : Hid (∀ V, Below w5.heap.size w5 V → (HAt z V p (y :: u) ∧ RkM z wo V) ∧ V.heap[w3.heap.size]? = some (.cells #[.string k1, .int .u64 (s1 : Nat), .string v1, .bool g1] 24 (0, 0))) := fun V hV => ⟨⟨hB V hV, hR5.trans (RkM.of_below hV)⟩, (hV.block _ (Array.getElem?_eq_some_iff.1 hc5).1).trans hc5⟩
          have HBD : Hid (Below w5.heap.size w5 w5.drew) := (Below.refl _ w5).drew
          have HM5 : Hid (leftH (.pointer (some ⟨p, 0, none⟩)) w5 = wt (y :: u)) := leftH_of hA5
          obtain ⟨q0, q1, q2, q3⟩ := c24 (c := ⟨k1, s1, v1, g1⟩) (HAL.out _ HBD.out).2
          simp only at q0 q1 q2 q3
          have hup : (0 : Int) < (u.length : Int) + 1 := by omega
          cases hls : lessC ⟨k1, s1, v1, g1⟩ d with
          | true =>
            obtain rfl : R = y :: u := by rw [← hsk5, skipF_stay hyd hls]
            rw [hls] at HLS
            obtain ⟨dk, ds, dv, dg⟩ := d
            simp only [clV] at HF5 HLS
            clear hA5 hR5 hc5 hne5 hw5 hsk5 hl5 hB hy0 hyd HTK HM5 hls
            have hmx : Try.prog.follows .mixedOrders = true := by kernel_rfl
            go_wp2_with fail
            first | go_region_with (first
              | (go_at_call 36; refine Calls.mono (HL5.out _ HBD.out) ?_; rintro e w6 ⟨rfl, hw6⟩; subst hw6)
              | (go_at_call 38; refine Calls.mono (HF5.out _ HBD.out) ?_; rintro e w7 ⟨rfl, b7⟩; have HB7 : Hid (Below w5.heap.size w5 w7) := HBD.out.trans b7; clear b7; obtain ⟨p0, p1, p2, p3⟩ := c24 (c := ⟨k1, s1, v1, g1⟩) (HAL.out _ HB7.out).2; simp only at p0 p1 p2 p3)
              | (go_at_call 10; refine Calls.mono (HLS.out _) ?_; rintro e w8 ⟨rfl, b8⟩; have HB8 : Hid (Below w5.heap.size w5 w8) := HB7.out.trans (b8.mono HB7.out.size); clear b8; obtain ⟨o0, o1, o2, o3⟩ := c24 (c := ⟨k1, s1, v1, g1⟩) (HAL.out _ HB8.out).2; simp only at o0 o1 o2 o3)) | fail
            all_goals
              clear q0 q1 q2 q3 p0 p1 p2 p3
              gi_wp2
              refine (wpIn_wide (n := n)).1 ?_
              gi_wp2
              obtain ⟨fn, tmps, assign, body, hy, hRY⟩ : YieldAt Fence.wide (n - 1) Try.prog lp #[.agg #[.string k1, .int .u64 (s1 : Nat), .string v1, .bool g1]] w8 _ := HY.out pre ⟨k1, s1, v1, g1⟩ w8 (HJ.out _ _ _ HJP.out (HAL.out _ HB8.out).1.2) ⟨_, HOUT.out.1⟩
              refine (wpIn_wide (n := n)).1 ?_
              gi_wp2
              refine ⟨fun _ => by omega, hRY.mono ?_⟩
              clear hRY hy
              rintro e W3 (⟨rfl, hJ3, hK3⟩ | ⟨rfl, hJx3⟩)
              · have HA3 := HAt.kept (HAL.out _ HB8.out).1.1 hK3
                have HF : Hid (J (pre ++ [⟨k1, s1, v1, g1⟩]) W3 ∧ HAt z W3 p _) := ⟨hJ3, HA3⟩
                clear hJ3 hK3 HA3
                gi_wp2
                exact ⟨⟨_, f, _, HF.out.1, HF.out.2, HOUT.out.2.1, HOUT.out.2.2.1, by rw [List.append_assoc]; exact HOUT.out.1, HOUT.out.2.2.2.1⟩, by rw [leftH_of HF.out.2, HM0.out]; exact HOUT.out.2.2.2.2⟩
              · gi_wp2
                refine bodyPost_ret (results_none rfl _ _ _) rfl ?_
                exact ⟨⟨_, rfl⟩, .inr ⟨_, ⟨_, by rw [List.append_assoc]; exact HOUT.out.1⟩, hJx3⟩⟩
          | false =>
            have HSK : Hid (∃ g', g = g' + 1 ∧ skipF g' ⟨k1, s1, v1, g1⟩ (takeL (y :: u)) = R ∧ wt (takeL (y :: u)) ≤ g' ∧ wt (takeL (y :: u)) < wt (y :: u) ∧ (∀ a ∈ takeL (y :: u), 0 < a.cs.length) ∧ (takeL (y :: u)).length < 800000) := by
              have hwt := wt_take (t := u) hy0
              obtain ⟨g, rfl⟩ : ∃ g', g = g' + 1 := ⟨g - 1, by omega⟩
              rw [skipF_go hyd hls] at hsk5
              have := take_len (x := y) (t := u)
              simp only [List.length_cons] at hl5
              exact ⟨g, rfl, hsk5, by omega, hwt, take_ne hne5, by omega⟩
            rw [hls] at HLS
            obtain ⟨dk, ds, dv, dg⟩ := d
            simp only [clV] at HF5 HLS HTK
            clear hA5 hR5 hc5 hne5 hw5 hsk5 hl5 hB hy0 hyd hls
            have hmx : Try.prog.follows .mixedOrders = true := by kernel_rfl
            go_wp2_with fail
            first | go_region_with (first
              | (go_at_call 36; refine Calls.mono (HL5.out _ HBD.out) ?_; rintro e w6 ⟨rfl, hw6⟩; subst hw6)
              | (go_at_call 38; refine Calls.mono (HF5.out _ HBD.out) ?_; rintro e w7 ⟨rfl, b7⟩; have HB7 : Hid (Below w5.heap.size w5 w7) := HBD.out.trans b7; clear b7; obtain ⟨p0, p1, p2, p3⟩ := c24 (c := ⟨k1, s1, v1, g1⟩) (HAL.out _ HB7.out).2; simp only at p0 p1 p2 p3)
              | (go_at_call 10; refine Calls.mono (HLS.out _) ?_; rintro e w8 ⟨rfl, b8⟩; have HB8 : Hid (Below w5.heap.size w5 w8) := HB7.out.trans (b8.mono HB7.out.size); clear b8; obtain ⟨o0, o1, o2, o3⟩ := c24 (c := ⟨k1, s1, v1, g1⟩) (HAL.out _ HB8.out).2; simp only at o0 o1 o2 o3)) | fail
            all_goals
              clear hmx q0 q1 q2 q3 p0 p1 p2 p3 o0 o1 o2 o3
              go_wp2_with fail
              refine Calls.mono (HTK.out _ HB8.out) ?_
              rintro e w9 ⟨rfl, h9, k9⟩
              have HW9 : Hid (HAt z w9 p (takeL (y :: u)) ∧ RkM z wo w9 ∧ w9.heap[w3.heap.size]? = some (.cells #[.string k1, .int .u64 (s1 : Nat), .string v1, .bool g1] 24 (0, 0))) :=
                ⟨h9, (HAL.out _ HB8.out).1.2.trans (RkM.of_kh k9 (HAL.out _ HB8.out).1.1), (RkM.of_kh k9 (HAL.out _ HB8.out).1.1).block _ _ (HAL.out _ HB8.out).2 (Or.inr ⟨fun _ _ e => by simp at e, fun _ _ e => by simp at e⟩)⟩
              clear h9 k9
              go_wp2_with fail
              obtain ⟨g', hg, h1, h2, h3, h4, h5⟩ := HSK.out
              exact ⟨⟨g', _, HW9.out.1, HW9.out.2.1, HW9.out.2.2, h4, h2, h1, h5⟩, by rw [leftH_of HW9.out.1, HM5.out]; exact h3⟩
end Go.Proofs.Ytohamjoiohfoiaa
