/-
  The printer: term.
-/
import Derived.Test.YtcdagmgbfihbdaaDoorCfg
import Derived.Deep.Cut
import Derived.Deep.CutRange
namespace Go.Proofs.YtcdagmgbfihbdaaDoor
open Go.RowKit
structure Arr where
  step : Int
  conn : Int
  bytes : List UInt8
structure Flt where
  op : Int
  nth : Int
  kind : Int
def ArrAt (w : World) (a : Option Addr) (l : List Arr) : Prop := ∀ j t, l[j]? = some t → (i64ok t.step ∧ i64ok t.conn) ∧ ∃ b off, a = some ⟨b, off, none⟩ ∧ b < w.heap.size ∧ w.cell? ⟨b, off + j * 3, none⟩ = some (.int .i64 t.step) ∧ w.cell? ⟨b, off + j * 3 + 1, none⟩ = some (.int .i64 t.conn) ∧ w.cell? ⟨b, off + j * 3 + 2, none⟩ = some (.string (bOf t.bytes))
def FltAt (w : World) (a : Option Addr) (l : List Flt) : Prop := ∀ j t, l[j]? = some t → (i64ok t.op ∧ i64ok t.nth ∧ i64ok t.kind) ∧ ∃ b off, a = some ⟨b, off, none⟩ ∧ b < w.heap.size ∧ w.cell? ⟨b, off + j * 3, none⟩ = some (.int .i64 t.op) ∧ w.cell? ⟨b, off + j * 3 + 1, none⟩ = some (.int .i64 t.nth) ∧ w.cell? ⟨b, off + j * 3 + 2, none⟩ = some (.int .i64 t.kind)
theorem ArrAt.below {W W' : World} {a : Option Addr} {l : List Arr} (h : ArrAt W a l) (k : Below W.heap.size W W') : ArrAt W' a l := fun j v hj => by
  obtain ⟨ho, b, off, e, hb, h0, h1, h2⟩ := h j v hj
  exact ⟨ho, b, off, e, Nat.lt_of_lt_of_le hb k.size, (k.cell (p := ⟨b, off + j * 3, none⟩) hb).trans h0, (k.cell (p := ⟨b, off + j * 3 + 1, none⟩) hb).trans h1, (k.cell (p := ⟨b, off + j * 3 + 2, none⟩) hb).trans h2⟩
theorem FltAt.below {W W' : World} {a : Option Addr} {l : List Flt} (h : FltAt W a l) (k : Below W.heap.size W W') : FltAt W' a l := fun j v hj => by
  obtain ⟨ho, b, off, e, hb, h0, h1, h2⟩ := h j v hj
  exact ⟨ho, b, off, e, Nat.lt_of_lt_of_le hb k.size, (k.cell (p := ⟨b, off + j * 3, none⟩) hb).trans h0, (k.cell (p := ⟨b, off + j * 3 + 1, none⟩) hb).trans h1, (k.cell (p := ⟨b, off + j * 3 + 2, none⟩) hb).trans h2⟩
structure Trm where
  aa : Option Addr
  ac : Nat
  arr : List Arr
  pa : Option Addr
  pc : Nat
  picks : List Int
  ta : Option Addr
  tc : Nat
  ticks : List Int
  da : Option Addr
  dc : Nat
  draws : List Nat
  fa : Option Addr
  fc : Nat
  faults : List Flt
  steps : Int
  stop : Int
  dir : Int
  ka : Option Addr
  kc : Nat
  keep : List Int
def trL (t : Trm) : List Value := [.slice t.aa t.arr.length t.ac, .slice t.pa t.picks.length t.pc, .slice t.ta t.ticks.length t.tc, .slice t.da t.draws.length t.dc, .slice t.fa t.faults.length t.fc, .int .i64 t.steps, .int .i64 t.stop, .int .i64 t.dir, .slice t.ka t.keep.length t.kc]
structure TrOk (w : World) (t : Trm) : Prop where
  arr : ArrAt w t.aa t.arr
  picks : prOk w (.is t.pa t.pc t.picks)
  ticks : prOk w (.is t.ta t.tc t.ticks)
  draws : prOk w (.us t.da t.dc t.draws)
  faults : FltAt w t.fa t.faults
  keep : prOk w (.is t.ka t.kc t.keep)
  nums : i64ok t.steps ∧ i64ok t.stop ∧ i64ok t.dir
  lens : t.arr.length ≤ 4611686018427387904 ∧ t.faults.length ≤ 4611686018427387904
def faultS (f : Flt) (s : PS) : PS := lineS [102, 97, 117, 108, 116] [.i f.op, .i f.nth, .i f.kind] s
def atS (a : Arr) (s : PS) : PS := lineS [97, 116] [.i a.step, .i a.conn, .s a.bytes] s
def picksS (t : Trm) (s : PS) : PS := if 0 < t.picks.length then lineS [112, 105, 99, 107, 115] [.is t.pa t.pc t.picks] s else s
def ticksS (t : Trm) (s : PS) : PS := if 0 < t.ticks.length then lineS [116, 105, 99, 107, 115] [.is t.ta t.tc t.ticks] s else s
def drawsS (t : Trm) (s : PS) : PS := if 0 < t.draws.length then lineS [100, 114, 97, 119, 115] [.us t.da t.dc t.draws] s else s
def crashS (t : Trm) (s : PS) : PS := if t.dir ≠ 0 ∨ 0 < t.keep.length then lineS [99, 114, 97, 115, 104] [.i t.dir, .is t.ka t.kc t.keep] s else s
def termS (t : Trm) (s : PS) : PS :=
  crashS t (t.arr.foldl (fun s a => atS a s) (t.faults.foldl (fun s f => faultS f s) (drawsS t (ticksS t (picksS t (lineS [116, 101, 114, 109] [.i t.steps, .i t.stop] s))))))
theorem fold_take {α : Type} (f : α → PS → PS) {l : List α} {k : Nat} {x : α} (h : l[k]? = some x) (s : PS) : (l.take (k + 1)).foldl (fun s x => f x s) s = f x ((l.take k).foldl (fun s x => f x s) s) := by
  rw [List.take_add_one, h, Option.toList, List.foldl_append]
  rfl
set_option maxRecDepth 100000 in
set_option maxHeartbeats 16000000 in
theorem term_any (w0 W : World) (p : Nat) (s : PS) (t : Trm) (h : PrA w0 W p s) (ht : TrOk w0 t) (hFU : Hid FUint) :
    Calls Tryd.prog 26 #[.pointer (some ⟨p, 0, none⟩), .agg (trL t).toArray] W fun e W' => PD w0 W p (termS t s) e W' := by
  have HTS : Hid (∀ s5 s6 : PS, t.faults.foldl (fun s f => faultS f s) (drawsS t (ticksS t (picksS t (lineS [116, 101, 114, 109] [.i t.steps, .i t.stop] s)))) = s5 → t.arr.foldl (fun s a => atS a s) s5 = s6 → termS t s = crashS t s6) := fun s5 s6 e1 e2 => by unfold termS; rw [e1, e2]
  obtain ⟨aa, ac, arr, pa, pc, picks, ta, tc, ticks, da, dc, draws, fa, fc, faults, steps, stop, dir, ka, kc, keep⟩ := t
  obtain ⟨ha, hp, hti, hd, hf, hke, ⟨hst, hsp, hdi⟩, hle⟩ := ht
  simp only at ha hp hti hd hf hke hst hsp hdi hle HTS
  obtain ⟨na, hna⟩ : ∃ n, arr.length = n := ⟨_, rfl⟩
  obtain ⟨np, hnp⟩ : ∃ n, picks.length = n := ⟨_, rfl⟩
  obtain ⟨nt, hnt⟩ : ∃ n, ticks.length = n := ⟨_, rfl⟩
  obtain ⟨nd, hnd⟩ : ∃ n, draws.length = n := ⟨_, rfl⟩
  obtain ⟨nf, hnf⟩ : ∃ n, faults.length = n := ⟨_, rfl⟩
  obtain ⟨nk, hnk⟩ : ∃ n, keep.length = n := ⟨_, rfl⟩
  have HNS : Hid (arr.length = na ∧ picks.length = np ∧ ticks.length = nt ∧ draws.length = nd ∧ faults.length = nf ∧ keep.length = nk) := ⟨hna, hnp, hnt, hnd, hnf, hnk⟩
  obtain ⟨W0, hW0⟩ : ∃ V, W.alloc (.cells #[.slice aa na ac, .slice pa np pc, .slice ta nt tc, .slice da nd dc, .slice fa nf fc, .int .i64 steps, .int .i64 stop, .int .i64 dir, .slice ka nk kc] 68) = V := ⟨_, rfl⟩
  obtain ⟨x, hx⟩ : ∃ q, W.heap.size = q := ⟨_, rfl⟩
  have hxb : W0.heap[x]? = some (.cells #[.slice aa na ac, .slice pa np pc, .slice ta nt tc, .slice da nd dc, .slice fa nf fc, .int .i64 steps, .int .i64 stop, .int .i64 dir, .slice ka nk kc] 68 (0, 0)) := by rw [← hW0, ← hx]; exact block_alloc_at _ _
  have HXB : Hid (∀ V, KP p W0 V → V.heap[x]? = some (.cells #[.slice aa na ac, .slice pa np pc, .slice ta nt tc, .slice da nd dc, .slice fa nf fc, .int .i64 steps, .int .i64 stop, .int .i64 dir, .slice ka nk kc] 68 (0, 0))) := fun V hV => hV.keep x _ hxb (by have := h.ba.lt; omega) (fun c f e => by simp at e)
  have HP0 : Hid (PrA w0 W0 p s ∧ KP p W W0) := by rw [Hid, ← hW0]; exact ⟨h.kept (below_new _ _), KP.of (below_new _ _)⟩
  have HAR : Hid (ArrAt w0 aa arr) := ha
  have HFL : Hid (FltAt w0 fa faults) := hf
  have HPK : Hid (prOk w0 (.is pa pc picks)) := hp
  have HTK : Hid (prOk w0 (.is ta tc ticks)) := hti
  have HDR : Hid (prOk w0 (.us da dc draws)) := hd
  have HKE : Hid (prOk w0 (.is ka kc keep)) := hke
  have HNU : Hid (i64ok steps ∧ i64ok stop ∧ i64ok dir) := ⟨hst, hsp, hdi⟩
  have hlea : na ≤ 4611686018427387904 := by omega
  have hlef : nf ≤ 4611686018427387904 := by omega
  have x5 : W0.cell? ⟨x, 5, none⟩ = some (.int .i64 steps) := cell_of_block hxb rfl
  have x6 : W0.cell? ⟨x, 6, none⟩ = some (.int .i64 stop) := cell_of_block hxb rfl
  obtain ⟨V1, hV1⟩ : ∃ V, W0.alloc (.cells #[.iface 3 (.int .i64 steps), .iface 3 (.int .i64 stop)] 20) = V := ⟨_, rfl⟩
  have hb1 : Below W0.heap.size W0 V1 := by
    rw [← hV1]
    exact ((Below.refl _ _).alloc (Nat.le_refl _) _)
  have hg1 : V1.heap[W0.heap.size]? = some (.cells #[.iface 3 (.int .i64 steps), .iface 3 (.int .i64 stop)] 20 (0, 0)) := by
    rw [← hV1]
    exact block_alloc_at _ _
  have HV1 : Hid (W0.alloc (.cells #[.iface 3 (.int .i64 steps), .iface 3 (.int .i64 stop)] 20) = V1) := hV1
  have HK1 : Hid (KP p W0 V1) := KP.of hb1
  have HL1 : Hid (Calls Tryd.prog 37 #[.pointer (some ⟨p, 0, none⟩), .string ⟨#[116, 101, 114, 109]⟩, .slice (some ⟨W0.heap.size, 0, none⟩) 2 2] V1 fun e W' => PD w0 V1 p (lineS [116, 101, 114, 109] [.i steps, .i stop] s) e W') :=
    line_any w0 V1 p (W0.heap.size) s [116, 101, 114, 109] [.i steps, .i stop] 2 (PrA.kept HP0.out.1 hb1) hg1 (by have := (HP0.out.1).ba.lt; omega) rfl (by decide) (by simp only [List.forall_mem_cons, List.not_mem_nil, false_imp_iff, implies_true, and_true]; exact ⟨HNU.out.1, HNU.out.2.1⟩) hFU
  clear hV1 hb1 hg1
  rw [← hW0, ← hx] at x5 x6
  have HZ0 : Hid (W.heap.size + 1 = W0.heap.size) := by rw [Hid, ← hW0]; simp
  have HW0 : Hid _ := hW0
  have HX : Hid _ := hx
  simp only [trL]
  rw [hna, hnp, hnt, hnd, hnf, hnk]
  clear h ha hp hti hd hf hke hst hsp hdi hle hxb hW0 hx hna hnp hnt hnd hnf hnk
  go_enter Tryd.func26, Tryd.ntmps26
  go_wp2_with fail
  rw [HW0.out, HV1.out, HZ0.out]
  refine Calls.mono HL1.out ?_
  rintro e w1 ⟨rfl, q1, q2⟩
  obtain ⟨S1, hS1⟩ : ∃ S, lineS [116, 101, 114, 109] [.i steps, .i stop] s = S := ⟨_, rfl⟩
  rw [hS1] at q1
  have HQ1 : Hid (PrA w0 w1 p S1 ∧ KP p W0 w1) := ⟨q1, HK1.out.trans q2⟩
  have HS1 : Hid _ := hS1
  rw [HX.out]
  clear q1 q2 HL1 HV1 hS1 x5 x6 HW0 HX HZ0
  obtain ⟨S2, hS2⟩ : ∃ S, (if 0 < np then lineS [112, 105, 99, 107, 115] [.is pa pc picks] S1 else S1) = S := ⟨_, rfl⟩
  have HS2 : Hid _ := hS2
  obtain ⟨S3, hS3⟩ : ∃ S, (if 0 < nt then lineS [116, 105, 99, 107, 115] [.is ta tc ticks] S2 else S2) = S := ⟨_, rfl⟩
  have HS3 : Hid _ := hS3
  obtain ⟨S4, hS4⟩ : ∃ S, (if 0 < nd then lineS [100, 114, 97, 119, 115] [.us da dc draws] S3 else S3) = S := ⟨_, rfl⟩
  have HS4 : Hid _ := hS4
  obtain ⟨S5, hS5⟩ : ∃ S, faults.foldl (fun s f => faultS f s) S4 = S := ⟨_, rfl⟩
  have HS5 : Hid _ := hS5
  obtain ⟨S6, hS6⟩ : ∃ S, arr.foldl (fun s a => atS a s) S5 = S := ⟨_, rfl⟩
  have HS6 : Hid _ := hS6
  have HTE : Hid (termS ⟨aa, ac, arr, pa, pc, picks, ta, tc, ticks, da, dc, draws, fa, fc, faults, steps, stop, dir, ka, kc, keep⟩ s = if dir ≠ 0 ∨ 0 < nk then lineS [99, 114, 97, 115, 104] [.i dir, .is ka kc keep] S6 else S6) := by
    have hn := HNS.out
    rw [Hid, HTS S5 S6 (by unfold drawsS ticksS picksS; rw [HS1.out]; simp only; rw [hn.2.1, hn.2.2.1, hn.2.2.2.1, hS2, hS3, hS4, hS5]) hS6]
    unfold crashS
    simp only
    rw [hn.2.2.2.2.2]
  clear hS2 hS3 hS4 hS5 hS6 HTS
  have y1 : w1.cell? ⟨x, 1, none⟩ = some (.slice pa np pc) := cell_of_block (HXB.out w1 HQ1.out.2) rfl
  go_upto_if 21 with fail
  go_cut [0] from 21 to 28 (fun s0 wc => s0 = .pointer (some ⟨p, 0, none⟩) ∧ Hid (PrA w0 wc p S2 ∧ KP p W0 wc))
  case first =>
    by_cases hlt : 0 < np
    · have hz : (0 : Int) < ((np : Nat) : Int) := by omega
      have HSE : Hid (lineS [112, 105, 99, 107, 115] [.is pa pc picks] S1 = S2) := by have := HS2.out; rw [if_pos hlt] at this; exact this
      obtain ⟨VC, hVC⟩ : ∃ V, w1.alloc (.cells #[.iface 60 (.slice pa np pc)] 20) = V := ⟨_, rfl⟩
      have hbC : Below w1.heap.size w1 VC := by rw [← hVC]; exact below_new _ _
      have hgC : VC.heap[w1.heap.size]? = some (.cells #[.iface 60 (.slice pa np pc)] 20 (0, 0)) := by rw [← hVC]; exact block_alloc_at _ _
      have HKC : Hid (KP p w1 VC) := KP.of hbC
      have hgC2 : VC.heap[w1.heap.size]? = some (.cells ([.is pa pc picks].map prV).toArray 20 (0, 0)) := by rw [hgC, ← HNS.out.2.1]; rfl
      have HLC : Hid (Calls Tryd.prog 37 #[.pointer (some ⟨p, 0, none⟩), .string ⟨#[112, 105, 99, 107, 115]⟩, .slice (some ⟨w1.heap.size, 0, none⟩) 1 1] VC fun e W' => PD w0 VC p (lineS [112, 105, 99, 107, 115] [.is pa pc picks] S1) e W') :=
        line_any w0 VC p w1.heap.size S1 [112, 105, 99, 107, 115] [.is pa pc picks] 1 (PrA.kept HQ1.out.1 hbC) hgC2 (by have := (HQ1.out.1).ba.lt; omega) rfl (by decide) (by simp only [List.forall_mem_cons, List.not_mem_nil, false_imp_iff, implies_true, and_true]; exact HPK.out) hFU
      have HVC : Hid _ := hVC
      clear hlt hVC hbC hgC hgC2
      go_wp2_with fail
      rw [HVC.out]
      refine Calls.mono HLC.out ?_
      rintro e w2 ⟨rfl, q1, q2⟩
      have HR : Hid (PrA w0 w2 p S2 ∧ KP p W0 w2) := ⟨by rw [← HSE.out]; exact q1, (HQ1.out.2.trans HKC.out).trans q2⟩
      clear q1 q2 HLC HVC
      go_wp2_with fail
      go_meet
      exact ⟨rfl, HR.out⟩
    · have hz : ¬ (0 : Int) < ((np : Nat) : Int) := by omega
      have HSE : Hid (S1 = S2) := by have := HS2.out; rw [if_neg hlt] at this; exact this
      have HR : Hid (PrA w0 w1 p S2 ∧ KP p W0 w1) := by rw [← HSE.out]; exact HQ1.out
      clear hlt
      go_wp2_with fail
      go_meet
      exact ⟨rfl, HR.out⟩
  case rest =>
  obtain ⟨rfl, HCC⟩ := hcut
  obtain ⟨w2, hwc⟩ : ∃ q, wc = q := ⟨_, rfl⟩
  rw [hwc] at HCC
  rw [hwc]
  have HQ2 : Hid (PrA w0 w2 p S2 ∧ KP p W0 w2) := HCC
  clear hwc HCC y1 HQ1
  have y2 : w2.cell? ⟨x, 2, none⟩ = some (.slice ta nt tc) := cell_of_block (HXB.out w2 HQ2.out.2) rfl
  go_upto_if 33 with fail
  go_cut [0] from 33 to 40 (fun s0 wc => s0 = .pointer (some ⟨p, 0, none⟩) ∧ Hid (PrA w0 wc p S3 ∧ KP p W0 wc))
  case first =>
    by_cases hlt : 0 < nt
    · have hz : (0 : Int) < ((nt : Nat) : Int) := by omega
      have HSE : Hid (lineS [116, 105, 99, 107, 115] [.is ta tc ticks] S2 = S3) := by have := HS3.out; rw [if_pos hlt] at this; exact this
      obtain ⟨VC, hVC⟩ : ∃ V, w2.alloc (.cells #[.iface 60 (.slice ta nt tc)] 20) = V := ⟨_, rfl⟩
      have hbC : Below w2.heap.size w2 VC := by rw [← hVC]; exact below_new _ _
      have hgC : VC.heap[w2.heap.size]? = some (.cells #[.iface 60 (.slice ta nt tc)] 20 (0, 0)) := by rw [← hVC]; exact block_alloc_at _ _
      have HKC : Hid (KP p w2 VC) := KP.of hbC
      have hgC2 : VC.heap[w2.heap.size]? = some (.cells ([.is ta tc ticks].map prV).toArray 20 (0, 0)) := by rw [hgC, ← HNS.out.2.2.1]; rfl
      have HLC : Hid (Calls Tryd.prog 37 #[.pointer (some ⟨p, 0, none⟩), .string ⟨#[116, 105, 99, 107, 115]⟩, .slice (some ⟨w2.heap.size, 0, none⟩) 1 1] VC fun e W' => PD w0 VC p (lineS [116, 105, 99, 107, 115] [.is ta tc ticks] S2) e W') :=
        line_any w0 VC p w2.heap.size S2 [116, 105, 99, 107, 115] [.is ta tc ticks] 1 (PrA.kept HQ2.out.1 hbC) hgC2 (by have := (HQ2.out.1).ba.lt; omega) rfl (by decide) (by simp only [List.forall_mem_cons, List.not_mem_nil, false_imp_iff, implies_true, and_true]; exact HTK.out) hFU
      have HVC : Hid _ := hVC
      clear hlt hVC hbC hgC hgC2
      go_wp2_with fail
      rw [HVC.out]
      refine Calls.mono HLC.out ?_
      rintro e w2 ⟨rfl, q1, q2⟩
      have HR : Hid (PrA w0 w2 p S3 ∧ KP p W0 w2) := ⟨by rw [← HSE.out]; exact q1, (HQ2.out.2.trans HKC.out).trans q2⟩
      clear q1 q2 HLC HVC
      go_wp2_with fail
      go_meet
      exact ⟨rfl, HR.out⟩
    · have hz : ¬ (0 : Int) < ((nt : Nat) : Int) := by omega
      have HSE : Hid (S2 = S3) := by have := HS3.out; rw [if_neg hlt] at this; exact this
      have HR : Hid (PrA w0 w2 p S3 ∧ KP p W0 w2) := by rw [← HSE.out]; exact HQ2.out
      clear hlt
      go_wp2_with fail
      go_meet
      exact ⟨rfl, HR.out⟩
  case rest =>
  obtain ⟨rfl, HCC⟩ := hcut
  obtain ⟨w3, hwc⟩ : ∃ q, wc = q := ⟨_, rfl⟩
  rw [hwc] at HCC
  rw [hwc]
  have HQ3 : Hid (PrA w0 w3 p S3 ∧ KP p W0 w3) := HCC
  clear hwc HCC y2 HQ2
  have y3 : w3.cell? ⟨x, 3, none⟩ = some (.slice da nd dc) := cell_of_block (HXB.out w3 HQ3.out.2) rfl
  go_upto_if 45 with fail
  go_cut [0] from 45 to 52 (fun s0 wc => s0 = .pointer (some ⟨p, 0, none⟩) ∧ Hid (PrA w0 wc p S4 ∧ KP p W0 wc))
  case first =>
    by_cases hlt : 0 < nd
    · have hz : (0 : Int) < ((nd : Nat) : Int) := by omega
      have HSE : Hid (lineS [100, 114, 97, 119, 115] [.us da dc draws] S3 = S4) := by have := HS4.out; rw [if_pos hlt] at this; exact this
      obtain ⟨VC, hVC⟩ : ∃ V, w3.alloc (.cells #[.iface 61 (.slice da nd dc)] 20) = V := ⟨_, rfl⟩
      have hbC : Below w3.heap.size w3 VC := by rw [← hVC]; exact below_new _ _
      have hgC : VC.heap[w3.heap.size]? = some (.cells #[.iface 61 (.slice da nd dc)] 20 (0, 0)) := by rw [← hVC]; exact block_alloc_at _ _
      have HKC : Hid (KP p w3 VC) := KP.of hbC
      have hgC2 : VC.heap[w3.heap.size]? = some (.cells ([.us da dc draws].map prV).toArray 20 (0, 0)) := by rw [hgC, ← HNS.out.2.2.2.1]; rfl
      have HLC : Hid (Calls Tryd.prog 37 #[.pointer (some ⟨p, 0, none⟩), .string ⟨#[100, 114, 97, 119, 115]⟩, .slice (some ⟨w3.heap.size, 0, none⟩) 1 1] VC fun e W' => PD w0 VC p (lineS [100, 114, 97, 119, 115] [.us da dc draws] S3) e W') :=
        line_any w0 VC p w3.heap.size S3 [100, 114, 97, 119, 115] [.us da dc draws] 1 (PrA.kept HQ3.out.1 hbC) hgC2 (by have := (HQ3.out.1).ba.lt; omega) rfl (by decide) (by simp only [List.forall_mem_cons, List.not_mem_nil, false_imp_iff, implies_true, and_true]; exact HDR.out) hFU
      have HVC : Hid _ := hVC
      clear hlt hVC hbC hgC hgC2
      go_wp2_with fail
      rw [HVC.out]
      refine Calls.mono HLC.out ?_
      rintro e w2 ⟨rfl, q1, q2⟩
      have HR : Hid (PrA w0 w2 p S4 ∧ KP p W0 w2) := ⟨by rw [← HSE.out]; exact q1, (HQ3.out.2.trans HKC.out).trans q2⟩
      clear q1 q2 HLC HVC
      go_wp2_with fail
      go_meet
      exact ⟨rfl, HR.out⟩
    · have hz : ¬ (0 : Int) < ((nd : Nat) : Int) := by omega
      have HSE : Hid (S3 = S4) := by have := HS4.out; rw [if_neg hlt] at this; exact this
      have HR : Hid (PrA w0 w3 p S4 ∧ KP p W0 w3) := by rw [← HSE.out]; exact HQ3.out
      clear hlt
      go_wp2_with fail
      go_meet
      exact ⟨rfl, HR.out⟩
  case rest =>
  obtain ⟨rfl, HCC⟩ := hcut
  obtain ⟨w4, hwc⟩ : ∃ q, wc = q := ⟨_, rfl⟩
  rw [hwc] at HCC
  rw [hwc]
  have HQ4 : Hid (PrA w0 w4 p S4 ∧ KP p W0 w4) := HCC
  clear hwc HCC y3 HQ3
  have y4 : w4.cell? ⟨x, 4, none⟩ = some (.slice fa nf fc) := cell_of_block (HXB.out w4 HQ4.out.2) rfl
  go_wp2_with fail
  go_loopw [56] (fun i wr => ∃ j : Nat, j ≤ nf ∧ i = .int .i64 ((j : Nat) : Int) ∧ Hid (PrA w0 wr p ((faults.take j).foldl (fun s a => faultS a s) S4) ∧ KP p W0 wr)) (fun i _ => nf - (intOf i).toNat)
  case atStart => exact ⟨0, by omega, rfl, HQ4.out⟩
  case round =>
    obtain ⟨j, hj, rfl, HT⟩ := hrel
    by_cases hlt : j < nf
    · have hlz : ((j : Nat) : Int) < ((nf : Nat) : Int) := by omega
      obtain ⟨q, hv⟩ : ∃ q, faults[j]? = some q := ⟨_, List.getElem?_eq_getElem (by have := HNS.out; omega)⟩
      have HFT : Hid _ := fold_take faultS hv S4
      obtain ⟨hq, tb, off, rfl, _, c0, c1, c2⟩ := (HFL.out.below HT.out.1.bel) j q hv
      obtain ⟨op, nth, kd⟩ := q
      simp only at c0 c1 c2 hq
      obtain ⟨S, hS⟩ : ∃ S, (faults.take j).foldl (fun s a => faultS a s) S4 = S := ⟨_, rfl⟩
      rw [hS] at HT HFT
      obtain ⟨VL, hVL⟩ : ∃ V, (wr.alloc (.cells #[.int .i64 op, .int .i64 nth, .int .i64 kd] 92)).alloc (.cells #[.iface 3 (.int .i64 op), .iface 3 (.int .i64 nth), .iface 3 (.int .i64 kd)] 20) = V := ⟨_, rfl⟩
      have hbL : Below wr.heap.size wr VL := by
        rw [← hVL]
        exact (((Below.refl _ _).alloc (Nat.le_refl _) _).alloc (by simp) _)
      have hgL : VL.heap[wr.heap.size + 1]? = some (.cells #[.iface 3 (.int .i64 op), .iface 3 (.int .i64 nth), .iface 3 (.int .i64 kd)] 20 (0, 0)) := by
        rw [← hVL]
        have := block_alloc_at ((wr.alloc (.cells #[.int .i64 op, .int .i64 nth, .int .i64 kd] 92))) (.cells #[.iface 3 (.int .i64 op), .iface 3 (.int .i64 nth), .iface 3 (.int .i64 kd)] 20); rw [World.size_alloc] at this; exact this
      have HVL : Hid ((wr.alloc (.cells #[.int .i64 op, .int .i64 nth, .int .i64 kd] 92)).alloc (.cells #[.iface 3 (.int .i64 op), .iface 3 (.int .i64 nth), .iface 3 (.int .i64 kd)] 20) = VL) := hVL
      have HKL : Hid (KP p wr VL) := KP.of hbL
      have HLL : Hid (Calls Tryd.prog 37 #[.pointer (some ⟨p, 0, none⟩), .string ⟨#[102, 97, 117, 108, 116]⟩, .slice (some ⟨wr.heap.size + 1, 0, none⟩) 3 3] VL fun e W' => PD w0 VL p (lineS [102, 97, 117, 108, 116] [.i op, .i nth, .i kd] S) e W') :=
        line_any w0 VL p (wr.heap.size + 1) S [102, 97, 117, 108, 116] [.i op, .i nth, .i kd] 3 (PrA.kept HT.out.1 hbL) hgL (by have := (HT.out.1).ba.lt; omega) rfl (by decide) (by simp only [List.forall_mem_cons, List.not_mem_nil, false_imp_iff, implies_true, and_true]; exact ⟨hq.1, hq.2.1, hq.2.2⟩) hFU
      clear hVL hbL hgL
      clear hv hS hq
      go_wp2_with fail
      rw [HVL.out]
      refine Calls.mono HLL.out ?_
      rintro e w2 ⟨rfl, q1, q2⟩
      have HR : Hid (PrA w0 w2 p ((faults.take (j + 1)).foldl (fun s a => faultS a s) S4) ∧ KP p W0 w2) := by
        rw [Hid, HFT.out]
        exact ⟨q1, (HT.out.2.trans HKL.out).trans q2⟩
      clear q1 q2 HLL HVL
      go_wp2_with fail
      go_roundw
      case rel => exact ⟨j + 1, by omega, by go_num, HR.out⟩
      case measure => simp [intOf]; omega
    · obtain rfl : j = nf := by omega
      have hlz : ¬ ((j : Nat) : Int) < ((j : Nat) : Int) := by omega
      obtain ⟨w5, hwc⟩ : ∃ q, wr = q := ⟨_, rfl⟩
      have HQ5 : Hid (PrA w0 w5 p S5 ∧ KP p W0 w5) := by
        have h1 := HT.out
        have h2 := HNS.out
        rw [show faults.take j = faults from List.take_of_length_le (by omega), HS5.out, hwc] at h1
        exact h1
      rw [hwc]
      clear hwc HT y4
      have y5 : w5.cell? ⟨x, 0, none⟩ = some (.slice aa na ac) := cell_of_block (HXB.out w5 HQ5.out.2) rfl
      go_wp2_with fail
      go_loopw [76] (fun i wr => ∃ j : Nat, j ≤ na ∧ i = .int .i64 ((j : Nat) : Int) ∧ Hid (PrA w0 wr p ((arr.take j).foldl (fun s a => atS a s) S5) ∧ KP p W0 wr)) (fun i _ => na - (intOf i).toNat)
      case atStart => exact ⟨0, by omega, rfl, HQ5.out⟩
      case round =>
        obtain ⟨j, hj, rfl, HT⟩ := hrel
        by_cases hlt : j < na
        · have hlz : ((j : Nat) : Int) < ((na : Nat) : Int) := by omega
          obtain ⟨q, hv⟩ : ∃ q, arr[j]? = some q := ⟨_, List.getElem?_eq_getElem (by have := HNS.out; omega)⟩
          have HFT : Hid _ := fold_take atS hv S5
          obtain ⟨hq, tb, off, rfl, _, c0, c1, c2⟩ := (HAR.out.below HT.out.1.bel) j q hv
          obtain ⟨op, nth, kd⟩ := q
          simp only at c0 c1 c2 hq
          obtain ⟨S, hS⟩ : ∃ S, (arr.take j).foldl (fun s a => atS a s) S5 = S := ⟨_, rfl⟩
          rw [hS] at HT HFT
          obtain ⟨VL, hVL⟩ : ∃ V, (wr.alloc (.cells #[.int .i64 op, .int .i64 nth, .string (bOf kd)] 94)).alloc (.cells #[.iface 3 (.int .i64 op), .iface 3 (.int .i64 nth), .iface 9 (.string (bOf kd))] 20) = V := ⟨_, rfl⟩
          have hbL : Below wr.heap.size wr VL := by
            rw [← hVL]
            exact (((Below.refl _ _).alloc (Nat.le_refl _) _).alloc (by simp) _)
          have hgL : VL.heap[wr.heap.size + 1]? = some (.cells #[.iface 3 (.int .i64 op), .iface 3 (.int .i64 nth), .iface 9 (.string (bOf kd))] 20 (0, 0)) := by
            rw [← hVL]
            have := block_alloc_at ((wr.alloc (.cells #[.int .i64 op, .int .i64 nth, .string (bOf kd)] 94))) (.cells #[.iface 3 (.int .i64 op), .iface 3 (.int .i64 nth), .iface 9 (.string (bOf kd))] 20); rw [World.size_alloc] at this; exact this
          have HVL : Hid ((wr.alloc (.cells #[.int .i64 op, .int .i64 nth, .string (bOf kd)] 94)).alloc (.cells #[.iface 3 (.int .i64 op), .iface 3 (.int .i64 nth), .iface 9 (.string (bOf kd))] 20) = VL) := hVL
          have HKL : Hid (KP p wr VL) := KP.of hbL
          have HLL : Hid (Calls Tryd.prog 37 #[.pointer (some ⟨p, 0, none⟩), .string ⟨#[97, 116]⟩, .slice (some ⟨wr.heap.size + 1, 0, none⟩) 3 3] VL fun e W' => PD w0 VL p (lineS [97, 116] [.i op, .i nth, .s kd] S) e W') :=
            line_any w0 VL p (wr.heap.size + 1) S [97, 116] [.i op, .i nth, .s kd] 3 (PrA.kept HT.out.1 hbL) hgL (by have := (HT.out.1).ba.lt; omega) rfl (by decide) (by simp only [List.forall_mem_cons, List.not_mem_nil, false_imp_iff, implies_true, and_true]; exact ⟨hq.1, hq.2, trivial⟩) hFU
          clear hVL hbL hgL
          clear hv hS hq
          go_wp2_with fail
          rw [HVL.out]
          refine Calls.mono HLL.out ?_
          rintro e w2 ⟨rfl, q1, q2⟩
          have HR : Hid (PrA w0 w2 p ((arr.take (j + 1)).foldl (fun s a => atS a s) S5) ∧ KP p W0 w2) := by
            rw [Hid, HFT.out]
            exact ⟨q1, (HT.out.2.trans HKL.out).trans q2⟩
          clear q1 q2 HLL HVL
          go_wp2_with fail
          go_roundw
          case rel => exact ⟨j + 1, by omega, by go_num, HR.out⟩
          case measure => simp [intOf]; omega
        · obtain rfl : j = na := by omega
          have hlz : ¬ ((j : Nat) : Int) < ((j : Nat) : Int) := by omega
          obtain ⟨w6, hwc⟩ : ∃ q, wr = q := ⟨_, rfl⟩
          have HQ6 : Hid (PrA w0 w6 p S6 ∧ KP p W0 w6) := by
            have h1 := HT.out
            have h2 := HNS.out
            rw [show arr.take j = arr from List.take_of_length_le (by omega), HS6.out, hwc] at h1
            exact h1
          rw [hwc]
          clear hwc HT y5
          have y7 : w6.cell? ⟨x, 7, none⟩ = some (.int .i64 dir) := cell_of_block (HXB.out w6 HQ6.out.2) rfl
          have y8 : w6.cell? ⟨x, 8, none⟩ = some (.slice ka nk kc) := cell_of_block (HXB.out w6 HQ6.out.2) rfl
          by_cases hd : dir = 0
          · by_cases hk : 0 < nk
            · have HIF : Hid (dir ≠ 0 ∨ 0 < nk) := .inr hk
              have hdz : (dir != 0) = false := by simp [hd]
              have hkz : (0 : Int) < ((nk : Nat) : Int) := by omega
              have hkd : decide (0 < nk) = true := decide_eq_true hk
              clear hd hk
              obtain ⟨VC, hVC⟩ : ∃ V, w6.alloc (.cells #[.iface 3 (.int .i64 dir), .iface 60 (.slice ka nk kc)] 20) = V := ⟨_, rfl⟩
              have hbC : Below w6.heap.size w6 VC := by rw [← hVC]; exact below_new _ _
              have hgC : VC.heap[w6.heap.size]? = some (.cells #[.iface 3 (.int .i64 dir), .iface 60 (.slice ka nk kc)] 20 (0, 0)) := by rw [← hVC]; exact block_alloc_at _ _
              have HKC : Hid (KP p w6 VC) := KP.of hbC
              have hgC2 : VC.heap[w6.heap.size]? = some (.cells (([.i dir, .is ka kc keep] : List Prt).map prV).toArray 20 (0, 0)) := by rw [hgC, ← HNS.out.2.2.2.2.2]; rfl
              have HLC : Hid (Calls Tryd.prog 37 #[.pointer (some ⟨p, 0, none⟩), .string ⟨#[99, 114, 97, 115, 104]⟩, .slice (some ⟨w6.heap.size, 0, none⟩) 2 2] VC fun e W' => PD w0 VC p (lineS [99, 114, 97, 115, 104] [.i dir, .is ka kc keep] S6) e W') :=
                line_any w0 VC p w6.heap.size S6 [99, 114, 97, 115, 104] [.i dir, .is ka kc keep] 2 (PrA.kept HQ6.out.1 hbC) hgC2 (by have := (HQ6.out.1).ba.lt; omega) rfl (by decide) (by simp only [List.forall_mem_cons, List.not_mem_nil, false_imp_iff, implies_true, and_true]; exact ⟨HNU.out.2.2, HKE.out⟩) hFU
              have HVC : Hid _ := hVC
              clear hVC hbC hgC hgC2
              go_wp2_with fail
              rw [HVC.out]
              refine Calls.mono HLC.out ?_
              rintro e w7 ⟨rfl, q1, q2⟩
              have HR : Hid (PD w0 W p (termS ⟨aa, ac, arr, pa, pc, picks, ta, tc, ticks, da, dc, draws, fa, fc, faults, steps, stop, dir, ka, kc, keep⟩ s) (.returned (.tuple #[])) w7) := by
                rw [Hid, HTE.out, if_pos HIF.out]
                exact ⟨rfl, q1, HP0.out.2.trans ((HQ6.out.2.trans HKC.out).trans q2)⟩
              clear q1 q2 HLC HVC
              go_wp2_with fail
              go_end0
              exact HR.out
            · have hdz : (dir != 0) = false := by simp [hd]
              have hkz : ¬ (0 : Int) < ((nk : Nat) : Int) := by omega
              have hkd : decide (0 < nk) = false := decide_eq_false hk
              have HR : Hid (PD w0 W p (termS ⟨aa, ac, arr, pa, pc, picks, ta, tc, ticks, da, dc, draws, fa, fc, faults, steps, stop, dir, ka, kc, keep⟩ s) (.returned (.tuple #[])) w6) := by
                rw [Hid, HTE.out, if_neg (by omega)]
                exact ⟨rfl, HQ6.out.1, HP0.out.2.trans HQ6.out.2⟩
              clear hd hk
              go_wp2_with fail
              go_end0
              exact HR.out
          · have HIF : Hid (dir ≠ 0 ∨ 0 < nk) := .inl hd
            have hdz : (dir != 0) = true := by simp [hd]
            clear hd
            obtain ⟨VC, hVC⟩ : ∃ V, w6.alloc (.cells #[.iface 3 (.int .i64 dir), .iface 60 (.slice ka nk kc)] 20) = V := ⟨_, rfl⟩
            have hbC : Below w6.heap.size w6 VC := by rw [← hVC]; exact below_new _ _
            have hgC : VC.heap[w6.heap.size]? = some (.cells #[.iface 3 (.int .i64 dir), .iface 60 (.slice ka nk kc)] 20 (0, 0)) := by rw [← hVC]; exact block_alloc_at _ _
            have HKC : Hid (KP p w6 VC) := KP.of hbC
            have hgC2 : VC.heap[w6.heap.size]? = some (.cells (([.i dir, .is ka kc keep] : List Prt).map prV).toArray 20 (0, 0)) := by rw [hgC, ← HNS.out.2.2.2.2.2]; rfl
            have HLC : Hid (Calls Tryd.prog 37 #[.pointer (some ⟨p, 0, none⟩), .string ⟨#[99, 114, 97, 115, 104]⟩, .slice (some ⟨w6.heap.size, 0, none⟩) 2 2] VC fun e W' => PD w0 VC p (lineS [99, 114, 97, 115, 104] [.i dir, .is ka kc keep] S6) e W') :=
              line_any w0 VC p w6.heap.size S6 [99, 114, 97, 115, 104] [.i dir, .is ka kc keep] 2 (PrA.kept HQ6.out.1 hbC) hgC2 (by have := (HQ6.out.1).ba.lt; omega) rfl (by decide) (by simp only [List.forall_mem_cons, List.not_mem_nil, false_imp_iff, implies_true, and_true]; exact ⟨HNU.out.2.2, HKE.out⟩) hFU
            have HVC : Hid _ := hVC
            clear hVC hbC hgC hgC2
            go_wp2_with fail
            rw [HVC.out]
            refine Calls.mono HLC.out ?_
            rintro e w7 ⟨rfl, q1, q2⟩
            have HR : Hid (PD w0 W p (termS ⟨aa, ac, arr, pa, pc, picks, ta, tc, ticks, da, dc, draws, fa, fc, faults, steps, stop, dir, ka, kc, keep⟩ s) (.returned (.tuple #[])) w7) := by
              rw [Hid, HTE.out, if_pos HIF.out]
              exact ⟨rfl, q1, HP0.out.2.trans ((HQ6.out.2.trans HKC.out).trans q2)⟩
            clear q1 q2 HLC HVC
            go_wp2_with fail
            go_end0
            exact HR.out
end Go.Proofs.YtcdagmgbfihbdaaDoor
