/-
  The printer: config.
-/
import Derived.Test.YtcdagmgbfihbdaaDoorLin
namespace Go.Proofs.YtcdagmgbfihbdaaDoor
open Go.RowKit
structure Ten where
  name : List UInt8
  key : List UInt8
  quota : Int
def TenAt (w : World) (a : Option Addr) (l : List Ten) : Prop := ∀ j t, l[j]? = some t → i64ok t.quota ∧ ∃ b off, a = some ⟨b, off, none⟩ ∧ b < w.heap.size ∧ w.cell? ⟨b, off + j * 3, none⟩ = some (.string (bOf t.name)) ∧ w.cell? ⟨b, off + j * 3 + 1, none⟩ = some (.string (bOf t.key)) ∧ w.cell? ⟨b, off + j * 3 + 2, none⟩ = some (.int .i64 t.quota)
theorem TenAt.below {W W' : World} {a : Option Addr} {l : List Ten} (h : TenAt W a l) (k : Below W.heap.size W W') : TenAt W' a l := fun j v hj => by
  obtain ⟨ho, b, off, e, hb, h0, h1, h2⟩ := h j v hj
  exact ⟨ho, b, off, e, Nat.lt_of_lt_of_le hb k.size, (k.cell (p := ⟨b, off + j * 3, none⟩) hb).trans h0, (k.cell (p := ⟨b, off + j * 3 + 1, none⟩) hb).trans h1, (k.cell (p := ⟨b, off + j * 3 + 2, none⟩) hb).trans h2⟩
structure Opt where
  block : Int
  restart : Int
  bits : Int
  mem : Int
  zero : Int
  base : Int
  fan : Int
def optOk (o : Opt) : Prop := i64ok o.block ∧ i64ok o.restart ∧ i64ok o.bits ∧ i64ok o.mem ∧ i64ok o.zero ∧ i64ok o.base ∧ i64ok o.fan
def tenantS (t : Ten) (s : PS) : PS := lineS [116, 101, 110, 97, 110, 116] [.s t.name, .s t.key, .i t.quota] s
def configS (l : List Ten) (o : Opt) (c : Int) (s : PS) : PS := lineS [100, 105, 115, 107] [.i c] (lineS [101, 110, 103, 105, 110, 101] [.i o.block, .i o.restart, .i o.bits, .i o.mem, .i o.zero, .i o.base, .i o.fan] (l.foldl (fun s t => tenantS t s) s))
theorem ten_take {l : List Ten} {k : Nat} {x : Ten} (h : l[k]? = some x) (s : PS) : (l.take (k + 1)).foldl (fun s x => tenantS x s) s = tenantS x ((l.take k).foldl (fun s x => tenantS x s) s) := by
  rw [List.take_add_one, h, Option.toList, List.foldl_append]
  rfl
set_option maxRecDepth 100000 in
set_option maxHeartbeats 8000000 in
theorem config_any (w0 W : World) (p : Nat) (s : PS) (ta : Option Addr) (tc n : Nat) (l : List Ten) (o : Opt) (c : Int) (h : PrA w0 W p s) (hl : l.length = n) (hn : n ≤ 1000000) (ht : TenAt w0 ta l) (ho : optOk o) (hc : i64ok c) (hFU : Hid FUint) :
    Calls Tryd.prog 25 #[.pointer (some ⟨p, 0, none⟩), .agg #[.slice ta n tc, .int .i64 o.block, .int .i64 o.restart, .int .i64 o.bits, .int .i64 o.mem, .int .i64 o.zero, .int .i64 o.base, .int .i64 o.fan, .int .i64 c]] W fun e W' => PD w0 W p (configS l o c s) e W' := by
  obtain ⟨o1, o2, o3, o4, o5, o6, o7⟩ := o
  obtain ⟨W0, hW0⟩ : ∃ V, W.alloc (.cells #[.slice ta n tc, .int .i64 o1, .int .i64 o2, .int .i64 o3, .int .i64 o4, .int .i64 o5, .int .i64 o6, .int .i64 o7, .int .i64 c] 33) = V := ⟨_, rfl⟩
  obtain ⟨x, hx⟩ : ∃ q, W.heap.size = q := ⟨_, rfl⟩
  have hxb : W0.heap[x]? = some (.cells #[.slice ta n tc, .int .i64 o1, .int .i64 o2, .int .i64 o3, .int .i64 o4, .int .i64 o5, .int .i64 o6, .int .i64 o7, .int .i64 c] 33 (0, 0)) := by rw [← hW0, ← hx]; exact block_alloc_at _ _
  have HXB : Hid (∀ V, KP p W0 V → V.heap[x]? = some (.cells #[.slice ta n tc, .int .i64 o1, .int .i64 o2, .int .i64 o3, .int .i64 o4, .int .i64 o5, .int .i64 o6, .int .i64 o7, .int .i64 c] 33 (0, 0))) := fun V hV => hV.keep x _ hxb (by have := h.ba.lt; omega) (fun c f e => by simp at e)
  have HP0 : Hid (PrA w0 W0 p s ∧ KP p W W0) := by rw [Hid, ← hW0]; exact ⟨h.kept (below_new _ _), KP.of (below_new _ _)⟩
  have HTN : Hid (TenAt w0 ta l) := ht
  have HN : Hid (l.length = n) := hl
  have HOK : Hid (optOk ⟨o1, o2, o3, o4, o5, o6, o7⟩ ∧ i64ok c) := ⟨ho, hc⟩
  have x0 : W0.cell? ⟨x, 0, none⟩ = some (.slice ta n tc) := cell_of_block hxb rfl
  rw [← hW0, ← hx] at x0
  have HW0 : Hid _ := hW0
  have HX : Hid _ := hx
  simp only
  clear h hl ht ho hc hxb hW0 hx
  go_enter Tryd.func25, Tryd.ntmps25
  go_wp2_with fail
  rw [HW0.out, HX.out]
  clear x0 HW0 HX
  go_loopw [10] (fun i wr => ∃ k : Nat, k ≤ n ∧ i = .int .i64 ((k : Nat) : Int) ∧ Hid (PrA w0 wr p ((l.take k).foldl (fun s t => tenantS t s) s) ∧ KP p W0 wr)) (fun i _ => n - (intOf i).toNat)
  case atStart => exact ⟨0, by omega, rfl, HP0.out.1, KP.refl p W0⟩
  case round =>
    obtain ⟨k, hk, rfl, HT⟩ := hrel
    by_cases hlt : k < n
    · have hlz : ((k : Nat) : Int) < ((n : Nat) : Int) := by omega
      obtain ⟨t, hv⟩ : ∃ t, l[k]? = some t := ⟨_, List.getElem?_eq_getElem (by rw [HN.out]; exact hlt)⟩
      have hft := ten_take hv s
      have HFT : Hid _ := hft
      obtain ⟨hq, tb, off, rfl, _, c0, c1, c2⟩ := (HTN.out.below HT.out.1.bel) k t hv
      obtain ⟨nm, ky, qt⟩ := t
      simp only at c0 c1 c2 hq
      obtain ⟨S, hS⟩ : ∃ S, (l.take k).foldl (fun s t => tenantS t s) s = S := ⟨_, rfl⟩
      rw [hS] at HT HFT
      obtain ⟨V1, hV1⟩ : ∃ V, (wr.alloc (.cells #[.string (bOf nm), .string (bOf ky), .int .i64 qt] 58)).alloc (.cells #[.iface 9 (.string (bOf nm)), .iface 9 (.string (bOf ky)), .iface 3 (.int .i64 qt)] 20) = V := ⟨_, rfl⟩
      have hb1 : Below wr.heap.size wr V1 := by
        rw [← hV1]
        exact (((Below.refl _ _).alloc (Nat.le_refl _) _).alloc (by simp) _)
      have hg1 : V1.heap[wr.heap.size + 1]? = some (.cells #[.iface 9 (.string (bOf nm)), .iface 9 (.string (bOf ky)), .iface 3 (.int .i64 qt)] 20 (0, 0)) := by
        rw [← hV1]
        have := block_alloc_at ((wr.alloc (.cells #[.string (bOf nm), .string (bOf ky), .int .i64 qt] 58))) (.cells #[.iface 9 (.string (bOf nm)), .iface 9 (.string (bOf ky)), .iface 3 (.int .i64 qt)] 20); rw [World.size_alloc] at this; exact this
      have HV1 : Hid ((wr.alloc (.cells #[.string (bOf nm), .string (bOf ky), .int .i64 qt] 58)).alloc (.cells #[.iface 9 (.string (bOf nm)), .iface 9 (.string (bOf ky)), .iface 3 (.int .i64 qt)] 20) = V1) := hV1
      have HK1 : Hid (KP p wr V1) := KP.of hb1
      have HL1 : Hid (Calls Tryd.prog 37 #[.pointer (some ⟨p, 0, none⟩), .string ⟨#[116, 101, 110, 97, 110, 116]⟩, .slice (some ⟨wr.heap.size + 1, 0, none⟩) 3 3] V1 fun e W' => PD w0 V1 p (lineS [116, 101, 110, 97, 110, 116] [.s nm, .s ky, .i qt] S) e W') :=
        line_any w0 V1 p (wr.heap.size + 1) S [116, 101, 110, 97, 110, 116] [.s nm, .s ky, .i qt] 3 (PrA.kept HT.out.1 hb1) hg1 (by have := (HT.out.1).ba.lt; omega) rfl (by decide) (by simp only [List.forall_mem_cons, List.not_mem_nil, false_imp_iff, implies_true, and_true]; exact ⟨trivial, trivial, hq⟩) hFU
      clear hV1 hb1 hg1
      clear hv hft hS hq
      go_wp2_with fail
      rw [HV1.out]
      refine Calls.mono HL1.out ?_
      rintro e w2 ⟨rfl, q1, q2⟩
      have HQ : Hid (PrA w0 w2 p ((l.take (k + 1)).foldl (fun s t => tenantS t s) s) ∧ KP p W0 w2) := by
        rw [Hid, HFT.out]
        exact ⟨q1, (HT.out.2.trans HK1.out).trans q2⟩
      clear q1 q2 HL1 HV1
      go_wp2_with fail
      go_roundw
      case rel => exact ⟨k + 1, by omega, by go_num, HQ.out⟩
      case measure => simp [intOf]; omega
    · obtain rfl : k = n := by omega
      have hlz : ¬ ((k : Nat) : Int) < ((k : Nat) : Int) := by omega
      have hb := HXB.out wr HT.out.2
      have y1 : wr.cell? ⟨x, 1, none⟩ = some (.int .i64 o1) := cell_of_block hb rfl
      have y2 : wr.cell? ⟨x, 2, none⟩ = some (.int .i64 o2) := cell_of_block hb rfl
      have y3 : wr.cell? ⟨x, 3, none⟩ = some (.int .i64 o3) := cell_of_block hb rfl
      have y4 : wr.cell? ⟨x, 4, none⟩ = some (.int .i64 o4) := cell_of_block hb rfl
      have y5 : wr.cell? ⟨x, 5, none⟩ = some (.int .i64 o5) := cell_of_block hb rfl
      have y6 : wr.cell? ⟨x, 6, none⟩ = some (.int .i64 o6) := cell_of_block hb rfl
      have y7 : wr.cell? ⟨x, 7, none⟩ = some (.int .i64 o7) := cell_of_block hb rfl
      obtain ⟨S, hS⟩ : ∃ S, l.foldl (fun s t => tenantS t s) s = S := ⟨_, rfl⟩
      have HTP : Hid (PrA w0 wr p S ∧ KP p W0 wr) := by
        have := HT.out
        rw [← HN.out, List.take_length, hS] at this
        exact this
      have HSS : Hid (l.foldl (fun s t => tenantS t s) s = S) := hS
      obtain ⟨k1, k2, k3, k4, k5, k6, k7⟩ := HOK.out.1
      simp only at k1 k2 k3 k4 k5 k6 k7
      obtain ⟨V2, hV2⟩ : ∃ V, (wr.alloc (.cells #[.int .i64 o1, .int .i64 o2, .int .i64 o3, .int .i64 o4, .int .i64 o5, .int .i64 o6, .int .i64 o7] 31)).alloc (.cells #[.iface 3 (.int .i64 o1), .iface 3 (.int .i64 o2), .iface 3 (.int .i64 o3), .iface 3 (.int .i64 o4), .iface 3 (.int .i64 o5), .iface 3 (.int .i64 o6), .iface 3 (.int .i64 o7)] 20) = V := ⟨_, rfl⟩
      have hb2 : Below wr.heap.size wr V2 := by
        rw [← hV2]
        exact (((Below.refl _ _).alloc (Nat.le_refl _) _).alloc (by simp) _)
      have hg2 : V2.heap[wr.heap.size + 1]? = some (.cells #[.iface 3 (.int .i64 o1), .iface 3 (.int .i64 o2), .iface 3 (.int .i64 o3), .iface 3 (.int .i64 o4), .iface 3 (.int .i64 o5), .iface 3 (.int .i64 o6), .iface 3 (.int .i64 o7)] 20 (0, 0)) := by
        rw [← hV2]
        have := block_alloc_at ((wr.alloc (.cells #[.int .i64 o1, .int .i64 o2, .int .i64 o3, .int .i64 o4, .int .i64 o5, .int .i64 o6, .int .i64 o7] 31))) (.cells #[.iface 3 (.int .i64 o1), .iface 3 (.int .i64 o2), .iface 3 (.int .i64 o3), .iface 3 (.int .i64 o4), .iface 3 (.int .i64 o5), .iface 3 (.int .i64 o6), .iface 3 (.int .i64 o7)] 20); rw [World.size_alloc] at this; exact this
      have HV2 : Hid ((wr.alloc (.cells #[.int .i64 o1, .int .i64 o2, .int .i64 o3, .int .i64 o4, .int .i64 o5, .int .i64 o6, .int .i64 o7] 31)).alloc (.cells #[.iface 3 (.int .i64 o1), .iface 3 (.int .i64 o2), .iface 3 (.int .i64 o3), .iface 3 (.int .i64 o4), .iface 3 (.int .i64 o5), .iface 3 (.int .i64 o6), .iface 3 (.int .i64 o7)] 20) = V2) := hV2
      have HK2 : Hid (KP p wr V2) := KP.of hb2
      have HL2 : Hid (Calls Tryd.prog 37 #[.pointer (some ⟨p, 0, none⟩), .string ⟨#[101, 110, 103, 105, 110, 101]⟩, .slice (some ⟨wr.heap.size + 1, 0, none⟩) 7 7] V2 fun e W' => PD w0 V2 p (lineS [101, 110, 103, 105, 110, 101] [.i o1, .i o2, .i o3, .i o4, .i o5, .i o6, .i o7] S) e W') :=
        line_any w0 V2 p (wr.heap.size + 1) S [101, 110, 103, 105, 110, 101] [.i o1, .i o2, .i o3, .i o4, .i o5, .i o6, .i o7] 7 (PrA.kept HTP.out.1 hb2) hg2 (by have := (HTP.out.1).ba.lt; omega) rfl (by decide) (by simp only [List.forall_mem_cons, List.not_mem_nil, false_imp_iff, implies_true, and_true]; exact ⟨k1, k2, k3, k4, k5, k6, k7⟩) hFU
      clear hV2 hb2 hg2
      clear hb hS k1 k2 k3 k4 k5 k6 k7 HT
      go_wp2_with fail
      rw [HV2.out]
      refine Calls.mono HL2.out ?_
      rintro e w2 ⟨rfl, q1, q2⟩
      obtain ⟨S2, hS2⟩ : ∃ S2, lineS [101, 110, 103, 105, 110, 101] [.i o1, .i o2, .i o3, .i o4, .i o5, .i o6, .i o7] S = S2 := ⟨_, rfl⟩
      rw [hS2] at q1
      have HQ2 : Hid (PrA w0 w2 p S2 ∧ KP p W0 w2) := ⟨q1, (HTP.out.2.trans HK2.out).trans q2⟩
      have HS2 : Hid _ := hS2
      clear q1 q2 HL2 HV2 hS2 y1 y2 y3 y4 y5 y6 y7
      have y8 : w2.cell? ⟨x, 8, none⟩ = some (.int .i64 c) := cell_of_block (HXB.out w2 HQ2.out.2) rfl
      obtain ⟨V3, hV3⟩ : ∃ V, w2.alloc (.cells #[.iface 3 (.int .i64 c)] 20) = V := ⟨_, rfl⟩
      have hb3 : Below w2.heap.size w2 V3 := by
        rw [← hV3]
        exact ((Below.refl _ _).alloc (Nat.le_refl _) _)
      have hg3 : V3.heap[w2.heap.size]? = some (.cells #[.iface 3 (.int .i64 c)] 20 (0, 0)) := by
        rw [← hV3]
        exact block_alloc_at _ _
      have HV3 : Hid (w2.alloc (.cells #[.iface 3 (.int .i64 c)] 20) = V3) := hV3
      have HK3 : Hid (KP p w2 V3) := KP.of hb3
      have HL3 : Hid (Calls Tryd.prog 37 #[.pointer (some ⟨p, 0, none⟩), .string ⟨#[100, 105, 115, 107]⟩, .slice (some ⟨w2.heap.size, 0, none⟩) 1 1] V3 fun e W' => PD w0 V3 p (lineS [100, 105, 115, 107] [.i c] S2) e W') :=
        line_any w0 V3 p (w2.heap.size) S2 [100, 105, 115, 107] [.i c] 1 (PrA.kept HQ2.out.1 hb3) hg3 (by have := (HQ2.out.1).ba.lt; omega) rfl (by decide) (by simp only [List.forall_mem_cons, List.not_mem_nil, false_imp_iff, implies_true, and_true]; exact HOK.out.2) hFU
      clear hV3 hb3 hg3
      go_wp2_with fail
      rw [HV3.out]
      refine Calls.mono HL3.out ?_
      rintro e w3 ⟨rfl, q1, q2⟩
      have HD : Hid (PD w0 W p (configS l ⟨o1, o2, o3, o4, o5, o6, o7⟩ c s) (.returned (.tuple #[])) w3) := by
        refine ⟨rfl, ?_, HP0.out.2.trans ((HQ2.out.2.trans HK3.out).trans q2)⟩
        have e : configS l ⟨o1, o2, o3, o4, o5, o6, o7⟩ c s = lineS [100, 105, 115, 107] [.i c] S2 := by rw [← HS2.out, ← HSS.out]; rfl
        rw [e]
        exact q1
      clear q1 q2 HL3 HV3
      go_wp2_with fail
      go_end0
      exact HD.out
end Go.Proofs.YtcdagmgbfihbdaaDoor
