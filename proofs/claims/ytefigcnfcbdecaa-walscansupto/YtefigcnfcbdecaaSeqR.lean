/-
  Records: what it hands back goes over the records, in a walk of its own.
-/
import Derived.Test.YtefigcnfcbdecaaRangeW
import Derived.Test.YtefigcnfcbdecaaLives
import Derived.RangeFuncNested
namespace Go.Proofs.Ytefigcnfcbdecaa
open Go.RowKit
theorem wide_yield {m : Nat} (m' : Nat) {l : Nat} {args : Array Value} {W : World} {R : Ending → World → Prop} (h : YieldAt Fence.wide m Try.prog l args W R) : YieldAt Fence.wide m' Try.prog l args W R := by
  obtain ⟨fn, tmps, assign, body, hy, hR⟩ := h
  exact ⟨fn, tmps, assign, body, hy, hR.1, fun c cs _ => hR.2 c cs (room_wide _)⟩
/-- What the walk may do to memory, told by those who lay ahead of it. -/
def Ahead (z : Nat) (A B : World) : Prop := Below z A B ∧ KeepsOthers A B
theorem ahead_mv {z x : Nat} (hz : z ≤ x) {A B : World} (h : Mv x A B) : Ahead z A B := by
  refine ⟨h.1.below hz ?_, h.others⟩
  obtain ⟨c, f, hc⟩ := h.2
  have := (Array.getElem?_eq_some_iff.1 hc).1
  omega
set_option maxRecDepth 100000 in
set_option maxHeartbeats 2000000 in
theorem records30_seq (n : Nat) (hn : 2 ≤ n) (z x c0 : Nat) (a : Option Addr) (cap : Nat) (l : List UInt8) (W : World) (hx : W.heap.size = x) (hz : z ≤ x) (hc : W.cell? ⟨c0, 0, none⟩ = some (.slice a l.length cap)) (hb : BytesAt W a l)
    (hN : l.length ≤ 140737488355328) (hcap : l.length ≤ cap) (hc0 : a = none → cap = 0) (hsp : ∀ ad, a = some ad → ad.spot = none ∨ cap = 0) :
    SeqW Fence.wide n Try.prog 30 #[] #[.pointer (some ⟨c0, 0, none⟩)] encR (Ahead z) (At x a cap l) (End x a cap l) (fun pre => ∃ rest, pre ++ rest = (scanL l).1) (scanL l).1.length W := fun lp J Jx hJ hJx hY h0 => by
  have hne : l ≠ [] → ∀ ad, a = some ad → ad.block ≠ x := by
    intro hl ad ha
    cases l with
    | nil => exact absurd rfl hl
    | cons u us =>
      obtain ⟨b, off, e, hb', _⟩ := hb 0 u rfl
      rw [ha] at e
      cases e
      show b ≠ _
      omega
  have B0 : Below W.heap.size W (W.alloc (.cells #[.slice a l.length cap, .int .i64 0, .int .i64 0] 62)) := (Below.refl _ W).alloc (Nat.le_refl _) _
  have HQ := records_seq (n - 1) (by omega) x a cap l hN hcap hc0 hsp hne lp J Jx (W.alloc (.cells #[.slice a l.length cap, .int .i64 0, .int .i64 0] 62)) (fun s A B h m => hJ s A B h (ahead_mv hz m)) (fun s A B h m => hJx s A B h (ahead_mv hz m))
    (fun pre r W1 h1 h2 h3 => wide_yield _ (hY pre r W1 h1 h2 h3))
    (hJ _ _ _ h0 ⟨B0.mono (by omega), ⟨by simp, fun k o ho _ => (Below.heap_alloc _ _ _ (Array.getElem?_eq_some_iff.1 ho).1).trans ho⟩⟩)
    ⟨⟨0, l.length + 1, rfl, rfl, by omega, by omega, fun e => absurd rfl e, by rw [← hx]; exact World.alloc_heap_new _ _⟩, hb.below (Nat.le_refl _) B0⟩
  have HQH : Hid _ := HQ
  clear HQ hne B0 hY hJ hJx
  refine callsIn_of_wp Try.func30 rfl trivial ?_ rfl
  refine wpIn_wide.2 ?_
  simp only [Try.ntmps30, List.size_toArray, List.length_cons, List.length_nil, Nat.reduceAdd, Nat.reduceSub, Array.replicate_succ, Array.replicate_zero, List.push_toArray, List.append_toArray, List.nil_append, List.cons_append]
  refine (wpIn_wide (n := n)).1 ?_
  gi_wp2
  refine ⟨trivial, fun _ => by omega, CallsIn.mono HQH.out ?_⟩
  rintro e w1 ⟨⟨v, rfl⟩, hr⟩
  gi_wp2
  refine bodyPost_end (results_none rfl _ _ _) rfl ?_
  exact ⟨⟨_, rfl⟩, hr⟩
set_option maxRecDepth 100000 in
theorem records_some (ad : Addr) (ca : Nat) (bs : List UInt8) (w : World) (h : BytesAt w (some ad) bs) (hl : bs.length ≤ 140737488355328) :
    Calls Try.prog 20 #[.slice (some ad) bs.length ca] w fun r w' => ∃ c0 g cap, r = .returned (.func (.func 30) #[] #[.pointer (some ⟨c0, 0, none⟩)]) ∧ Boxed w' c0 33 (.slice (some ⟨g, 0, none⟩) bs.length cap) ∧ bs.length ≤ cap ∧ w.heap.size ≤ c0 ∧ BytesAt w' (some ⟨g, 0, none⟩) bs ∧ Below w.heap.size w w' := by
  have HC : Hid _ := clone_any ad ca bs w h hl
  go_enter Try.func20, Try.ntmps20
  go_wp2_with fail
  refine Calls.mono HC.out ?_
  rintro e w1 ⟨g, cap, rfl, hcap, ho⟩
  have HO : Hid _ := ho
  go_wp2_with fail
  go_ret
  exact ⟨_, g, cap, rfl, World.alloc_heap_new _ _, hcap, HO.out.bel.size, HO.out.bytes.below (Nat.le_refl _) ((Below.refl _ _).alloc (Nat.le_refl _) _), HO.out.bel.alloc HO.out.bel.size _⟩
end Go.Proofs.Ytefigcnfcbdecaa
