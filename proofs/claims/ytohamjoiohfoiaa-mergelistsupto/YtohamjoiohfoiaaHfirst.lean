/-
  The first cell of a heap of heads.
-/
import Derived.Test.YtohamjoiohfoiaaHeap0
namespace Go.Proofs.Ytohamjoiohfoiaa
open Go.RowKit
set_option maxRecDepth 100000 in
set_option maxHeartbeats 2000000 in
theorem first_any (z p : Nat) (hs : List Hd) (x : Hd) (c : Cl) (W : World) (h : HAt z W p hs) (hx : hs[0]? = some x) (hc : x.cs[0]? = some c) :
    Calls Try.prog 38 #[.pointer (some ⟨p, 0, none⟩)] W fun r W' => r = .returned (clV c) ∧ Below W.heap.size W W' := by
  obtain ⟨g, cap, c0, hat⟩ := h.at
  obtain ⟨a0, _⟩ := hat 0 x hx
  have hi := (List.getElem?_eq_some_iff.1 hx).1
  rw [hdS] at a0
  obtain ⟨n, hn⟩ : ∃ n, hs.length = n := ⟨_, rfl⟩
  rw [hn] at c0 hi
  obtain ⟨b, o, e, _, p0, p1, p2, p3⟩ := (h.each x (List.mem_of_getElem? hx)).1 0 c hc
  simp only [Option.some.injEq, Addr.mk.injEq, and_true] at e
  obtain ⟨rfl, rfl⟩ := e
  have hxl : 0 < x.cs.length := (List.getElem?_eq_some_iff.1 hc).1
  simp only [Nat.zero_mul, Nat.add_zero] at p0 p1 p2 p3 a0
  obtain ⟨xb, xo, xc, xcs, nx⟩ := x
  obtain ⟨k1, s1, v1, g1⟩ := c
  simp only at a0 p0 p1 p2 p3 hxl
  obtain ⟨xn, hxn⟩ : ∃ xn, xcs.length = xn := ⟨_, rfl⟩
  rw [hxn] at a0 hxl
  have n1 : W.heap.size ≠ p := World.new_ne W _ c0
  have n2 : W.heap.size ≠ g := World.new_ne W _ a0
  have n3 : W.heap.size ≠ xb := World.new_ne W _ p0
  have up : ∀ {a : Addr} {v : Value}, W.cell? a = some v → (W.alloc (.cells #[.string ⟨#[]⟩, .int .u64 0, .string ⟨#[]⟩, .bool false] 24)).cell? a = some v := fun {a v} e => ((Below.refl W.heap.size W).alloc (Nat.le_refl _) _).cell (World.block_lt_of_cell? W _ e) |>.trans e
  have m0 : (W.alloc (.cells #[.string ⟨#[]⟩, .int .u64 0, .string ⟨#[]⟩, .bool false] 24)).cell? ⟨p, 0, none⟩ = some (.slice (some ⟨g, 0, none⟩) n cap) := up c0
  have m1 : (W.alloc (.cells #[.string ⟨#[]⟩, .int .u64 0, .string ⟨#[]⟩, .bool false] 24)).cell? ⟨g, 0, none⟩ = some (.slice (some ⟨xb, xo, none⟩) xn xc) := up a0
  have m2 : (W.alloc (.cells #[.string ⟨#[]⟩, .int .u64 0, .string ⟨#[]⟩, .bool false] 24)).cell? ⟨xb, xo, none⟩ = some (.string k1) := up p0
  have m3 : (W.alloc (.cells #[.string ⟨#[]⟩, .int .u64 0, .string ⟨#[]⟩, .bool false] 24)).cell? ⟨xb, xo + 1, none⟩ = some (.int .u64 (s1 : Nat)) := up p1
  have m4 : (W.alloc (.cells #[.string ⟨#[]⟩, .int .u64 0, .string ⟨#[]⟩, .bool false] 24)).cell? ⟨xb, xo + 2, none⟩ = some (.string v1) := up p2
  have m5 : (W.alloc (.cells #[.string ⟨#[]⟩, .int .u64 0, .string ⟨#[]⟩, .bool false] 24)).cell? ⟨xb, xo + 3, none⟩ = some (.bool g1) := up p3
  clear up c0 a0 p0 p1 p2 p3
  clear h hx hc hat hn hxn
  simp only [clV]
  go_enter Try.func38, Try.ntmps38
  go_wp2_with fail
  refine bodyPost_ret (v := .agg #[.string k1, .int .u64 (s1 : Nat), .string v1, .bool g1]) (by simp [results, Try.results38, go_sem]) rfl ⟨rfl, ?_⟩
  exact (Below.refl _ _).alloc (Nat.le_refl _) _
end Go.Proofs.Ytohamjoiohfoiaa
