/-
  The contract of lives: it returns true, and turns nothing that was there.
-/
import Derived.Test.YtefigcnfcbdecaaTwinW
import Derived.Test.YtefigcnfcbdecaaScan
namespace Go.Proofs.Ytefigcnfcbdecaa
open Go.RowKit
theorem lazyNil0 (W : World) : (binOp .eql 33 (.slice none 0 0) (.slice none 0 0)).run Try.prog W = .ok (.bool true) W := Lib.run_eql_slice_nil W 33 5 none 0 0 0 0 Try.underlying33
theorem clone_nil (w : World) : Calls Try.prog 29 #[.slice none 0 0] w fun r w' => r = .returned (.slice none 0 0) ∧ w' = w := by
  have h := lazyNil0
  go_enter Try.func29, Try.ntmps29
  go_wp2
  go_ret
  exact ⟨rfl, rfl⟩
theorem records_nil (w : World) : Calls Try.prog 20 #[.slice none 0 0] w fun r w' => (∃ b, r = .returned (.func (.func 30) #[] b)) ∧ Below w.heap.size w w' := by
  go_enter Try.func20, Try.ntmps20
  go_wp2_with fail
  refine (clone_nil _).mono ?_
  rintro e w1 ⟨rfl, hw⟩
  subst hw
  go_wp2_with fail
  go_ret
  exact ⟨⟨_, rfl⟩, (Below.refl _ _).alloc (Nat.le_refl _) _⟩
theorem func_nil (bb : Array Value) (W : World) : (binOp .neq 48 (.func (.func 30) #[] bb) .nilFunc).run Try.prog W = .ok (.bool true) W := by kernel_rfl
def abc : List UInt8 := [97, 98, 99]
theorem scan_abc : scanL (layL 0 abc) = ([(abc, 10)], 1) := by decide +kernel
theorem lay_abc : (layL 0 abc).length = 10 := by decide +kernel
theorem ok_abc : layOk 0 ⟨#[97, 98, 99]⟩ = true := by decide +kernel
theorem span_abc : spanN 1020 3 = 14 := by decide +kernel
theorem bytes_of_owns {W : World} {base n : Nat} {a : Option Addr} {cap : Nat} {bs : List UInt8} (h : W.ownsRow base 5 1 (.slice a n cap) n (bl bs)) (hn : bs.length = n) : BytesAt W a bs := by
  intro j c hj
  have hl := (List.getElem?_eq_some_iff.1 hj).1
  rcases h.2 with ⟨hv, h0⟩ | ⟨g, cap', cur, hv, _⟩
  · omega
  · simp only [Value.slice.injEq] at hv
    obtain ⟨rfl, _, _⟩ := hv
    have hc := h.cells (g := g) rfl j (.int .u8 (c.toNat : Nat)) (by rw [bl, List.getElem?_map, hj]; rfl)
    rw [addr_add, Nat.zero_add] at hc
    exact ⟨g, 0, rfl, World.block_lt_of_cell? W _ hc, by rw [Nat.zero_add]; exact hc⟩
set_option maxRecDepth 100000 in
set_option maxHeartbeats 4000000 in
theorem lives_any (w : World) : Calls Try.prog 8 #[] w fun r w' => r = .returned (.bool true) ∧ Below w.heap.size w w' := by
  have HN : Hid (∀ W : World, Calls Try.prog 11 #[.int .i64 0] W fun r w' => r = .returned (.tuple #[.pointer (some ⟨W.heap.size, 0, none⟩), .int .i64 0]) ∧ w' = W.alloc (.cells #[.int .i64 0] 59)) := fun W => newWriter_ok 0 W (by omega)
  have HL : Hid (∀ (W : World) (x : Nat), W.heap[x]? = some (.cells #[.int .i64 0] 59 (0, 0)) → Calls Try.prog 13 #[.pointer (some ⟨x, 0, none⟩), .string ⟨#[97, 98, 99]⟩] W fun r w' => ∃ v, r = .returned (.tuple #[v, .int .i64 0]) ∧ w'.ownsRow W.heap.size 5 1 v 10 (bl (layL 0 abc)) ∧ w'.heap[x]? = some (.cells #[.int .i64 10] 59 (0, 0)) ∧ Kept x W w') := fun W x h => by
    have := layM_ok x 0 ⟨#[97, 98, 99]⟩ W h (by omega) ok_abc
    rw [show (layL 0 (ByteArray.mk #[97, 98, 99]).data.toList) = layL 0 abc from rfl, lay_abc] at this
    exact this
  have HS : Hid (∀ (W : World) (a : Option Addr) (c : Nat), BytesAt W a (layL 0 abc) → 10 ≤ c → (a = none → c = 0) → (∀ ad, a = some ad → ad.spot = none ∨ c = 0) → Calls Try.prog 17 #[.slice a 10 c] W fun r w' => ∃ v, r = .returned (.tuple #[v, .int .i64 10, .int .i64 1]) ∧ w'.ownsRow W.heap.size 9 1 v 1 [.string ⟨#[97, 98, 99]⟩] ∧ Below W.heap.size W w') := fun W a c h h1 h2 h3 => by
    have := scan_any a c (layL 0 abc) W h (by rw [lay_abc]; omega) (by rw [lay_abc]; exact h1) h2 h3
    rw [lay_abc, scan_abc] at this
    exact this
  have HSZ : Hid (∀ (W : World) (x : Nat), W.heap[x]? = some (.cells #[.int .i64 10] 59 (0, 0)) → Calls Try.prog 16 #[.pointer (some ⟨x, 0, none⟩)] W fun r w' => r = .returned (.int .i64 10) ∧ w' = W) := fun W x h => size_any x 10 W h
  have HLN : Hid (∀ W : World, Calls Try.prog 9 #[.int .i64 1020, .int .i64 3] W fun r w' => r = .returned (.tuple #[.int .i64 14, .int .i64 0]) ∧ w' = W) := fun W => by
    have := length_ok 1020 3 W (by omega) (by omega)
    rw [span_abc] at this
    exact this
  go_enter Try.func8, Try.ntmps8
  go_wp2_with fail
  refine (HN.out _).mono ?_
  rintro e w1 ⟨rfl, hw1⟩
  have hx1 : w1.heap[w.heap.size]? = some (.cells #[.int .i64 0] 59 (0, 0)) := by rw [hw1]; exact World.alloc_heap_new _ _
  have B1 : Below w.heap.size w w1 := by rw [hw1]; exact (Below.refl _ _).alloc (Nat.le_refl _) _
  have hs1 : w.heap.size < w1.heap.size := (Array.getElem?_eq_some_iff.1 hx1).1
  clear hw1
  go_wp2_with fail
  refine (HL.out _ _ hx1).mono ?_
  rintro e w2 ⟨v2, rfl, ho2, hx2, k2⟩
  have B2 : Below w.heap.size w w2 := B1.trans (k2.below (Nat.le_refl _) B1.size)
  obtain ⟨g2, c2, rfl⟩ := form_pos ho2 (by decide)
  have hc2 : 10 ≤ c2 := by
    rcases ho2.2 with ⟨hv, _⟩ | ⟨g', cap', cur, hv, _, _, h1, _⟩
    · cases hv
    · cases hv; exact h1
  have y2 := bytes_of_owns ho2 lay_abc
  have hxg : w.heap.size < w2.heap.size := (Array.getElem?_eq_some_iff.1 hx2).1
  clear ho2 k2 hx1 B1
  go_wp2_with fail
  refine (HS.out _ _ _ y2 hc2 (fun e => by cases e) (fun ad e => by cases e; exact Or.inl rfl)).mono ?_
  rintro e w3 ⟨v3, rfl, ho3, b3⟩
  have B3 : Below w.heap.size w w3 := B2.trans (b3.mono B2.size)
  have hx3 := (b3.block _ hxg).trans hx2
  obtain ⟨g3, c3, rfl⟩ := ownsRow_succ ho3
  have hc3 : w3.cell? ⟨g3, 0, none⟩ = some (.string ⟨#[97, 98, 99]⟩) := by
    have := ho3.cells (g := g3) rfl 0 _ rfl
    rwa [addr_add] at this
  clear ho3 b3 y2 hx2 B2
  go_wp2_with fail
  refine (HLN.out _).mono ?_
  rintro e w4 ⟨rfl, hw⟩
  subst hw
  go_wp2_with fail
  refine (HSZ.out _ _ hx3).mono ?_
  rintro e w5 ⟨rfl, hw⟩
  subst hw
  go_wp2_with fail
  refine (records_nil _).mono ?_
  rintro e w6 ⟨⟨bb, rfl⟩, b6⟩
  have B6 : Below w.heap.size w w6 := B3.trans (b6.mono B3.size)
  have hfn := func_nil bb
  go_wp2_with fail
  go_ret
  exact ⟨rfl, B6⟩
end Go.Proofs.Ytefigcnfcbdecaa
