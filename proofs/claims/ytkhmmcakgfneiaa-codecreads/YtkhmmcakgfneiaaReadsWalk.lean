/-
  The walk of CodecReads: whatever the text and the reads, the call returns true, and turns nothing that was there.
-/
import Derived.Test.YtkhmmcakgfneiaaStepAll
namespace Go.Proofs.Ytkhmmcakgfneiaa
open Go.RowKit
theorem Both.alloc {w : World} {b c : Nat} {s : ByteArray} {e : Int} (h : Both w b c s e) (o : Obj) : Both (w.alloc o) b c s e :=
  ⟨h.one.alloc o, XIs.kept (S := fun _ => False) h.two ((Keeps.refl _ w).alloc o) (fun f => f)⟩
set_option maxRecDepth 100000 in
set_option maxHeartbeats 4000000 in
theorem reads_walk (s : ByteArray) (b off len cap : Nat) (K : Nat → Int) (N : Nat → Nat) (S : Nat → ByteArray) (w : World) (hs : s.size ≤ maxLen) (hlen : len ≤ 9223372036854775807)
    (hb : b < w.heap.size)
    (hops : ∀ j, j < len → w.cell? ⟨b, off + j * 3, none⟩ = some (.int .i64 (K j)) ∧ w.cell? ⟨b, off + j * 3 + 1, none⟩ = some (.int .u64 (N j)) ∧ w.cell? ⟨b, off + j * 3 + 2, none⟩ = some (.string (S j)) ∧ N j < 18446744073709551616) :
    Calls Try.prog 8 #[.string s, .slice (some ⟨b, off, none⟩) len cap] w fun r w' => r = .returned (.bool true) ∧ Below w.heap.size w w' := by
  have HO : Hid _ := hops
  clear hops
  go_enter Try.func8, Try.ntmps8
  go_wp2_with fail
  refine (newReader_any s _).mono ?_
  rintro e w1 ⟨rfl, h1, k1⟩
  have B1 : Below w.heap.size w w1 := k1.below (Nat.le_refl _) (fun _ f => f.elim)
  have z1 := h1.lt
  go_wp2_with fail
  refine (awake_any _).mono ?_
  rintro e w2 ⟨rfl, B2⟩
  have h2 : RIs w2 w.heap.size s 0 := (B2.block _ z1).trans h1
  have B3 : Below w.heap.size w w2 := B1.trans (B2.mono (by omega))
  have z2 := B2.size
  clear h1 k1 B1 B2
  go_wp2_with fail
  go_loopw [22] (fun i wr => ∃ k : Nat, ∃ s' e', k ≤ len ∧ i = .int .i64 k ∧ Both wr w.heap.size w2.heap.size s' e' ∧ Hid (s'.size ≤ s.size) ∧ Below w.heap.size w wr ∧ w2.heap.size < wr.heap.size) (fun i _ => len - (intOf i).toNat)
  case atStart => exact ⟨0, s, 0, by omega, rfl, ⟨h2.alloc _, block_alloc_at _ _⟩, Nat.le_refl _, B3.alloc (by omega) _, by simp⟩
  case round =>
    obtain ⟨k, s', e', hk, rfl, hB, HZ, hbel, hz⟩ := hrel
    by_cases hlt : k < len
    · obtain ⟨o0, o1, o2, o3⟩ := HO.out k hlt
      have c0 := (hbel.cell (p := ⟨b, off + k * 3, none⟩) hb).trans o0
      have c1 := (hbel.cell (p := ⟨b, off + k * 3 + 1, none⟩) hb).trans o1
      have c2 := (hbel.cell (p := ⟨b, off + k * 3 + 2, none⟩) hb).trans o2
      go_wp2_with fail
      refine (step_any _ _ _ (hB.alloc _) (Nat.le_trans HZ.out hs) o3).mono ?_
      rintro e3 w3 ⟨rfl, ⟨s3, e3, hB3, hs3⟩, k3⟩
      have HB3 : Hid (Below w.heap.size w w3) := (hbel.alloc (by omega) _).trans (k3.below (by simp; omega) (by rintro i (rfl | rfl); exact Nat.le_refl _; omega))
      have HZ3 : Hid (s3.size ≤ s.size) := Nat.le_trans hs3 HZ.out
      have HS3 : Hid (w2.heap.size < w3.heap.size) := by have := k3.size; simp at this; unfold Hid; omega
      clear c0 c1 c2 o0 o1 o2 k3 hB
      go_wp2_with fail
      go_roundw
      case rel => exact ⟨k + 1, s3, e3, by omega, by go_num, hB3, HZ3.out, HB3.out, HS3.out⟩
      case measure => simp [intOf]; omega
    · go_wp2_with fail
      refine (step_any 7 0 ⟨#[]⟩ hB (Nat.le_trans HZ.out hs) (by decide)).mono ?_
      rintro e3 w3 ⟨rfl, _, k3⟩
      have HB3 : Hid (Below w.heap.size w w3) := hbel.trans (k3.below hbel.size (by rintro i (rfl | rfl); exact Nat.le_refl _; omega))
      go_wp2_with fail
      go_ret
      exact ⟨rfl, HB3.out⟩
set_option maxHeartbeats 1000000 in
theorem reads_none (s : ByteArray) (a : Option Addr) (cap : Nat) (w : World) (hs : s.size ≤ maxLen) :
    Calls Try.prog 8 #[.string s, .slice a 0 cap] w fun r w' => r = .returned (.bool true) ∧ Below w.heap.size w w' := by
  go_enter Try.func8, Try.ntmps8
  go_wp2_with fail
  refine (newReader_any s _).mono ?_
  rintro e w1 ⟨rfl, h1, k1⟩
  have B1 : Below w.heap.size w w1 := k1.below (Nat.le_refl _) (fun _ f => f.elim)
  have z1 := h1.lt
  go_wp2_with fail
  refine (awake_any _).mono ?_
  rintro e w2 ⟨rfl, B2⟩
  have h2 : RIs w2 w.heap.size s 0 := (B2.block _ z1).trans h1
  have B3 : Below w.heap.size w w2 := B1.trans (B2.mono (by omega))
  have z2 := B2.size
  clear h1 k1 B1 B2
  go_wp2_with fail
  refine wp_loop_rounds 1 ?_
  rw [rounds_succ]
  go_wp2_with fail
  refine (step_any 7 0 ⟨#[]⟩ (s := s) (e := 0) ⟨h2.alloc _, block_alloc_at _ _⟩ hs (by decide)).mono ?_
  rintro e3 w3 ⟨rfl, _, k3⟩
  have HB3 : Hid (Below w.heap.size w w3) := (B3.alloc (by omega) _).trans (k3.below (by simp; omega) (by rintro i (rfl | rfl); exact Nat.le_refl _; omega))
  go_wp2_with fail
  go_ret
  exact ⟨rfl, HB3.out⟩
end Go.Proofs.Ytkhmmcakgfneiaa
