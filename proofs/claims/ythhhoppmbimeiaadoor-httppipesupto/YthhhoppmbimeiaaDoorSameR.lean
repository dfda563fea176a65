/-
  The contract of Same where both requests are the same.
-/
import Derived.Test.YthhhoppmbimeiaaDoorFieldsR
namespace Go.Proofs.YthhhoppmbimeiaaDoor
open Go.RowKit
set_option maxRecDepth 20000 in
set_option maxHeartbeats 8000000 in
theorem same_eq (met tar body : ByteArray) (shut : Bool) (fs : List Fd) (a b : Option Addr) (ca cb B : Nat) (w : World) (ha : FA B w a fs) (hb : FA B w b fs) (hB : B ≤ w.heap.size) (hn : fs.length ≤ 4398046511104) :
    Calls Tryd.prog 11 #[rqV ⟨met, tar, a, ca, fs, body, shut⟩, rqV ⟨met, tar, b, cb, fs, body, shut⟩] w fun e w' => e = .returned (.bool true) ∧ Below w.heap.size w w' := by
  simp only [rqV]
  obtain ⟨n, hl⟩ : ∃ n, fs.length = n := ⟨_, rfl⟩
  have HL : Hid _ := hl
  have HA : Hid _ := ha
  have HBB : Hid _ := hb
  rw [hl] at hn ⊢
  clear hl ha hb
  have e0 : (met.toList != met.toList) = false := by simp
  have e1 : (tar.toList != tar.toList) = false := by simp
  have e2 : (body.toList != body.toList) = false := by simp
  have e3 : (shut != shut) = false := by simp
  have e4 : ((n : Int) != (n : Int)) = false := by simp
  go_enter Tryd.func11, Tryd.ntmps11
  go_wp2_with fail
  obtain ⟨W0, hW0⟩ : ∃ W0, (w.alloc (.cells #[.string met, .string tar, .slice a n ca, .string body, .bool shut] 24)).alloc (.cells #[.string met, .string tar, .slice b n cb, .string body, .bool shut] 24) = W0 := ⟨_, rfl⟩
  have HB0 : Hid (Below w.heap.size w W0) := by rw [Hid, ← hW0]; exact ((Below.refl _ _).alloc (Nat.le_refl _) _).alloc (by simp) _
  have HY : Hid (W0.heap[w.heap.size + 1]? = some (.cells #[.string met, .string tar, .slice b n cb, .string body, .bool shut] 24)) := by
    rw [Hid, ← hW0]
    have := block_alloc_at (w.alloc (.cells #[.string met, .string tar, .slice a n ca, .string body, .bool shut] 24)) (.cells #[.string met, .string tar, .slice b n cb, .string body, .bool shut] 24)
    simpa using this
  have HX : Hid (W0.heap[w.heap.size]? = some (.cells #[.string met, .string tar, .slice a n ca, .string body, .bool shut] 24)) := by
    rw [Hid, ← hW0]
    exact (((Below.refl _ _).alloc (Nat.le_refl _) _ : Below (w.alloc (.cells #[.string met, .string tar, .slice a n ca, .string body, .bool shut] 24)).heap.size _ _).block _ (by simp)).trans (block_alloc_at _ _)
  rw [hW0]
  clear hW0
  clear e0 e1 e2 e3 e4
  go_loopw [5] (fun i wr => ∃ k q : Nat, k ≤ n ∧ i = .int .i64 (k : Int) ∧ wr = W0.drewN q) (fun i _ => n - (intOf i).toNat)
  case atStart => exact ⟨0, 0, by omega, rfl, rfl⟩
  case round =>
    obtain ⟨k, q, hk, rfl, rfl⟩ := hrel
    have cx : (W0.drewN q).cell? ⟨w.heap.size, 2, none⟩ = some (.slice a n ca) := cell_of_block (w := W0) HX.out rfl
    have cy : (W0.drewN q).cell? ⟨w.heap.size + 1, 2, none⟩ = some (.slice b n cb) := cell_of_block (w := W0) HY.out rfl
    obtain ⟨W, hW⟩ : ∃ W, W0.drewN q = W := ⟨_, rfl⟩
    have HW : Hid _ := hW
    by_cases hlt : k < n
    · obtain ⟨x, hx⟩ : ∃ x, fs[k]? = some x := ⟨fs[k]'(by rw [HL.out]; exact hlt), List.getElem?_eq_getElem _⟩
      have HA2 : FA B W0 a fs := FA.below HA.out (fun j hj => HB0.out.block j (by omega))
      have HB2 : FA B W0 b fs := FA.below HBB.out (fun j hj => HB0.out.block j (by omega))
      obtain ⟨p, off, rfl, _, x0, x1⟩ := HA2 k x hx
      obtain ⟨p2, of2, rfl, _, y0, y1⟩ := HB2 k x hx
      obtain ⟨xn, xv⟩ := x
      simp only at x0 x1 y0 y1
      replace x0 : (W0.drewN q).cell? ⟨p, off + k * 2, none⟩ = some (.string xn) := x0
      replace x1 : (W0.drewN q).cell? ⟨p, off + k * 2 + 1, none⟩ = some (.string xv) := x1
      replace y0 : (W0.drewN q).cell? ⟨p2, of2 + k * 2, none⟩ = some (.string xn) := y0
      replace y1 : (W0.drewN q).cell? ⟨p2, of2 + k * 2 + 1, none⟩ = some (.string xv) := y1
      rw [hW] at x0 x1 y0 y1 cx cy ⊢
      have hlz : (k : Int) < (n : Int) := by omega
      have t0 : (xn.toList == xn.toList) = true := by simp
      have t1 : (xv.toList == xv.toList) = true := by simp
      clear hx HA2 HB2 hW
      go_wp2_with fail
      go_quiet (fail)
      go_wp2_with fail
      go_roundw
      case rel => exact ⟨k + 1, q + nq, by omega, by go_num, by rw [← HW.out]; first | rfl | (simp [World.drewN, Nat.add_assoc])⟩
      case measure => simp [intOf]; omega
    · have hlz : ¬ (k : Int) < (n : Int) := by omega
      rw [hW] at cx cy ⊢
      clear hW
      go_wp2_with fail
      go_ret
      exact ⟨rfl, by rw [← HW.out]; exact below_drewN HB0.out q⟩
end Go.Proofs.YthhhoppmbimeiaaDoor
