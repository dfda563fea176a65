/-
  The contract of the twin's plain.
-/
import Derived.Test.YthhhoppmbimeiaaDoorPrH
namespace Go.Proofs.YthhhoppmbimeiaaDoor
open Go.RowKit
set_option maxRecDepth 20000 in
set_option maxHeartbeats 8000000 in
theorem plain_any (r : Rq) (B : Nat) (w : World) (h : FA B w r.a r.fs) (hB : B ≤ w.heap.size) (hz : (hdB r.met r.tar r.fs).size ≤ 100000000) (hn : r.fs.length ≤ 100000000) :
    Calls Tryd.prog 30 #[rqV r] w fun e w' => e = .returned (.tuple #[.string (hdB r.met r.tar r.fs), .string r.body]) ∧ Below w.heap.size w w' := by
  obtain ⟨met, tar, a, c, fs, body, shut⟩ := r
  simp only [rqV] at *
  have HSZ : Hid ((hdB met tar fs).size ≤ 100000000) := hz
  have hz2 := hz
  rw [hdB_size] at hz2
  have hmt : met.size + tar.size ≤ 100000000 := by omega
  have HF : Hid _ := h
  have HBE : Hid (hdB met tar fs = ⟨(hdS met tar fs fs.length ++ [13, 10]).toArray⟩) := by rw [Hid, hdB, hdK, hdS, List.take_length]
  obtain ⟨H, hH⟩ : ∃ H, hdB met tar fs = H := ⟨_, rfl⟩
  rw [hH] at HBE HSZ ⊢
  have HHL : Hid (∀ k, (hdS met tar fs k).length ≤ H.size) := fun k => by rw [← hH]; exact hdS_len met tar fs k
  clear h hz hz2 hH
  have HM0 : Hid (∀ (k : Nat) (x : Fd), fs[k]? = some x → x.name.size + x.val.size ≤ 100000000) := fun k x hx => by
    have h1 := flat_mem hx
    have h2 := HHL.out fs.length
    rw [hdS_size, List.take_length] at h2
    have := HSZ.out
    omega
  obtain ⟨n, hn2⟩ : ∃ n, fs.length = n := ⟨_, rfl⟩
  have HL : Hid _ := hn2
  rw [hn2] at HBE hn ⊢
  clear hn2
  have hm1 : met.size ≤ 100000000 := by omega
  have hm2 : tar.size ≤ 100000000 := by omega
  have HE0 : Hid (met ++ ⟨#[32]⟩ ++ tar ++ ⟨#[32, 72, 84, 84, 80, 47, 49, 46, 49, 13, 10]⟩ = bOf (hdS met tar fs 0)) := by
    rw [Hid]
    apply ext_list
    simp [bOf, hdS, lin0, byts]
  go_enter Tryd.func30, Tryd.ntmps30
  go_wp2_with fail
  obtain ⟨W0, hW0⟩ : ∃ W0, w.alloc (.cells #[.string met, .string tar, .slice a n c, .string body, .bool shut] 24) = W0 := ⟨_, rfl⟩
  have HZ0 : Hid (W0.heap.size = w.heap.size + 1) := by rw [Hid, ← hW0]; simp
  have HB0 : Hid (Below w.heap.size w W0) := by rw [Hid, ← hW0]; exact (Below.refl _ _).alloc (Nat.le_refl _) _
  have HX0 : Hid (RB W0 w.heap.size met tar (.slice a n c) body shut) := by rw [Hid, ← hW0]; exact block_alloc_at _ _
  have HF0 : Hid (FA B W0 a fs) := FA.below HF.out (fun b hb => HB0.out.block b (by omega))
  rw [hW0]
  clear hW0
  go_loopw [4, 5] (fun s i wr => ∃ k q : Nat, k ≤ n ∧ s = .string (bOf (hdS met tar fs k)) ∧ i = .int .i64 (k : Nat) ∧ wr = W0.drewN q) (fun _ i _ => n - (intOf i).toNat)
  case atStart => exact ⟨0, 0, by omega, by rw [HE0.out], rfl, rfl⟩
  case round =>
    obtain ⟨k, q, hk, rfl, rfl, rfl⟩ := hrel
    have cx : (W0.drewN q).cell? ⟨w.heap.size, 2, none⟩ = some (.slice a n c) := HX0.out.box.2.2.1
    have cb : (W0.drewN q).cell? ⟨w.heap.size, 3, none⟩ = some (.string body) := HX0.out.box.2.2.2.1
    have hsz : (bOf (hdS met tar fs k)).size ≤ 100000000 := by rw [bOf_size]; have := HHL.out k; have := HSZ.out; omega
    obtain ⟨W, hW⟩ : ∃ W, W0.drewN q = W := ⟨_, rfl⟩
    have HW : Hid _ := hW
    by_cases hlt : k < n
    · have hlz : (k : Int) < (n : Int) := by omega
      obtain ⟨x, hx⟩ : ∃ x, fs[k]? = some x := ⟨fs[k]'(by rw [HL.out]; exact hlt), List.getElem?_eq_getElem _⟩
      have HSU : Hid (hdS met tar fs (k + 1) = hdS met tar fs k ++ fdT x) := hdS_succ hx
      have hxs := HM0.out k x hx
      obtain ⟨b, off, rfl, _, x0, x1⟩ := HF0.out k x hx
      replace x0 : (W0.drewN q).cell? ⟨b, off + k * 2, none⟩ = some (.string x.name) := x0
      replace x1 : (W0.drewN q).cell? ⟨b, off + k * 2 + 1, none⟩ = some (.string x.val) := x1
      obtain ⟨xn, xv⟩ := x
      simp only at x0 x1 hxs
      have HSE : Hid (bOf (hdS met tar fs k) ++ xn ++ ⟨#[58, 32]⟩ ++ xv ++ ⟨#[13, 10]⟩ = bOf (hdS met tar fs (k + 1))) := by
        rw [Hid, HSU.out]
        apply ext_list
        simp [bOf, fdT, byts]
      obtain ⟨S, hS⟩ : ∃ S, bOf (hdS met tar fs k) = S := ⟨_, rfl⟩
      rw [hS] at hsz HSE ⊢
      have hx1 : xn.size ≤ 100000000 := by omega
      have hx2 : xv.size ≤ 100000000 := by omega
      rw [hW] at x0 x1 cx cb ⊢
      clear hx hW hS
      go_wp2_with fail
      go_quiet (fail)
      go_wp2_with fail
      go_roundw
      case rel => exact ⟨k + 1, q + nq, by omega, by rw [HSE.out], by go_num, by rw [← HW.out]; first | rfl | (simp [World.drewN, Nat.add_assoc])⟩
      case measure => simp [intOf]; omega
    · have hlz : ¬ (k : Int) < (n : Int) := by omega
      obtain rfl : k = n := by omega
      have HSE : Hid (bOf (hdS met tar fs k) ++ ⟨#[13, 10]⟩ = H) := by
        rw [Hid, HBE.out]
        apply ext_list
        simp [bOf]
      obtain ⟨S, hS⟩ : ∃ S, bOf (hdS met tar fs k) = S := ⟨_, rfl⟩
      rw [hS] at hsz HSE ⊢
      rw [hW] at cx cb ⊢
      clear hW hS
      go_wp2_with fail
      go_quiet (fail)
      go_wp2_with fail
      go_ret2
      exact ⟨by rw [HSE.out]; rfl, below_drewN (by rw [← HW.out]; exact below_drewN HB0.out q) _⟩
end Go.Proofs.YthhhoppmbimeiaaDoor
