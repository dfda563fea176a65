/-
  The contract of cutPart at a key's bytes: the part with which they begin, and how many bytes it has.
-/
import Derived.Test.YtkebddjndljodaaDoorCutText
namespace Go.Proofs.YtkebddjndljodaaDoor
open Go.RowKit
theorem below_of_keeps {w w' : World} {b : Nat} (h : Keeps (fun k => k = b) w w') {B : Nat} (hB : B ≤ b) (hs : B ≤ w.heap.size) : Below B w w' := Keeps.below h hs (fun k e => by omega)
set_option maxRecDepth 100000 in
set_option maxHeartbeats 4000000 in
theorem cutPart_any (p : Prt) (S : ByteArray) (R : List UInt8) (w : World) (hp : p.ok) (hS : S.data.toList = enc p ++ R) (hR : R.head? ≠ some 255) (hz : S.size ≤ 1073741824) :
    Calls Tryd.prog 25 #[.string S] w fun r w' => r = .returned (.tuple #[.agg #[.string p.text, .int .u64 p.num, .bool p.isNum], .int .i64 ((enc p).length : Int), .int .i64 0]) ∧ Below w.heap.size w w' := by
  obtain ⟨t, n, i⟩ := p
  obtain ⟨hn, ht, h0⟩ := hp
  dsimp only at *
  cases i with
  | false =>
    have hn0 : n = 0 := h0 rfl
    subst hn0
    have hE : enc ⟨t, 0, false⟩ = 2 :: (esc t.data.toList ++ [0]) := by simp [enc]
    rw [hE] at hS ⊢
    have hS' : S.data.toList = 2 :: (esc t.data.toList ++ 0 :: R) := by rw [hS]; simp
    have hb : S.data.toList[0]? = some 2 := by rw [hS']; rfl
    obtain ⟨hz1, hb1⟩ := byte_at hb
    have HC : Hid _ := cutText_any t S R (w.alloc (.cells #[.string ⟨#[]⟩, .int .u64 0, .bool false] 47)) hS' hR hz
    have HE : Hid ((2 + (esc t.data.toList).length : Nat) = (2 :: (esc t.data.toList ++ [0])).length) := by simp [Hid]; omega
    rw [← HE.out]
    generalize 2 + (esc t.data.toList).length = L at *
    clear hS hS' hb hE hR HE ht h0
    go_enter Tryd.func25, Tryd.ntmps25
    go_wp2_with fail
    refine Calls.mono HC.out ?_
    rintro e w1 ⟨rfl, b1⟩
    have g1 := (b1.block _ (lt_of_block (block_alloc_at w (.cells #[.string ⟨#[]⟩, .int .u64 0, .bool false] 47)))).trans (block_alloc_at w (.cells #[.string ⟨#[]⟩, .int .u64 0, .bool false] 47))
    have f0 : w1.frozen? ⟨w.heap.size, 0, none⟩ = false := free_of_block g1 0
    have f1 : w1.frozen? ⟨w.heap.size, 1, none⟩ = false := free_of_block g1 1
    have f2 : w1.frozen? ⟨w.heap.size, 2, none⟩ = false := free_of_block g1 2
    have c0 : w1.cell? ⟨w.heap.size, 0, none⟩ = some (.string ⟨#[]⟩) := cell_of_block g1 rfl
    have c1 : w1.cell? ⟨w.heap.size, 1, none⟩ = some (.int .u64 0) := cell_of_block g1 rfl
    have c2 : w1.cell? ⟨w.heap.size, 2, none⟩ = some (.bool false) := cell_of_block g1 rfl
    have HB : Hid (Below w.heap.size w w1) := ((Below.refl _ _).alloc (Nat.le_refl _) _).trans (b1.mono (by simp))
    clear HC g1 b1
    go_wp2_with fail
    (try simp only [Exit.inBlock, Exit.then])
    refine bodyPost_ret (v := .tuple #[.agg #[.string t, .int .u64 0, .bool false], .int .i64 L, .int .i64 0]) ?_ rfl ⟨rfl, ?_⟩
    · rw [results_cell_tmp2 rfl]
      go_simp
    · exact ((HB.out.setCell (p := ⟨w.heap.size, 0, none⟩) (Nat.le_refl _) _).setCell (p := ⟨w.heap.size, 1, none⟩) (Nat.le_refl _) _).setCell (p := ⟨w.heap.size, 2, none⟩) (Nat.le_refl _) _
  | true =>
    have ht0 : t = ⟨#[]⟩ := bytes_ext' (by rw [ht rfl])
    subst ht0
    have hE : enc ⟨⟨#[]⟩, n, true⟩ = 1 :: be8 n := by simp [enc]
    rw [hE] at hS ⊢
    have hb : S.data.toList[0]? = some 1 := by rw [hS]; rfl
    obtain ⟨hz1, hb1⟩ := byte_at hb
    have hsl := size_list S
    have hlen : S.size = 9 + R.length := by rw [hsl, hS]; simp [be8]; omega
    have hX : S.extract 1 S.size = ⟨(be8 n ++ R).toArray⟩ := by
      apply bytes_ext'
      rw [ext_list', hlen, hS, List.take_of_length_le]
      · simp
      · simp [be8]; omega
    obtain ⟨X, hX'⟩ : ∃ X, S.extract 1 S.size = X := ⟨_, rfl⟩
    have HT : Hid (rTake X 0 8 = (⟨(be8 n).toArray⟩, ⟨R.toArray⟩, 0)) := by rw [Hid, ← hX', hX]; exact rTake_list rfl
    have hXs : X.size ≤ 1073741824 := by rw [← hX']; have := ext_le S 1 S.size; omega
    have HN : Hid (beNat (⟨(be8 n).toArray⟩ : ByteArray).data.toList = n) := beNat8 hn
    have HL : Hid ((1 :: be8 n).length = 9) := by simp [Hid, be8]
    have HRs : Hid ((⟨R.toArray⟩ : ByteArray).size = R.length) := size_mk R
    have hRl : R.length ≤ 1073741824 := by omega
    have HSZ : Hid (S.size = 9 + R.length) := hlen
    rw [HL.out]
    clear hS hb hE hR hX hlen hsl ht h0
    go_enter Tryd.func25, Tryd.ntmps25
    go_wp2_with fail
    refine (newReader_any _ _).mono ?_
    rintro e w1 ⟨rfl, h1, k1⟩
    have g1 := (k1.block _ (lt_of_block (block_alloc_at w (.cells #[.string ⟨#[]⟩, .int .u64 0, .bool false] 47))) (fun f => f)).trans (block_alloc_at w (.cells #[.string ⟨#[]⟩, .int .u64 0, .bool false] 47))
    have hrb : (w.alloc (.cells #[.string ⟨#[]⟩, .int .u64 0, .bool false] 47)).heap.size = w.heap.size + 1 := by simp
    rw [hrb] at h1
    have HB1 : Hid (Below w.heap.size w w1) := ((Below.refl _ _).alloc (Nat.le_refl _) _).trans (k1.below (by simp) (fun _ f => f.elim))
    clear k1
    go_wp2_with fail
    refine (u64_any _ _ _ _ h1 (by unfold maxLen; omega)).mono ?_
    rintro e w2 ⟨rfl, h2, k2⟩
    rw [HT.out] at h2 ⊢
    rw [HN.out]
    have g2 := (k2.block w.heap.size (lt_of_block g1) (by omega)).trans g1
    have HB2 : Hid (Below w.heap.size w w2) := HB1.out.trans (below_of_keeps k2 (by omega) HB1.out.size)
    clear k2 h1 g1
    dsimp only at h2
    go_wp2_with fail
    refine (err_any _ _ _ _ h2).mono ?_
    rintro e w3 ⟨rfl, rfl⟩
    go_wp2_with fail
    refine (left_any _ _ _ _ h2).mono ?_
    rintro e w3 ⟨rfl, rfl⟩
    rw [HRs.out]
    have f0 : w3.frozen? ⟨w.heap.size, 0, none⟩ = false := free_of_block g2 0
    have f1 : w3.frozen? ⟨w.heap.size, 1, none⟩ = false := free_of_block g2 1
    have f2 : w3.frozen? ⟨w.heap.size, 2, none⟩ = false := free_of_block g2 2
    have c0 : w3.cell? ⟨w.heap.size, 0, none⟩ = some (.string ⟨#[]⟩) := cell_of_block g2 rfl
    have c1 : w3.cell? ⟨w.heap.size, 1, none⟩ = some (.int .u64 0) := cell_of_block g2 rfl
    have c2 : w3.cell? ⟨w.heap.size, 2, none⟩ = some (.bool false) := cell_of_block g2 rfl
    clear g2
    go_wp2_with fail
    (try simp only [Exit.inBlock, Exit.then])
    refine bodyPost_ret (v := .tuple #[.agg #[.string ⟨#[]⟩, .int .u64 n, .bool true], .int .i64 ((S.size : Int) - (R.length : Int)), .int .i64 0]) ?_ rfl ⟨?_, ?_⟩
    · rw [results_cell_tmp2 rfl]
      go_simp
    · have := HSZ.out
      rw [show ((S.size : Int) - (R.length : Int)) = ((9 : Nat) : Int) from by omega]
    · exact ((HB2.out.setCell (p := ⟨w.heap.size, 0, none⟩) (Nat.le_refl _) _).setCell (p := ⟨w.heap.size, 1, none⟩) (Nat.le_refl _) _).setCell (p := ⟨w.heap.size, 2, none⟩) (Nat.le_refl _) _
end Go.Proofs.YtkebddjndljodaaDoor
