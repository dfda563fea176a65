/-
  Request, as the code makes it.
-/
import Derived.Test.YtcdagmgbfihbdaaDoorRqb
import Derived.Test.YtcdagmgbfihbdaaDoorFui
namespace Go.Proofs.YtcdagmgbfihbdaaDoor
open Go.RowKit
theorem join_at (m t c b : ByteArray) (h : m.size + t.size + c.size + b.size ≤ 1048576) {B : Nat} {W : World} {a : Option Addr} {n k : Nat} (hn : (reqLs m t c b).length = n) (ho : W.ownsRow B 9 1 (.slice a n k) n (strV (reqLs m t c b))) :
    Calls Tryd.prog 34 #[.slice a n k, .string ⟨#[13, 10]⟩] W fun e w' => e = .returned (.string ⟨(Lib.join ((reqLs m t c b).map (·.data.toList)) [13, 10]).toArray⟩) ∧ Below W.heap.size W w' := by
  have h0 : (reqLs m t c b)[0]? = some (lineA m t) := by unfold reqLs; rfl
  obtain ⟨g, rfl, hB, hlt, hk, _⟩ := owns_str ho h0
  have hs := join_size m t c b h
  have hl : (reqLs m t c b).length ≤ 4 := by unfold reqLs; split <;> split <;> simp
  have := Tryd.strings_Join g 0 k (reqLs m t c b) ⟨#[13, 10]⟩ W (fun j x hj => by obtain ⟨g3, e3, _, _, _, hc3⟩ := owns_str ho hj; cases e3; rw [Nat.zero_add]; exact hc3) hlt (by omega) (by omega) (by show (Lib.join ((reqLs m t c b).map (·.data.toList)) [13, 10]).length ≤ _; omega)
  rw [hn] at this
  exact this
set_option maxRecDepth 20000 in
set_option maxHeartbeats 8000000 in
theorem request_any (m t c b : ByteArray) (h : m.size + t.size + c.size + b.size ≤ 1048576) (w : World) (hT : TabP w) :
    Calls Tryd.prog 17 #[.string m, .string t, .string c, .string b] w fun e w' => e = .returned (.string (reqB m t c b)) ∧ Below w.heap.size w w' := by
  obtain ⟨i0, hi, hz0, hz1, hz2⟩ := info_parts info9
  have HJ : Hid (∀ (a : Option Addr) (n k : Nat) (W : World), (reqLs m t c b).length = n → W.ownsRow w.heap.size 9 1 (.slice a n k) n (strV (reqLs m t c b)) → _) := fun a n k W hn ho => join_at m t c b (B := w.heap.size) h (a := a) (k := k) hn ho
  have HRJ : Hid _ := req_join m t c b
  have HJS := join_size m t c b h
  obtain ⟨J, hJ⟩ : ∃ J, (⟨(Lib.join ((reqLs m t c b).map (·.data.toList)) [13, 10]).toArray⟩ : ByteArray) = J := ⟨_, rfl⟩
  have hjs : J.size ≤ 2000000 := by rw [← hJ]; simpa [ByteArray.size] using HJS
  rw [hJ] at HJ HRJ
  obtain ⟨R, hR⟩ : ∃ R, reqB m t c b = R := ⟨_, rfl⟩
  rw [hR] at HRJ ⊢
  have HIT : Hid (∀ W, Below w.heap.size w W → Calls Tryd.prog 33 #[.int .i64 ((b.size : Nat) : Int)] W fun e w' => e = .returned (.string (bOf (Lib.decDigits b.size))) ∧ Below W.heap.size W w') := fun W hW => by
    refine (Tryd.strconv_Itoa ((b.size : Nat) : Int) (by omega) (by omega) W (tab_on hT hW)).mono ?_
    rintro e w' ⟨rfl, j, os, rfl⟩
    refine ⟨?_, Lib.below_grow W.heap.size W (Nat.le_refl _) j os⟩
    unfold Lib.itoa
    rw [if_neg (by omega), Int.toNat_natCast]
    rfl
  have hds := digs_len (b := b) (by omega)
  have HLN : Hid (lineN b = ⟨#[67, 111, 110, 116, 101, 110, 116, 45, 76, 101, 110, 103, 116, 104, 58, 32]⟩ ++ bOf (Lib.decDigits b.size)) := rfl
  obtain ⟨D, hD⟩ : ∃ D, bOf (Lib.decDigits b.size) = D := ⟨_, rfl⟩
  rw [hD] at HIT hds HLN
  clear hD hR hJ HJS hT
  have a1 : ¬ 9223372036854775807 < m.size + 1 := by omega
  have a2 : ¬ 9223372036854775807 < m.size + 1 + t.size := by omega
  have a3 : ¬ 9223372036854775807 < m.size + 1 + t.size + 9 := by omega
  have a4 : ¬ 9223372036854775807 < 22 + c.size := by omega
  have a5 : ¬ 9223372036854775807 < 16 + D.size := by omega
  have a6 : ¬ 9223372036854775807 < J.size + 4 := by omega
  have a7 : ¬ 9223372036854775807 < J.size + 4 + b.size := by omega
  obtain ⟨W1, hW1⟩ : ∃ W1, w.alloc (.cells #[.string (lineA m t), .string hostB] 9) = W1 := ⟨_, rfl⟩
  have HB1 : Hid (Below w.heap.size w W1) := by rw [Hid, ← hW1]; exact below_new _ _
  have HO1 : Hid (W1.ownsRow w.heap.size 9 1 (.slice (some ⟨w.heap.size, 0, none⟩) 2 2) 2 (strV [lineA m t, hostB])) := by
    rw [Hid, ← hW1]
    exact World.ownsRow_lit w #[.string (lineA m t), .string hostB] 2 (Nat.le_refl _) (by decide) rfl
  have HLS : Hid (reqLs m t c b = [lineA m t, hostB] ++ (if c = ⟨#[]⟩ then [] else [lineC c]) ++ (if b = ⟨#[]⟩ then [] else [lineN b])) := rfl
  unfold lineA hostB at hW1
  by_cases hc : c = ⟨#[]⟩
  · have ec : c.toList.isEmpty = true := by rw [hc, ByteArray.toList_eq]; rfl
    by_cases hb : b = ⟨#[]⟩
    · have eb : b.toList.isEmpty = true := by rw [hb, ByteArray.toList_eq]; rfl
      have HLQ : Hid (reqLs m t c b = [lineA m t, hostB]) := by rw [Hid, HLS.out]; simp [hc, hb]
      clear HLS hc hb
      go_enter Tryd.func17, Tryd.ntmps17
      go_wp2_with fail
      try rw [hW1]
      refine (HJ.out _ 2 _ _ (by rw [HLQ.out]; rfl) (by rw [HLQ.out]; exact HO1.out)).mono ?_
      rintro e w9 ⟨rfl, b9⟩
      have HB9 : Hid (Below w.heap.size w w9) := HB1.out.trans (b9.mono HB1.out.size)
      clear b9
      go_wp2_with fail
      go_ret
      exact ⟨by rw [← HRJ.out]; rfl, HB9.out⟩
    · have eb := not_nil hb
      have HLQ : Hid (reqLs m t c b = [lineA m t, hostB, lineN b]) := by rw [Hid, HLS.out]; simp [hc, hb]
      clear HLS hc hb
      go_enter Tryd.func17, Tryd.ntmps17
      go_wp2_with fail
      try rw [hW1]
      refine (HIT.out _ HB1.out).mono ?_
      rintro e w3 ⟨rfl, b3⟩
      have HB3 : Hid (Below w.heap.size w w3) := HB1.out.trans (b3.mono HB1.out.size)
      have HO3 := owns_on2 HO1.out b3
      have HO3H : Hid _ := HO3
      clear b3 HO3
      go_wp2_with (
          at_builtin
          refine wpList_append_own _ rfl (.tmp 25) (.tmp 30) 85 rfl w.heap.size 9 i0 (.string ⟨#[]⟩) 1 16 Tryd.underlying85 hi hz0 hz1 hz2 rfl (by decide) _ 2 _ rfl (World.ownsRow.alloc HO3H.out _) ⟨_, 0, none⟩ 1 1 [.string (⟨#[67, 111, 110, 116, 101, 110, 116, 45, 76, 101, 110, 103, 116, 104, 58, 32]⟩ ++ D)] rfl rfl (new_cells _ [.string (⟨#[67, 111, 110, 116, 101, 110, 116, 45, 76, 101, 110, 103, 116, 104, 58, 32]⟩ ++ D)] _) (by simp [Value.oneCell']) (by unfold maxLen; omega) (by omega) (by have := HB3.out.size; simp; omega) ?_
          intro v4 w4 ho4 hg4 _
          have HO4 : Hid (w4.ownsRow w.heap.size 9 1 v4 3 (strV ([lineA m t, hostB] ++ [lineN b]))) := by rw [Hid, HLN.out]; exact ho4
          have HB4 : Hid (Below w.heap.size w w4) := (HB3.out.alloc HB3.out.size _).grown hg4 (by have := HB3.out.size; simp; omega) (fun j ej => (World.ownsRow.lt HO3H.out j ej).1)
          clear ho4 hg4
          obtain ⟨a4, k4, rfl⟩ := row_form HO4.out)
      refine (HJ.out _ 3 _ _ (by rw [HLQ.out]; rfl) (by rw [HLQ.out]; exact HO4.out)).mono ?_
      rintro e w9 ⟨rfl, b9⟩
      have HB9 : Hid (Below w.heap.size w w9) := HB4.out.trans (b9.mono HB4.out.size)
      clear b9
      go_wp2_with fail
      go_ret
      exact ⟨by rw [← HRJ.out]; rfl, HB9.out⟩
  · have ec := not_nil hc
    by_cases hb : b = ⟨#[]⟩
    · have eb : b.toList.isEmpty = true := by rw [hb, ByteArray.toList_eq]; rfl
      have HLQ : Hid (reqLs m t c b = [lineA m t, hostB, lineC c]) := by rw [Hid, HLS.out]; simp [hc, hb]
      clear HLS hc hb
      go_enter Tryd.func17, Tryd.ntmps17
      go_wp2_with (
          at_builtin
          refine wpList_append_own _ rfl (.tmp 18) (.tmp 21) 85 rfl w.heap.size 9 i0 (.string ⟨#[]⟩) 1 16 Tryd.underlying85 hi hz0 hz1 hz2 rfl (by decide) _ 2 _ rfl (World.ownsRow.alloc HO1.out _) ⟨_, 0, none⟩ 1 1 [.string (⟨#[65, 117, 116, 104, 111, 114, 105, 122, 97, 116, 105, 111, 110, 58, 32, 66, 101, 97, 114, 101, 114, 32]⟩ ++ c)] rfl rfl (new_cells _ [.string (⟨#[65, 117, 116, 104, 111, 114, 105, 122, 97, 116, 105, 111, 110, 58, 32, 66, 101, 97, 114, 101, 114, 32]⟩ ++ c)] _) (by simp [Value.oneCell']) (by unfold maxLen; omega) (by omega) (by have := HB1.out.size; simp; omega) ?_
          intro v2 w2 ho2 hg2 _
          have HO2 : Hid (w2.ownsRow w.heap.size 9 1 v2 3 (strV ([lineA m t, hostB] ++ [lineC c]))) := by rw [Hid]; exact ho2
          have HB2 : Hid (Below w.heap.size w w2) := (HB1.out.alloc HB1.out.size _).grown hg2 (by have := HB1.out.size; simp; omega) (fun j ej => (World.ownsRow.lt HO1.out j ej).1)
          clear ho2 hg2
          obtain ⟨a2, k2, rfl⟩ := row_form HO2.out)
      refine (HJ.out _ 3 _ _ (by rw [HLQ.out]; rfl) (by rw [HLQ.out]; exact HO2.out)).mono ?_
      rintro e w9 ⟨rfl, b9⟩
      have HB9 : Hid (Below w.heap.size w w9) := HB2.out.trans (b9.mono HB2.out.size)
      clear b9
      go_wp2_with fail
      go_ret
      exact ⟨by rw [← HRJ.out]; rfl, HB9.out⟩
    · have eb := not_nil hb
      have HLQ : Hid (reqLs m t c b = [lineA m t, hostB, lineC c, lineN b]) := by rw [Hid, HLS.out]; simp [hc, hb]
      clear HLS hc hb
      go_enter Tryd.func17, Tryd.ntmps17
      go_wp2_with (
          at_builtin
          refine wpList_append_own _ rfl (.tmp 18) (.tmp 21) 85 rfl w.heap.size 9 i0 (.string ⟨#[]⟩) 1 16 Tryd.underlying85 hi hz0 hz1 hz2 rfl (by decide) _ 2 _ rfl (World.ownsRow.alloc HO1.out _) ⟨_, 0, none⟩ 1 1 [.string (⟨#[65, 117, 116, 104, 111, 114, 105, 122, 97, 116, 105, 111, 110, 58, 32, 66, 101, 97, 114, 101, 114, 32]⟩ ++ c)] rfl rfl (new_cells _ [.string (⟨#[65, 117, 116, 104, 111, 114, 105, 122, 97, 116, 105, 111, 110, 58, 32, 66, 101, 97, 114, 101, 114, 32]⟩ ++ c)] _) (by simp [Value.oneCell']) (by unfold maxLen; omega) (by omega) (by have := HB1.out.size; simp; omega) ?_
          intro v2 w2 ho2 hg2 _
          have HO2 : Hid (w2.ownsRow w.heap.size 9 1 v2 3 (strV ([lineA m t, hostB] ++ [lineC c]))) := by rw [Hid]; exact ho2
          have HB2 : Hid (Below w.heap.size w w2) := (HB1.out.alloc HB1.out.size _).grown hg2 (by have := HB1.out.size; simp; omega) (fun j ej => (World.ownsRow.lt HO1.out j ej).1)
          clear ho2 hg2
          obtain ⟨a2, k2, rfl⟩ := row_form HO2.out)
      refine (HIT.out _ HB2.out).mono ?_
      rintro e w3 ⟨rfl, b3⟩
      have HB3 : Hid (Below w.heap.size w w3) := HB2.out.trans (b3.mono HB2.out.size)
      have HO3 := owns_on2 HO2.out b3
      have HO3H : Hid _ := HO3
      clear b3 HO3
      go_wp2_with (
          at_builtin
          refine wpList_append_own _ rfl (.tmp 25) (.tmp 30) 85 rfl w.heap.size 9 i0 (.string ⟨#[]⟩) 1 16 Tryd.underlying85 hi hz0 hz1 hz2 rfl (by decide) _ 3 _ rfl (World.ownsRow.alloc HO3H.out _) ⟨_, 0, none⟩ 1 1 [.string (⟨#[67, 111, 110, 116, 101, 110, 116, 45, 76, 101, 110, 103, 116, 104, 58, 32]⟩ ++ D)] rfl rfl (new_cells _ [.string (⟨#[67, 111, 110, 116, 101, 110, 116, 45, 76, 101, 110, 103, 116, 104, 58, 32]⟩ ++ D)] _) (by simp [Value.oneCell']) (by unfold maxLen; omega) (by omega) (by have := HB3.out.size; simp; omega) ?_
          intro v4 w4 ho4 hg4 _
          have HO4 : Hid (w4.ownsRow w.heap.size 9 1 v4 4 (strV ([lineA m t, hostB, lineC c] ++ [lineN b]))) := by rw [Hid, HLN.out]; exact ho4
          have HB4 : Hid (Below w.heap.size w w4) := (HB3.out.alloc HB3.out.size _).grown hg4 (by have := HB3.out.size; simp; omega) (fun j ej => (World.ownsRow.lt HO3H.out j ej).1)
          clear ho4 hg4
          obtain ⟨a4, k4, rfl⟩ := row_form HO4.out)
      refine (HJ.out _ 4 _ _ (by rw [HLQ.out]; rfl) (by rw [HLQ.out]; exact HO4.out)).mono ?_
      rintro e w9 ⟨rfl, b9⟩
      have HB9 : Hid (Below w.heap.size w w9) := HB4.out.trans (b9.mono HB4.out.size)
      clear b9
      go_wp2_with fail
      go_ret
      exact ⟨by rw [← HRJ.out]; rfl, HB9.out⟩
end Go.Proofs.YtcdagmgbfihbdaaDoor
