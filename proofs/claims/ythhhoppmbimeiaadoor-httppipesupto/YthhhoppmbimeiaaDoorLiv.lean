/-
  The contract of lives: what must come of every program.
-/
import Derived.Test.YthhhoppmbimeiaaDoorQPs
namespace Go.Proofs.YthhhoppmbimeiaaDoor
open Go.RowKit
theorem parse_ex1 (m : Int) (w : World) (hm : w.cell? ⟨0, 0, none⟩ = some (.int .i64 m)) : Calls Tryd.prog 8 #[.string ⟨#[71, 69, 84, 32, 47, 97, 32, 72, 84, 84, 80, 47, 49, 46, 49, 13, 10, 72, 111, 115, 116, 58, 32, 120, 13, 10, 13, 10, 109, 111, 114, 101]⟩] w fun e w' => ∃ a c body shut, e = .returned (.tuple #[.agg #[.string ⟨#[71, 69, 84]⟩, .string ⟨#[47, 97]⟩, .slice a 1 c, .string body, .bool shut], .int .i64 28, .int .i64 0]) ∧ Below w.heap.size w w' := by
  refine (parse_any ⟨#[71, 69, 84, 32, 47, 97, 32, 72, 84, 84, 80, 47, 49, 46, 49, 13, 10, 72, 111, 115, 116, 58, 32, 120, 13, 10, 13, 10, 109, 111, 114, 101]⟩ m w (by decide) hm).mono ?_
  rintro e w' ⟨a, c, rfl, _, hb⟩
  refine ⟨a, c, (parseR ⟨#[71, 69, 84, 32, 47, 97, 32, 72, 84, 84, 80, 47, 49, 46, 49, 13, 10, 72, 111, 115, 116, 58, 32, 120, 13, 10, 13, 10, 109, 111, 114, 101]⟩).body, (parseR ⟨#[71, 69, 84, 32, 47, 97, 32, 72, 84, 84, 80, 47, 49, 46, 49, 13, 10, 72, 111, 115, 116, 58, 32, 120, 13, 10, 13, 10, 109, 111, 114, 101]⟩).shut, ?_, hb⟩
  have h : (parseR ⟨#[71, 69, 84, 32, 47, 97, 32, 72, 84, 84, 80, 47, 49, 46, 49, 13, 10, 72, 111, 115, 116, 58, 32, 120, 13, 10, 13, 10, 109, 111, 114, 101]⟩).met = ⟨#[71, 69, 84]⟩ ∧ (parseR ⟨#[71, 69, 84, 32, 47, 97, 32, 72, 84, 84, 80, 47, 49, 46, 49, 13, 10, 72, 111, 115, 116, 58, 32, 120, 13, 10, 13, 10, 109, 111, 114, 101]⟩).tar = ⟨#[47, 97]⟩ ∧ (parseR ⟨#[71, 69, 84, 32, 47, 97, 32, 72, 84, 84, 80, 47, 49, 46, 49, 13, 10, 72, 111, 115, 116, 58, 32, 120, 13, 10, 13, 10, 109, 111, 114, 101]⟩).fs.length = 1 ∧ (parseR ⟨#[71, 69, 84, 32, 47, 97, 32, 72, 84, 84, 80, 47, 49, 46, 49, 13, 10, 72, 111, 115, 116, 58, 32, 120, 13, 10, 13, 10, 109, 111, 114, 101]⟩).size = 28 ∧ (parseR ⟨#[71, 69, 84, 32, 47, 97, 32, 72, 84, 84, 80, 47, 49, 46, 49, 13, 10, 72, 111, 115, 116, 58, 32, 120, 13, 10, 13, 10, 109, 111, 114, 101]⟩).err = 0 := by decide +kernel
  obtain ⟨h1, h2, h3, h4, h5⟩ := h
  simp only [psV, rqV]
  rw [h1, h2, h3, h4, h5]
  rfl
theorem parse_err (s : ByteArray) (E : Int) (hE : (parseR s).err = E) (hs : s.size ≤ 4096) (m : Int) (w : World) (hm : w.cell? ⟨0, 0, none⟩ = some (.int .i64 m)) : Calls Tryd.prog 8 #[.string s] w fun e w' => ∃ met tar va vn vc body shut n, e = .returned (.tuple #[.agg #[.string met, .string tar, .slice va vn vc, .string body, .bool shut], .int .i64 n, .int .i64 E]) ∧ Below w.heap.size w w' := by
  refine (parse_any s m w (by omega) hm).mono ?_
  rintro e w' ⟨a, c, rfl, _, hb⟩
  exact ⟨_, _, _, _, _, _, _, _, by rw [← hE]; rfl, hb⟩
set_option maxRecDepth 20000 in
set_option maxHeartbeats 8000000 in
theorem lives_any (m : Int) (w : World) (hm : w.cell? ⟨0, 0, none⟩ = some (.int .i64 m)) : Calls Tryd.prog 10 #[] w fun e w' => e = .returned (.bool true) ∧ Below w.heap.size w w' := by
  have HM : Hid (∀ W, Below w.heap.size w W → W.cell? ⟨0, 0, none⟩ = some (.int .i64 m)) := fun W b => mx_below hm b
  have H1 : Hid (∀ W, Below w.heap.size w W → _) := fun W b => parse_ex1 m W (HM.out W b)
  have H2 : Hid (∀ W, Below w.heap.size w W → _) := fun W b => parse_err ⟨#[71, 69, 84, 32, 47, 97, 32, 72, 84, 84, 80, 47, 49, 46, 49, 13, 10, 13, 10]⟩ 170 (by decide +kernel) (by decide) m W (HM.out W b)
  have H3 : Hid (∀ W, Below w.heap.size w W → _) := fun W b => parse_err ⟨#[71, 69, 84, 32, 47, 97, 32, 72, 84, 84, 80, 47, 49, 46, 49, 13, 10, 72, 111, 115, 116, 58, 32, 120, 13, 10, 13]⟩ 4 (by decide +kernel) (by decide) m W (HM.out W b)
  have hx3 : ByteArray.extract ⟨#[71, 69, 84, 32, 47, 97, 32, 72, 84, 84, 80, 47, 49, 46, 49, 13, 10, 72, 111, 115, 116, 58, 32, 120, 13, 10, 13, 10]⟩ 0 27 = ⟨#[71, 69, 84, 32, 47, 97, 32, 72, 84, 84, 80, 47, 49, 46, 49, 13, 10, 72, 111, 115, 116, 58, 32, 120, 13, 10, 13]⟩ := by decide +kernel
  have HX3 : Hid _ := hx3
  clear hm
  go_enter Tryd.func10, Tryd.ntmps10
  go_wp2_with fail
  refine (H1.out _ (Below.refl _ _)).mono ?_
  rintro e w1 ⟨a, c, body, shut, rfl, b1⟩
  have HB1 : Hid (Below w.heap.size w (w1.alloc (.cells #[.string ⟨#[71, 69, 84]⟩, .string ⟨#[47, 97]⟩, .slice a 1 c, .string body, .bool shut] 24))) := b1.alloc b1.size _
  have hx := block_alloc_at w1 (.cells #[.string ⟨#[71, 69, 84]⟩, .string ⟨#[47, 97]⟩, .slice a 1 c, .string body, .bool shut] 24)
  obtain ⟨W1, hW1⟩ : ∃ W1, w1.alloc (.cells #[.string ⟨#[71, 69, 84]⟩, .string ⟨#[47, 97]⟩, .slice a 1 c, .string body, .bool shut] 24) = W1 := ⟨_, rfl⟩
  rw [hW1] at HB1 hx
  have HX : Hid (RB W1 w1.heap.size ⟨#[71, 69, 84]⟩ ⟨#[47, 97]⟩ (.slice a 1 c) body shut) := hx
  clear b1 hx
  go_wp2_with fail
  try rw [hW1]
  refine (H2.out _ HB1.out).mono ?_
  rintro e w2 ⟨met2, tar2, va2, vn2, vc2, body2, shut2, n2, rfl, b2⟩
  have HB2 : Hid (Below W1.heap.size W1 (w2.alloc (.cells #[.string met2, .string tar2, .slice va2 vn2 vc2, .string body2, .bool shut2] 24))) := b2.alloc b2.size _
  obtain ⟨W2, hW2⟩ : ∃ W2, w2.alloc (.cells #[.string met2, .string tar2, .slice va2 vn2 vc2, .string body2, .bool shut2] 24) = W2 := ⟨_, rfl⟩
  rw [hW2] at HB2
  clear b2
  go_wp2_with fail
  try rw [hW2]
  try rw [HX3.out]
  refine (H3.out _ (HB1.out.trans (HB2.out.mono HB1.out.size))).mono ?_
  rintro e w3 ⟨met3, tar3, va3, vn3, vc3, body3, shut3, n3, rfl, b3⟩
  have HB3 : Hid (Below W2.heap.size W2 (w3.alloc (.cells #[.string met3, .string tar3, .slice va3 vn3 vc3, .string body3, .bool shut3] 24))) := b3.alloc b3.size _
  obtain ⟨W3, hW3⟩ : ∃ W3, w3.alloc (.cells #[.string met3, .string tar3, .slice va3 vn3 vc3, .string body3, .bool shut3] 24) = W3 := ⟨_, rfl⟩
  rw [hW3] at HB3
  have HX9 : Hid (RB W3 w1.heap.size ⟨#[71, 69, 84]⟩ ⟨#[47, 97]⟩ (.slice a 1 c) body shut) := (HX.out.below HB2.out).below HB3.out
  have HB9 : Hid (Below w.heap.size w W3) := (HB1.out.trans (HB2.out.mono HB1.out.size)).trans (HB3.out.mono (Nat.le_trans HB1.out.size HB2.out.size))
  obtain ⟨k0, k1, k2, k3, k4⟩ := HX9.out.box
  clear b3
  go_wp2_with fail
  try rw [hW3]
  go_ret
  exact ⟨rfl, HB9.out⟩
theorem parseR_ok (s : ByteArray) : (parseR s).fs.length ≤ 4096 ∧ ∀ f ∈ (parseR s).fs, fdOk f := by
  unfold parseR
  cases hk : ix4 s with
  | none => exact ⟨Nat.zero_le _, fun f hf => by cases hf⟩
  | some k =>
    show (atP s k (rdH (s.extract 0 k))).fs.length ≤ 4096 ∧ ∀ f ∈ (atP s k (rdH (s.extract 0 k))).fs, fdOk f
    cases hn : rdH (s.extract 0 k) with
    | none => exact ⟨Nat.zero_le _, fun f hf => by cases hf⟩
    | some x =>
      obtain ⟨m, t, fs, ok⟩ := x
      have hb := rdH_ok (by rw [ByteArray.size_extract]; have := (ix4_some hk).2.1; omega) hn
      cases ok with
      | false => exact ⟨Nat.zero_le _, fun f hf => by cases hf⟩
      | true =>
        simp only [atP]
        split
        · exact ⟨Nat.zero_le _, fun f hf => by cases hf⟩
        · split
          · exact ⟨Nat.zero_le _, fun f hf => by cases hf⟩
          · exact ⟨hb.2.2.1, fun f hf => ⟨by have := (hb.2.2.2 f hf).1; omega, by have := (hb.2.2.2 f hf).2.1; omega⟩⟩
end Go.Proofs.YthhhoppmbimeiaaDoor
