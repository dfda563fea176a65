/-
  The contract of the twin's Frame: the bytes that chapter 2 says.
-/
import Derived.Test.YtkhmmcakgfneiaaNumber
import Derived.Deep.RegionWith
namespace Go.Proofs.Ytkhmmcakgfneiaa
open Go.RowKit
theorem bcell {W w1 : World} (hb : Below W.heap.size W w1) : (∀ b o, b < W.heap.size → w1.cell? ⟨b, o, none⟩ = W.cell? ⟨b, o, none⟩) ∧ (∀ b o, b < W.heap.size → w1.frozen? ⟨b, o, none⟩ = W.frozen? ⟨b, o, none⟩) :=
  ⟨fun b o h => hb.cell (p := ⟨b, o, none⟩) h, fun b o h => hb.frozen (p := ⟨b, o, none⟩) h⟩
theorem bel_a {w w1 w3 : World} {o : Obj} (h1 : Below (w.alloc o).drew.heap.size (w.alloc o).drew w1) (h3 : Below w1.heap.size w1 w3) : Below w.heap.size w w3 := by
  have s1 := h1.size
  simp only [World.size_drew, World.size_alloc] at s1
  exact ((((Below.refl w.heap.size w).alloc (Nat.le_refl _) o).drew).trans (h1.mono (B' := w.heap.size) (by simp))).trans (h3.mono (B' := w.heap.size) (by omega))
theorem bel_b {w w1 w3 : World} {o : Obj} (h1 : Below w.drew.heap.size w.drew w1) (h3 : Below (w1.alloc o).heap.size (w1.alloc o) w3) : Below w.heap.size w w3 := by
  have s1 := h1.size
  simp only [World.size_drew] at s1
  exact ((((Below.refl w.heap.size w).drew).trans (h1.mono (B' := w.heap.size) (by simp))).alloc s1 o).trans (h3.mono (B' := w.heap.size) (by simp; omega))
theorem conv_two (k : Nat) (hk : k < 256) (W : World) (g : Nat) (h0 : W.cell? ⟨g, 0, none⟩ = some (.int .u8 k)) (h1 : W.cell? ⟨g, 1, none⟩ = some (.int .u8 0)) :
    (convert 55 9 (.slice (some ⟨g, 0, none⟩) 2 2)).run Try.prog W = .ok (.string ⟨#[bt k, bt 0]⟩) W := by
  refine run_convert_bytes_back W 55 9 5 ⟨g, 0, none⟩ 2 [bt k, bt 0] Try.underlying55 Try.underlying5 Try.underlying9 (fun j hj => ?_)
  match j, hj with
  | 0, _ => show W.cell? ⟨g, 0, none⟩ = _; rw [h0]; simp [bt_toNat]; omega
  | 1, _ => show W.cell? ⟨g, 1, none⟩ = _; rw [h1]; rfl
set_option maxRecDepth 100000 in
set_option maxHeartbeats 2000000 in
theorem refFrame_any (k : Nat) (body : ByteArray) (w : World) (hk : k < 256) (hl : body.size ≤ 1048576) :
    Calls Try.prog 31 #[.int .u8 k, .string body] w fun r w' => r = .returned (.tuple #[.string ⟨(frBytes k body).toArray⟩, .int .i64 0]) ∧ Below w.heap.size w w' := by
  have cv := conv_two k hk
  have N4 : Hid (∀ w : World, Calls Try.prog 51 #[.int .u64 (body.size : Int), .int .i64 4] w _) := fun w => number4 body.size w (by omega)
  obtain ⟨T, hT⟩ : ∃ T : ByteArray, T = ⟨(be4 body.size).toArray⟩ := ⟨_, rfl⟩
  have hTs : T.size = 4 := by rw [hT]; rfl
  rw [← hT] at N4
  have HT : Hid _ := hT
  clear hT
  obtain ⟨S, hS⟩ : ∃ S : ByteArray, S = ⟨#[68, 70]⟩ ++ ⟨#[bt k, bt 0]⟩ ++ T ++ body := ⟨_, rfl⟩
  have HL : Hid (S.data.toList = frHead k body) := by
    rw [Hid, hS, HT.out]
    simp only [ByteArray.data_append, Array.toList_append]
    rfl
  have HZ : Hid (S.size ≤ maxLen) := by
    rw [Hid, size_list, HL.out, frHead_len]; unfold maxLen; omega
  have HA : Hid (⟨#[68, 70]⟩ ++ ⟨#[bt k, bt 0]⟩ ++ T ++ body = S) := hS.symm
  clear hS
  obtain ⟨c, hc⟩ : ∃ c, c = Cx.crc (frHead k body) := ⟨_, rfl⟩
  have hcl : c < 4294967296 := by rw [hc]; exact Cx.crc_lt _
  obtain ⟨U, hU⟩ : ∃ U : ByteArray, U = ⟨(be4 c).toArray⟩ := ⟨_, rfl⟩
  have NC : Hid (∀ w : World, Calls Try.prog 51 #[.int .u64 (c : Int), .int .i64 4] w fun r w' => r = .returned (.string U) ∧ Below w.heap.size w w') := by
    rw [Hid, hU]; exact fun w => number4 c w (by omega)
  have HW : Hid (IntKind.u64.wrap (Cx.crc (frHead k body) : Int) = c) := by rw [Hid, ← hc, IntKind.wrap_u64]; omega
  have hUs : U.size = 4 := by rw [hU]; rfl
  have hSs : S.size = 8 + body.size := by rw [size_list, HL.out, frHead_len]
  have HF : Hid (S ++ U = ⟨(frBytes k body).toArray⟩) := by
    apply bytes_ext
    rw [ByteArray.data_append, Array.toList_append, HL.out, hU, hc]
    rfl
  clear hU hc
  have ju : IntKind.u64.wrap (body.size : Int) = body.size := by rw [IntKind.wrap_u64]; omega
  go_enter Try.func31, Try.ntmps31
  go_wp2_with fail
  go_region_with (go_at_call 51; refine (N4.out _).mono ?_; rintro e w1 ⟨rfl, hb1⟩; obtain ⟨hc1, hf1⟩ := bcell hb1)
  all_goals
    go_wp2_with fail
    rw [HA.out]
    refine (refCrc_any _ _ HZ.out).mono ?_
    rintro e w2 ⟨rfl, rfl⟩
    rw [HL.out]
    go_wp2_with fail
    rw [HW.out]
    refine (NC.out _).mono ?_
    rintro e w3 ⟨rfl, hb3⟩
    have B2 : Hid (Below w.heap.size w w3) := by
      unfold Hid
      first
        | exact bel_a hb1 hb3
        | exact bel_b hb1 hb3
    clear hb1 hb3 hc1 hf1 cv ju
    go_wp2_with fail
    go_ret2
    exact ⟨by rw [← HF.out]; rfl, B2.out⟩
theorem refFrame_long (k : Int) (body : ByteArray) (w : World) (hl : 1048576 < body.size) (hs : body.size ≤ maxLen) :
    Calls Try.prog 31 #[.int .u8 k, .string body] w fun r w' => r = .returned (.tuple #[.string ByteArray.empty, .int .i64 3]) ∧ w' = w := by
  unfold maxLen at hs
  go_enter Try.func31, Try.ntmps31
  go_wp2
  go_ret2
  exact ⟨rfl, rfl⟩
end Go.Proofs.Ytkhmmcakgfneiaa
