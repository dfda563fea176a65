/-
  The contracts of a writer that is asked: Len, Done, Varint, Raw, Text: there is room, there is none, it is over, it is nil.
-/
import Derived.Test.YtkebddjndljodaaDoorWrite
namespace Go.Proofs.YtkebddjndljodaaDoor
open Go.RowKit
section
variable {base b : Nat} {most : Int} {bs : List UInt8} {v : Value} {w : World}
theorem wdone_over (h : WIs w base b most bs true v) : Calls Tryd.prog 18 #[.pointer (some ⟨b, 0, none⟩)] w fun r w' => r = .returned (.tuple #[.string ByteArray.empty, .int .i64 3]) ∧ w' = w := by
  obtain ⟨a, cap, rfl⟩ := h.form
  have h0 := h.c0; have h1 := h.c1; have h2 := h.c2
  go_enter Tryd.func18, Tryd.ntmps18
  go_wp2
  go_ret2
  exact ⟨rfl, rfl⟩
theorem wdone_nil : Calls Tryd.prog 18 #[.pointer none] w fun r w' => r = .returned (.tuple #[.string ByteArray.empty, .int .i64 6]) ∧ w' = w := by
  go_enter Tryd.func18, Tryd.ntmps18
  go_wp2
  go_ret2
  exact ⟨rfl, rfl⟩
/-- The bytes of a row as a string. -/
theorem conv_row {W : World} {a : Option Addr} {cap : Nat} (h : W.ownsRow base 5 1 (.slice a bs.length cap) bs.length (cellsOf bs)) :
    (convert 49 9 (.slice a bs.length cap)).run Tryd.prog W = .ok (.string ⟨bs.toArray⟩) W := by
  rcases h.2 with ⟨hv, hn⟩ | ⟨g, cap', cur, hv, _⟩
  · have hb : bs = [] := List.eq_nil_of_length_eq_zero hn
    subst hb
    simp only [Value.slice.injEq] at hv
    obtain ⟨rfl, _, rfl⟩ := hv
    exact run_convert_bytes_nil W 49 5 Tryd.underlying49 Tryd.underlying5 0 0 9 Tryd.underlying9
  · simp only [Value.slice.injEq] at hv
    obtain ⟨rfl, _, rfl⟩ := hv
    refine run_convert_bytes_back W 49 9 5 _ _ bs Tryd.underlying49 Tryd.underlying5 Tryd.underlying9 (fun j hj => ?_)
    exact h.cells rfl j _ (by simp [cellsOf, hj])
theorem wdone_ok (h : WIs w base b most bs false v) : Calls Tryd.prog 18 #[.pointer (some ⟨b, 0, none⟩)] w fun r w' => r = .returned (.tuple #[.string ⟨bs.toArray⟩, .int .i64 0]) ∧ w' = w := by
  obtain ⟨a, cap, rfl⟩ := h.form
  have h0 := h.c0; have h1 := h.c1; have h2 := h.c2
  have hc := conv_row h.row
  go_enter Tryd.func18, Tryd.ntmps18
  go_wp2
  go_ret2
  exact ⟨rfl, rfl⟩


theorem wvarint_ok (n : Nat) (h : WIs w base b most bs false v) (hbase : base ≤ w.heap.size) (hn : n < 18446744073709551616) (hm : 0 ≤ most) (hm' : most ≤ 9223372036854775807) (hl : bs.length + 10 ≤ 140737488355328) (hr : (varint n).length ≤ most - bs.length) :
    Calls Tryd.prog 16 #[.pointer (some ⟨b, 0, none⟩), .int .u64 n] w fun r w' => r = .returned (.tuple #[]) ∧ (∃ v', WIs w' base b most (bs ++ varint n) false v') ∧ WKeeps base b w w' := by
  go_enter Tryd.func16, Tryd.ntmps16
  go_wp2_with fail
  refine (varintWidth_any n _ hn).mono ?_
  rintro e w1 ⟨rfl, rfl⟩
  go_wp2_with fail
  refine (room_yes _ h hm hm' hr).mono ?_
  rintro e w2 ⟨rfl, q, rfl⟩
  go_wp2_with fail
  refine (wgroups_any n (h.drewN q) hbase hn hl).mono ?_
  rintro e w3 ⟨rfl, hw, hk⟩
  go_wp2_with fail
  go_end0
  exact ⟨rfl, hw, ((WKeeps.refl _ _ _).drewN q).trans hk⟩
theorem wvarint_no (n : Nat) (h : WIs w base b most bs false v) (hn : n < 18446744073709551616) (hm : 0 ≤ most) (hm' : most ≤ 9223372036854775807) (hr : most - bs.length < (varint n).length) :
    Calls Tryd.prog 16 #[.pointer (some ⟨b, 0, none⟩), .int .u64 n] w fun r w' => r = .returned (.tuple #[]) ∧ WIs w' base b most [] true (.slice none 0 0) ∧ WKeeps base b w w' := by
  go_enter Tryd.func16, Tryd.ntmps16
  go_wp2_with fail
  refine (varintWidth_any n _ hn).mono ?_
  rintro e w1 ⟨rfl, rfl⟩
  go_wp2_with fail
  refine (room_no _ h hm hm' hr).mono ?_
  rintro e w2 ⟨rfl, hw, hk⟩
  go_wp2_with fail
  go_end0
  exact ⟨rfl, hw, hk⟩
theorem wvarint_over (n : Nat) (h : WIs w base b most bs true v) (hn : n < 18446744073709551616) :
    Calls Tryd.prog 16 #[.pointer (some ⟨b, 0, none⟩), .int .u64 n] w fun r w' => r = .returned (.tuple #[]) ∧ w' = w := by
  go_enter Tryd.func16, Tryd.ntmps16
  go_wp2_with fail
  refine (varintWidth_any n _ hn).mono ?_
  rintro e w1 ⟨rfl, rfl⟩
  go_wp2_with fail
  refine (room_over _ h).mono ?_
  rintro e w2 ⟨rfl, rfl⟩
  go_wp2_with fail
  go_end0
  exact ⟨rfl, rfl⟩
theorem wvarint_nil (n : Nat) (hn : n < 18446744073709551616) :
    Calls Tryd.prog 16 #[.pointer none, .int .u64 n] w fun r w' => r = .returned (.tuple #[]) ∧ w' = w := by
  go_enter Tryd.func16, Tryd.ntmps16
  go_wp2_with fail
  refine (varintWidth_any n _ hn).mono ?_
  rintro e w1 ⟨rfl, rfl⟩
  go_wp2_with fail
  refine (room_nil _).mono ?_
  rintro e w2 ⟨rfl, rfl⟩
  go_wp2_with fail
  go_end0
  exact ⟨rfl, rfl⟩

theorem strCells_eq (s : ByteArray) : Lib.strCells s = cellsOf s.data.toList := rfl
theorem size_list (s : ByteArray) : s.size = s.data.toList.length := by simp
set_option maxRecDepth 100000 in
set_option maxHeartbeats 1000000 in
theorem wraw_ok (s : ByteArray) (h : WIs w base b most bs false v) (hbase : base ≤ w.heap.size) (hm : 0 ≤ most) (hm' : most ≤ 9223372036854775807) (hl : bs.length + s.size ≤ 140737488355328) (hr : (s.size : Int) ≤ most - bs.length) :
    Calls Tryd.prog 37 #[.pointer (some ⟨b, 0, none⟩), .string s] w fun r w' => r = .returned (.tuple #[]) ∧ (∃ v', WIs w' base b most (bs ++ s.data.toList) false v') ∧ WKeeps base b w w' := by
  obtain ⟨i0, hi, hz0, hz1, hz2⟩ := info_parts Tryd.info5
  have HL : Hid _ := hl
  clear hl
  go_enter Tryd.func37, Tryd.ntmps37
  go_wp2_with fail
  refine (room_yes _ h hm hm' hr).mono ?_
  rintro e w2 ⟨rfl, q, rfl⟩
  have h' := h.drewN q
  have hk : WKeeps base b w (w.drewN q) := (Keeps.refl _ _).drewN q
  have hbase' : base ≤ (w.drewN q).heap.size := hbase
  generalize w.drewN q = wr at *
  obtain ⟨a, cap, rfl⟩ := h'.form
  have h1 := h'.c1; have f1 := h'.f1
  go_wp2_with (at_builtin; refine Lib.wpList_append_own_string _ rfl (.tmp 12) (.tmp 13) 49 9 rfl base 5 i0 Tryd.underlying49 Tryd.underlying9 hi hz0 hz1 hz2 _ _ _ rfl h'.row s rfl ?c3 ?c4 hbase' ?_)
  case c3 => have := HL.out; unfold maxLen; omega
  case c4 => exact HL.out
  intro v1 w1 hown hgrow _
  have hb := h'.grown' hgrow
  have k1 : w1.cell? ⟨b, 1, none⟩ = _ := cell_of_block hb rfl
  have k2 : w1.frozen? ⟨b, 1, none⟩ = false := free_of_block hb 1
  obtain ⟨a1, cap1, rfl⟩ := form_of_row hown
  have HR : Hid (WIs (w1.setCell ⟨b, 1, none⟩ (.slice a1 (bs.length + s.size) cap1)) base b most (bs ++ s.data.toList) false (.slice a1 (bs.length + s.size) cap1)) :=
    appended hb (by rw [← size_list, ← strCells_eq]; exact hown)
  have HK : Hid (WKeeps base b w (w1.setCell ⟨b, 1, none⟩ (.slice a1 (bs.length + s.size) cap1))) := kept_append' h' hk hgrow
  clear hown hgrow
  go_wp2
  go_end0
  exact ⟨rfl, ⟨_, HR.out⟩, HK.out⟩
theorem wraw_no (s : ByteArray) (h : WIs w base b most bs false v) (hm : 0 ≤ most) (hm' : most ≤ 9223372036854775807) (hr : most - bs.length < (s.size : Int)) :
    Calls Tryd.prog 37 #[.pointer (some ⟨b, 0, none⟩), .string s] w fun r w' => r = .returned (.tuple #[]) ∧ WIs w' base b most [] true (.slice none 0 0) ∧ WKeeps base b w w' := by
  go_enter Tryd.func37, Tryd.ntmps37
  go_wp2_with fail
  refine (room_no _ h hm hm' hr).mono ?_
  rintro e w2 ⟨rfl, hw, hk⟩
  go_wp2_with fail
  go_end0
  exact ⟨rfl, hw, hk⟩
theorem wraw_over (s : ByteArray) (h : WIs w base b most bs true v) :
    Calls Tryd.prog 37 #[.pointer (some ⟨b, 0, none⟩), .string s] w fun r w' => r = .returned (.tuple #[]) ∧ w' = w := by
  go_enter Tryd.func37, Tryd.ntmps37
  go_wp2_with fail
  refine (room_over _ h).mono ?_
  rintro e w2 ⟨rfl, rfl⟩
  go_wp2_with fail
  go_end0
  exact ⟨rfl, rfl⟩
theorem wraw_nil (s : ByteArray) :
    Calls Tryd.prog 37 #[.pointer none, .string s] w fun r w' => r = .returned (.tuple #[]) ∧ w' = w := by
  go_enter Tryd.func37, Tryd.ntmps37
  go_wp2_with fail
  refine (room_nil _).mono ?_
  rintro e w2 ⟨rfl, rfl⟩
  go_wp2_with fail
  go_end0
  exact ⟨rfl, rfl⟩

/-- A text's bytes. -/
def textBytes (s : ByteArray) : List UInt8 := varint s.size ++ s.data.toList
set_option maxRecDepth 100000 in
set_option maxHeartbeats 1000000 in
theorem wtext_ok (s : ByteArray) (h : WIs w base b most bs false v) (hbase : base ≤ w.heap.size) (hm : 0 ≤ most) (hm' : most ≤ 9223372036854775807) (hl : bs.length + 10 + s.size ≤ 140737488355328) (hr : ((varint s.size).length : Int) + s.size ≤ most - bs.length) :
    Calls Tryd.prog 17 #[.pointer (some ⟨b, 0, none⟩), .string s] w fun r w' => r = .returned (.tuple #[]) ∧ (∃ v', WIs w' base b most (bs ++ textBytes s) false v') ∧ WKeeps base b w w' := by
  obtain ⟨i0, hi, hz0, hz1, hz2⟩ := info_parts Tryd.info5
  have hvl := varint_le s.size (by omega)
  have hsl : s.size ≤ 140737488355328 := by omega
  have HL : Hid _ := hl
  clear hl
  go_enter Tryd.func17, Tryd.ntmps17
  go_wp2_with fail
  refine (varintWidth_any s.size _ (by omega)).mono ?_
  rintro e w1 ⟨rfl, rfl⟩
  go_wp2_with fail
  refine (room_yes _ h hm hm' hr).mono ?_
  rintro e w2 ⟨rfl, q, rfl⟩
  go_wp2_with fail
  refine (wgroups_any s.size (h.drewN q) hbase (by omega) (by have := HL.out; omega)).mono ?_
  rintro e wr ⟨rfl, ⟨v', h'⟩, hk0⟩
  have hk := ((WKeeps.refl _ _ _).drewN q).trans hk0
  have hbase' : base ≤ wr.heap.size := Nat.le_trans hbase hk.size
  obtain ⟨a, cap, rfl⟩ := h'.form
  have HB : Hid (bs ++ textBytes s = (bs ++ varint s.size) ++ s.data.toList) := by simp [Hid, textBytes]
  have HN : Hid ((bs ++ varint s.size).length ≤ bs.length + 10) := by rw [Hid, List.length_append]; omega
  generalize bs ++ varint s.size = cur at *
  have h1 := h'.c1; have f1 := h'.f1
  go_wp2_with (at_builtin; refine Lib.wpList_append_own_string _ rfl (.tmp 22) (.tmp 23) 49 9 rfl base 5 i0 Tryd.underlying49 Tryd.underlying9 hi hz0 hz1 hz2 _ _ _ rfl h'.row s rfl ?c3 ?c4 hbase' ?_)
  case c3 => have := HL.out; have := HN.out; unfold maxLen; omega
  case c4 => have := HL.out; have := HN.out; omega
  intro v1 w1 hown hgrow _
  have hb := h'.grown' hgrow
  have k1 : w1.cell? ⟨b, 1, none⟩ = _ := cell_of_block hb rfl
  have k2 : w1.frozen? ⟨b, 1, none⟩ = false := free_of_block hb 1
  obtain ⟨a1, cap1, rfl⟩ := form_of_row hown
  have HR : Hid (WIs (w1.setCell ⟨b, 1, none⟩ (.slice a1 (cur.length + s.size) cap1)) base b most (cur ++ s.data.toList) false (.slice a1 (cur.length + s.size) cap1)) :=
    appended hb (by rw [← size_list, ← strCells_eq]; exact hown)
  have HK : Hid (WKeeps base b _ (w1.setCell ⟨b, 1, none⟩ (.slice a1 (cur.length + s.size) cap1))) := kept_append' h' hk hgrow
  clear hown hgrow
  go_wp2
  go_end0
  exact ⟨rfl, ⟨_, by rw [HB.out]; exact HR.out⟩, HK.out⟩
theorem wtext_no (s : ByteArray) (h : WIs w base b most bs false v) (hm : 0 ≤ most) (hm' : most ≤ 9223372036854775807) (hl : s.size ≤ 140737488355328) (hr : most - bs.length < ((varint s.size).length : Int) + s.size) :
    Calls Tryd.prog 17 #[.pointer (some ⟨b, 0, none⟩), .string s] w fun r w' => r = .returned (.tuple #[]) ∧ WIs w' base b most [] true (.slice none 0 0) ∧ WKeeps base b w w' := by
  have hvl := varint_le s.size (by omega)
  go_enter Tryd.func17, Tryd.ntmps17
  go_wp2_with fail
  refine (varintWidth_any s.size _ (by omega)).mono ?_
  rintro e w1 ⟨rfl, rfl⟩
  go_wp2_with fail
  refine (room_no _ h hm hm' hr).mono ?_
  rintro e w2 ⟨rfl, hw, hk⟩
  go_wp2_with fail
  go_end0
  exact ⟨rfl, hw, hk⟩
theorem wtext_over (s : ByteArray) (h : WIs w base b most bs true v) (hl : s.size ≤ 140737488355328) :
    Calls Tryd.prog 17 #[.pointer (some ⟨b, 0, none⟩), .string s] w fun r w' => r = .returned (.tuple #[]) ∧ w' = w := by
  have hvl := varint_le s.size (by omega)
  go_enter Tryd.func17, Tryd.ntmps17
  go_wp2_with fail
  refine (varintWidth_any s.size _ (by omega)).mono ?_
  rintro e w1 ⟨rfl, rfl⟩
  go_wp2_with fail
  refine (room_over _ h).mono ?_
  rintro e w2 ⟨rfl, rfl⟩
  go_wp2_with fail
  go_end0
  exact ⟨rfl, rfl⟩
theorem wtext_nil (s : ByteArray) (hl : s.size ≤ 140737488355328) :
    Calls Tryd.prog 17 #[.pointer none, .string s] w fun r w' => r = .returned (.tuple #[]) ∧ w' = w := by
  have hvl := varint_le s.size (by omega)
  go_enter Tryd.func17, Tryd.ntmps17
  go_wp2_with fail
  refine (varintWidth_any s.size _ (by omega)).mono ?_
  rintro e w1 ⟨rfl, rfl⟩
  go_wp2_with fail
  refine (room_nil _).mono ?_
  rintro e w2 ⟨rfl, rfl⟩
  go_wp2_with fail
  go_end0
  exact ⟨rfl, rfl⟩
end
end Go.Proofs.YtkebddjndljodaaDoor
