/-
  The contracts of a writer's calls: NewWriter, room, groups, Varint, Text, Raw, Len, Done, and of a nil writer.
-/
import Derived.Test.YtkebddjndljodaaDoorWriter
namespace Go.Proofs.YtkebddjndljodaaDoor
open Go.RowKit
theorem newWriter_any (n : Int) (w : World) :
    Calls Tryd.prog 14 #[.int .i64 n] w fun e w' => e = .returned (.pointer (some ⟨w.heap.size, 0, none⟩)) ∧ WIs w' 0 w.heap.size (max n 0) [] false (.slice none 0 0) ∧ Keeps (fun _ => False) w w' := by
  go_enter Tryd.func14, Tryd.ntmps14
  go_wp2
  go_ret
  exact ⟨rfl, ⟨block_alloc_at _ _, World.ownsRow_nil _ _ _ _⟩, (Keeps.refl _ _).alloc _⟩
section
variable {base b : Nat} {most : Int} {bs : List UInt8} {v : Value} {w : World}
theorem room_yes (n : Int) (h : WIs w base b most bs false v) (hm : 0 ≤ most) (hm' : most ≤ 9223372036854775807) (hr : n ≤ most - bs.length) :
    Calls Tryd.prog 26 #[.pointer (some ⟨b, 0, none⟩), .int .i64 n] w fun r w' => r = .returned (.bool true) ∧ ∃ q, w' = w.drewN q := by
  have hl := h.lenLe
  unfold maxLen at hl
  obtain ⟨a, cap, hv⟩ := h.form
  have h0 := h.c0; have h1 := h.c1; have h2 := h.c2
  rw [hv] at h1
  clear hv
  go_enter Tryd.func26, Tryd.ntmps26
  go_wp2
  go_quiet (fail)
  go_wp2
  go_ret
  exact ⟨rfl, _, rfl⟩
theorem room_no (n : Int) (h : WIs w base b most bs false v) (hm : 0 ≤ most) (hm' : most ≤ 9223372036854775807) (hr : most - bs.length < n) :
    Calls Tryd.prog 26 #[.pointer (some ⟨b, 0, none⟩), .int .i64 n] w fun r w' => r = .returned (.bool false) ∧ WIs w' base b most [] true (.slice none 0 0) ∧ WKeeps base b w w' := by
  have hl := h.lenLe
  unfold maxLen at hl
  obtain ⟨a, cap, hv⟩ := h.form
  have h0 := h.c0; have h1 := h.c1; have h2 := h.c2; have f1 := h.f1; have f2 := h.f2
  rw [hv] at h1
  clear hv
  go_enter Tryd.func26, Tryd.ntmps26
  go_wp2
  go_quiet (fail)
  go_wp2
  go_ret
  exact ⟨rfl, ⟨block_setCell (block_setCell h.block 2 _) 1 _, World.ownsRow_nil _ _ _ _⟩, (((Keeps.refl (WR base b _) _).setCell (Or.inl (Or.inl rfl)) _).setCell (Or.inl (Or.inl rfl)) _).drewN _⟩
theorem room_over (n : Int) (h : WIs w base b most bs true v) :
    Calls Tryd.prog 26 #[.pointer (some ⟨b, 0, none⟩), .int .i64 n] w fun r w' => r = .returned (.bool false) ∧ w' = w := by
  have h0 := h.c0; have h1 := h.c1; have h2 := h.c2
  go_enter Tryd.func26, Tryd.ntmps26
  go_wp2
  go_ret
  exact ⟨rfl, rfl⟩
theorem room_nil (n : Int) :
    Calls Tryd.prog 26 #[.pointer none, .int .i64 n] w fun r w' => r = .returned (.bool false) ∧ w' = w := by
  go_enter Tryd.func26, Tryd.ntmps26
  go_wp2
  go_ret
  exact ⟨rfl, rfl⟩
theorem Tryd.info5 : (Tryd.prog.info? 5).map (fun i => (i.zero, i.size, i.bytes)) = some (some (.int .u8 0), 1, 1) := by kernel_rfl
theorem ofNat_toNat {x : Nat} (h : x < 256) : (UInt8.ofNat x).toNat = x := by simp; omega
theorem one_cell (W : World) (u : Value) (t : TypeId) : ∀ j x, [u][j]? = some x → (W.alloc (.cells #[u] t)).cell? ((⟨W.heap.size, 0, none⟩ : Addr).add j) = some x := by
  intro j x hj
  match j, hj with
  | 0, hj => simp at hj; subst hj; simp [Addr.add]
theorem or128 {x : Nat} : bits .or .u8 ((x : Int) % 256) 128 = ((x % 128 + 128 : Nat) : Int) := by
  have e : (x : Int) % 256 = ((x % 256 : Nat) : Int) := by omega
  rw [e]
  have := u8_or_nat (x % 256) 128 (by omega) (by decide)
  refine this.trans ?_
  congr 1
  have h1 : ∀ y : Fin 256, y.val ||| 128 = y.val % 128 + 128 := by decide +kernel
  have h2 := h1 ⟨x % 256, by omega⟩
  simp at h2
  rw [h2]
set_option maxRecDepth 100000 in
set_option maxHeartbeats 1000000 in
theorem wgroups_any (n : Nat) (h : WIs w base b most bs false v) (hbase : base ≤ w.heap.size) (hn : n < 18446744073709551616) (hr : bs.length + 10 ≤ 140737488355328) :
    Calls Tryd.prog 28 #[.pointer (some ⟨b, 0, none⟩), .int .u64 n] w fun r w' => r = .returned (.tuple #[]) ∧ (∃ v', WIs w' base b most (bs ++ varint n) false v') ∧ WKeeps base b w w' := by
  obtain ⟨i0, hi, hz0, hz1, hz2⟩ := info_parts Tryd.info5
  have hvl := varint_le n hn
  go_enter Tryd.func28, Tryd.ntmps28
  go_wp2
  go_loopw [1] (fun m wr => ∃ x : Nat, ∃ cur v', x < 18446744073709551616 ∧ m = .int .u64 x ∧ Hid (bs ++ varint n = cur ++ varint x) ∧ WIs wr base b most cur false v' ∧ WKeeps base b w wr) (fun m _ => (intOf m).toNat)
  case atStart => exact ⟨n, bs, v, hn, rfl, rfl, h, Keeps.refl _ _⟩
  case round =>
    obtain ⟨x, cur, v', hx, rfl, HP, h', hk⟩ := hrel
    have HL : Hid (cur.length + 1 ≤ 140737488355328) := by
      have e := congrArg List.length HP.out
      have := varint_pos x
      simp only [List.length_append] at e
      unfold Hid
      omega
    obtain ⟨a, cap, rfl⟩ := h'.form
    have h1 := h'.c1; have f1 := h'.f1
    have hsz := hk.size
    by_cases hxs : x < 128
    · have HV : Hid _ := varint_small hxs
      have HX : Hid (x = (UInt8.ofNat x).toNat) := (ofNat_toNat (by omega)).symm
      go_wp2_with (at_builtin; refine wpList_append_own _ rfl (.tmp 24) (.tmp 27) 49 rfl base 5 i0 (.int .u8 0) 1 1 Tryd.underlying49 hi hz0 hz1 hz2 rfl (by decide) _ _ _ rfl (h'.row.alloc _) ⟨wr.heap.size, 0, none⟩ 1 1 [.int .u8 x] rfl rfl (one_cell _ _ _) ?c2 ?c3 ?c4 ?c5 ?_)
      case c2 => intro u hu; simp at hu; subst hu; rfl
      case c3 => have := HL.out; unfold maxLen; omega
      case c4 => have := HL.out; omega
      case c5 => simp; omega
      intro v1 w1 hown hgrow _
      have hb := h'.grown hgrow
      have k1 : w1.cell? ⟨b, 1, none⟩ = _ := cell_of_block hb rfl
      have k2 : w1.frozen? ⟨b, 1, none⟩ = false := free_of_block hb 1
      obtain ⟨a1, cap1, rfl⟩ := form_of_row hown
      have HR : Hid (WIs (w1.setCell ⟨b, 1, none⟩ (.slice a1 (cur.length + 1) cap1)) base b most (cur ++ [UInt8.ofNat x]) false (.slice a1 (cur.length + 1) cap1)) :=
        appended hb (by simpa [cellsOf, ← HX.out] using hown)
      have HK : Hid (WKeeps base b w (w1.setCell ⟨b, 1, none⟩ (.slice a1 (cur.length + 1) cap1))) := kept_append h' hk hgrow
      clear hown hgrow
      go_wp2
      go_end0
      exact ⟨rfl, ⟨_, by rw [HP.out, HV.out]; exact HR.out⟩, HK.out⟩
    · have HV : Hid _ := varint_big hxs
      have HX : Hid (x % 128 + 128 = (UInt8.ofNat (x % 128 + 128)).toNat) := (ofNat_toNat (by omega)).symm
      have ho := or128 (x := x)
      go_wp2_with (at_builtin; refine wpList_append_own _ rfl (.tmp 10) (.tmp 14) 49 rfl base 5 i0 (.int .u8 0) 1 1 Tryd.underlying49 hi hz0 hz1 hz2 rfl (by decide) _ _ _ rfl (h'.row.alloc _) ⟨wr.heap.size, 0, none⟩ 1 1 [.int .u8 ((x % 128 + 128 : Nat) : Int)] rfl rfl (one_cell _ _ _) ?d2 ?d3 ?d4 ?d5 ?_)
      case d2 => intro u hu; simp at hu; subst hu; rfl
      case d3 => have := HL.out; unfold maxLen; omega
      case d4 => have := HL.out; omega
      case d5 => simp; omega
      intro v1 w1 hown hgrow _
      have hb := h'.grown hgrow
      have k1 : w1.cell? ⟨b, 1, none⟩ = _ := cell_of_block hb rfl
      have k2 : w1.frozen? ⟨b, 1, none⟩ = false := free_of_block hb 1
      obtain ⟨a1, cap1, rfl⟩ := form_of_row hown
      have HR : Hid (WIs (w1.setCell ⟨b, 1, none⟩ (.slice a1 (cur.length + 1) cap1)) base b most (cur ++ [UInt8.ofNat (x % 128 + 128)]) false (.slice a1 (cur.length + 1) cap1)) :=
        appended hb (by simp only [cellsOf, List.map, List.length, ← HX.out]; exact hown)
      have HK : Hid (WKeeps base b w (w1.setCell ⟨b, 1, none⟩ (.slice a1 (cur.length + 1) cap1))) := kept_append h' hk hgrow
      clear hown hgrow ho
      go_wp2
      go_roundw
      case rel => exact ⟨x / 128, _, _, by omega, by go_num, by rw [Hid, HP.out, HV.out]; simp, HR.out, HK.out⟩
      case measure => simp [intOf]; omega
end
end Go.Proofs.YtkebddjndljodaaDoor
