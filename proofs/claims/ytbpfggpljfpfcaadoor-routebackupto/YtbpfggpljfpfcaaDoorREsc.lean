/-
  The contract of the twin's Escape.
-/
import Derived.Test.YtbpfggpljfpfcaaDoorEsc
import Derived.Test.YtbpfggpljfpfcaaDoorRCls
namespace Go.Proofs.YtbpfggpljfpfcaaDoor
open Go.RowKit
theorem conv_new (W : World) (l : List UInt8) (t : TypeId) (n : Nat) (hn : n = l.length) (c : Nat) : (convert 72 9 (.slice (some ⟨W.heap.size, 0, none⟩) n c)).run Tryd.prog (W.alloc (.cells (cellsOf l).toArray t)) = .ok (.string ⟨l.toArray⟩) (W.alloc (.cells (cellsOf l).toArray t)) := by
  subst hn
  exact run_convert_bytes_back _ 72 9 5 _ _ l Tryd.underlying72 Tryd.underlying5 Tryd.underlying9 (fun j hj => new_cells W (cellsOf l) t j _ (by simp [cellsOf, hj]))
theorem conv_new' (W : World) (l : List UInt8) (t : TypeId) (n : Nat) (hn : n = l.length) (c : Nat) : (convert 72 9 (.slice (some ⟨W.heap.size, 0, none⟩) n c)).run Tryd.prog (W.alloc (.cells (cellsOf l).toArray t)).drew = .ok (.string ⟨l.toArray⟩) (W.alloc (.cells (cellsOf l).toArray t)).drew := by
  subst hn
  exact run_convert_bytes_back _ 72 9 5 _ _ l Tryd.underlying72 Tryd.underlying5 Tryd.underlying9 (fun j hj => new_cells W (cellsOf l) t j _ (by simp [cellsOf, hj]))
theorem str_app (a b : List UInt8) : (⟨a.toArray⟩ : ByteArray) ++ ⟨b.toArray⟩ = ⟨(a ++ b).toArray⟩ := by
  apply ByteArray.ext
  simp [ByteArray.data_append]
set_option maxRecDepth 20000 in
set_option maxHeartbeats 4000000 in
theorem rescape_any (s : ByteArray) (w : World) (hs : s.size ≤ 46912496118000) : Calls Tryd.prog 38 #[.string s] w fun e w' => e = .returned (.string ⟨(escOf s.data.toList).toArray⟩) ∧ Below w.heap.size w w' := by
  go_enter Tryd.func38, Tryd.ntmps38
  go_wp2_with fail
  go_loopw [3, 4] (fun v i wr => ∃ k : Nat, ∃ cur : ByteArray, k ≤ s.size ∧ i = .int .i64 k ∧ v = .string cur ∧ Hid (cur = ⟨(escOf (s.data.toList.take k)).toArray⟩) ∧ Below w.heap.size w wr) (fun _ i _ => s.size - (intOf i).toNat)
  case atStart => exact ⟨0, _, by omega, rfl, rfl, rfl, Below.refl _ _⟩
  case round =>
    obtain ⟨k, cur, hk, rfl, rfl, HC, hb⟩ := hrel
    have hsz := hb.size
    by_cases hlt : k < s.size
    · have hcl : cur.size ≤ 3 * k := by
        have h1 := escOf_len (s.data.toList.take k)
        rw [List.length_take] at h1
        rw [HC.out]
        simp only [ByteArray.size, List.size_toArray]
        omega
      have r0 := fun W => run_byte s (i := k) (z := (k : Int)) rfl hlt W
      have hxl := byteAt_lt s k
      obtain ⟨x, hx⟩ : ∃ x, byteAt s k = x := ⟨_, rfl⟩
      have HX := esc_snoc s k x hlt hx
      rw [escB] at HX
      rw [hx] at r0 hxl
      have H1 : Hid (∀ W : World, _) := fun W => rletter_any x W
      have H2 : Hid (∀ W : World, _) := fun W => rdigit_any x W
      have H3 : Hid (∀ W : World, _) := fun W => among_any plainMarks x hxl (by decide) W
      rw [show plainMarks = (⟨#[45, 46, 95, 126]⟩ : ByteArray) from rfl] at H3
      have hpe : plainB x = (isLet x || isDig x || mark ⟨#[45, 46, 95, 126]⟩ x) := rfl
      obtain ⟨b1, hb1⟩ : ∃ b, isLet x = b := ⟨_, rfl⟩
      obtain ⟨b2, hb2⟩ : ∃ b, isDig x = b := ⟨_, rfl⟩
      obtain ⟨b3, hb3⟩ : ∃ b, mark ⟨#[45, 46, 95, 126]⟩ x = b := ⟨_, rfl⟩
      rw [hb1, hb2, hb3] at hpe
      rw [hb1] at H1
      rw [hb2] at H2
      rw [hb3] at H3
      clear hb1 hb2 hb3
      by_cases hp : (b1 || b2 || b3) = true
      · rw [hpe, if_pos hp] at HX
        have HX2 : Hid (cur ++ ⟨#[UInt8.ofNat x]⟩ = ⟨(escOf (s.data.toList.take (k + 1))).toArray⟩) := by
          rw [Hid, HX, HC.out, ← str_app]
        have hcv : ∀ W : World, (convert 72 9 (.slice (some ⟨W.heap.size, 0, none⟩) 1 1)).run Tryd.prog (W.alloc (.cells #[.int .u8 (x : Int)] 5)) = .ok (.string ⟨#[UInt8.ofNat x]⟩) (W.alloc (.cells #[.int .u8 (x : Int)] 5)) := fun W => by
          have := conv_new W [UInt8.ofNat x] 5 1 rfl 1
          rw [show cellsOf [UInt8.ofNat x] = [Value.int .u8 ((UInt8.ofNat x).toNat : Int)] from rfl, ofNat_toNat hxl] at this
          exact this
        obtain ⟨C, hC⟩ : ∃ C : ByteArray, (⟨#[UInt8.ofNat x]⟩ : ByteArray) = C := ⟨_, rfl⟩
        have hC1 : C.size = 1 := by rw [← hC]; rfl
        rw [hC] at hcv HX2
        have HCut : Hid (∀ o, Below w.heap.size w (wr.alloc o)) := fun o => hb.alloc hsz o
        clear hx HX hpe HC hC hb hsz
        cases b1 <;> cases b2 <;> cases b3 <;> first | (exfalso; revert hp; decide) | skip
        all_goals
          clear hp
          go_wp2_with (first
            | (go_at_call 59; refine (H1.out _).mono ?_; rintro e w' ⟨rfl, rfl⟩)
            | (go_at_call 42; refine (H2.out _).mono ?_; rintro e w' ⟨rfl, rfl⟩)
            | (go_at_call 60; refine (H3.out _).mono ?_; rintro e w' ⟨rfl, rfl⟩))
          go_roundw
          case rel => exact ⟨k + 1, _, by omega, by go_num, rfl, HX2.out, HCut.out _⟩
          case measure => simp [intOf]; omega
      · have hp' : b1 = false ∧ b2 = false ∧ b3 = false := by cases b1 <;> cases b2 <;> cases b3 <;> simp at hp ⊢
        obtain ⟨rfl, rfl, rfl⟩ := hp'
        rw [hpe, if_neg hp] at HX
        obtain ⟨q1, hq1⟩ : ∃ q1, x / 16 = q1 := ⟨_, rfl⟩
        obtain ⟨q2, hq2⟩ : ∃ q2, x % 16 = q2 := ⟨_, rfl⟩
        have e1 : (x : Int).tdiv 16 = (q1 : Int) := by rw [Int.tdiv_eq_ediv_of_nonneg (by omega)]; omega
        have e2 : (x : Int).tmod 16 = (q2 : Int) := by rw [Int.tmod_eq_emod_of_nonneg (by omega)]; omega
        have e3 : (x : Int) / 16 = (q1 : Int) := by omega
        have e4 : (x : Int) % 16 = (q2 : Int) := by omega
        have l1 : q1 < 16 := by omega
        have l2 : q2 < 16 := by omega
        have e5 : IntKind.u8.wrap (q1 : Int) = (q1 : Int) := by rw [IntKind.wrap_u8]; omega
        have e6 : IntKind.u8.wrap (q2 : Int) = (q2 : Int) := by rw [IntKind.wrap_u8]; omega
        rw [hq1, hq2] at HX
        have HX2 : Hid (cur ++ ⟨#[37, hexU q1, hexU q2]⟩ = ⟨(escOf (s.data.toList.take (k + 1))).toArray⟩) := by
          rw [Hid, HX, HC.out, ← str_app]
        have r1 := fun W => run_hexU l1 W
        have r2 := fun W => run_hexU l2 W
        have hcv : ∀ W : World, (convert 72 9 (.slice (some ⟨W.heap.size, 0, none⟩) 3 3)).run Tryd.prog (W.alloc (.cells #[.int .u8 37, .int .u8 ((hexU q1).toNat : Int), .int .u8 ((hexU q2).toNat : Int)] 5)).drew = .ok (.string ⟨#[37, hexU q1, hexU q2]⟩) (W.alloc (.cells #[.int .u8 37, .int .u8 ((hexU q1).toNat : Int), .int .u8 ((hexU q2).toNat : Int)] 5)).drew := fun W => conv_new' W [37, hexU q1, hexU q2] 5 3 rfl 3
        obtain ⟨C, hC⟩ : ∃ C : ByteArray, (⟨#[37, hexU q1, hexU q2]⟩ : ByteArray) = C := ⟨_, rfl⟩
        have hC1 : C.size = 3 := by rw [← hC]; rfl
        rw [hC] at hcv HX2
        have HCut : Hid (∀ o, Below w.heap.size w (wr.alloc o).drew) := fun o => (hb.alloc hsz o).drew
        clear hx HX hpe HC hC hb hsz hq1 hq2 hp
        go_wp2_with (first
          | (go_at_call 59; refine (H1.out _).mono ?_; rintro e w' ⟨rfl, rfl⟩)
          | (go_at_call 42; refine (H2.out _).mono ?_; rintro e w' ⟨rfl, rfl⟩)
          | (go_at_call 60; refine (H3.out _).mono ?_; rintro e w' ⟨rfl, rfl⟩))
        go_region
        all_goals
          go_wp2_with fail
          go_roundw
          case rel => exact ⟨k + 1, _, by omega, by go_num, rfl, HX2.out, HCut.out _⟩
          case measure => simp [intOf]; omega
    · obtain rfl : k = s.size := by omega
      have HC' : Hid (cur = ⟨(escOf s.data.toList).toArray⟩) := by show _ = _; rw [HC.out, List.take_of_length_le (by simp)]
      go_wp2_with fail
      go_ret
      exact ⟨by rw [← HC'.out]; rfl, hb⟩
end Go.Proofs.YtbpfggpljfpfcaaDoor
