/-
  The walk of HttpFields.
-/
import Derived.Test.YthhhoppmbimeiaaDoorLiv
import Derived.Laws.MakeOwn
namespace Go.Proofs.YthhhoppmbimeiaaDoor
open Go.RowKit
/-- A byte in great letters. -/
def upC (c : UInt8) : UInt8 := if 97 ≤ c.toNat ∧ c.toNat ≤ 122 then UInt8.ofNat (c.toNat - 32) else c
theorem low_up (c : UInt8) : lowC (upC c) = lowC c := by
  have : ∀ c : Fin 256, lowC (upC (UInt8.ofNat c.val)) = lowC (UInt8.ofNat c.val) := by decide +kernel
  have h := this ⟨c.toNat, c.toNat_lt⟩
  simpa using h
def upT (s : ByteArray) : ByteArray := ⟨(s.data.toList.map upC).toArray⟩
theorem lowT_up (s : ByteArray) : lowT (upT s) = lowT s := by
  unfold lowT upT
  simp only [List.map_map]
  congr 2
  refine List.map_congr_left fun c _ => ?_
  exact low_up c
theorem allF_up (name : ByteArray) (fs : List Fd) : allF (upT name) fs = allF name fs := by
  unfold allF hitF
  rw [lowT_up]
def upK (l : List UInt8) (k : Nat) : List UInt8 := (l.take k).map upC ++ List.replicate (l.length - k) 0
theorem upK_len (l : List UInt8) (k : Nat) (h : k ≤ l.length) : (upK l k).length = l.length := by simp [upK]; omega
theorem upK_zero (l : List UInt8) : upK l 0 = List.replicate l.length 0 := by simp [upK]
theorem upK_all (l : List UInt8) : upK l l.length = l.map upC := by simp [upK]
theorem upK_succ {l : List UInt8} {k : Nat} {c : UInt8} (h : l[k]? = some c) : upK l (k + 1) = (upK l k).set k (upC c) := by
  obtain ⟨hk, hc⟩ := List.getElem?_eq_some_iff.1 h
  have hlen : ((l.take k).map upC).length = k := by simp; omega
  rw [upK, upK, List.set_append_right _ _ (by omega), hlen, Nat.sub_self, List.take_add_one, h, List.map_append, List.append_assoc, show l.length - k = (l.length - (k + 1)) + 1 by omega, List.replicate_succ]
  rfl
theorem BRow.made (w : World) (n : Nat) : BRow (w.alloc (.cells (madeCells #[.int .u8 0] n) 5)) w.heap.size (List.replicate n 0) := by
  have hb := block_alloc_at w (.cells (madeCells #[.int .u8 0] n) 5)
  refine ⟨fun j c hj => ?_, fun j _ => free_of_block hb j⟩
  have hj1 := (List.getElem?_eq_some_iff.1 hj).1
  simp only [List.length_replicate] at hj1
  rw [List.getElem?_replicate, if_pos hj1, Option.some.injEq] at hj
  subst hj
  refine cell_of_block hb ?_
  have hz : j < (madeCells #[.int .u8 0] n).size := by simp [madeCells]; omega
  rw [Array.getElem?_eq_getElem hz]
  simp [madeCells, Nat.mod_one]
theorem run_made (n : Nat) (h : n ≤ 140737488355328) (w : World) : (Instr.makeSlice 43 (.int .i64 (n : Int)) (.int .i64 (n : Int))).run Tryd.prog w = .ok (.slice (some ⟨w.heap.size, 0, none⟩) n n) (w.alloc (.cells (madeCells #[.int .u8 0] n) 5)) := by
  obtain ⟨i0, hi, hz⟩ := Option.map_eq_some_iff.1 info5
  simp only [Prod.mk.injEq] at hz
  obtain ⟨hz0, hz1, hz2⟩ := hz
  have := run_make (P := Tryd.prog) w 43 5 i0 (.int .u8 0) Tryd.underlying43 hi hz0 .i64 .i64 n n (by omega) (Int.le_refl _) (by rw [hz2]; omega) (by omega)
  rw [hz1, Nat.mul_one, Int.toNat_natCast] at this
  exact this
set_option maxRecDepth 20000 in
set_option maxHeartbeats 8000000 in
theorem fields_walk (r : Rq) (B : Nat) (name : ByteArray) (m : Int) (w : World) (h : FA B w r.a r.fs) (hB : B ≤ w.heap.size) (hr : rqOk r) (hs : name.size ≤ 140737488355328) (hm : w.cell? ⟨0, 0, none⟩ = some (.int .i64 m)) :
    Calls Tryd.prog 7 #[rqV r, .string name] w fun e w' => e = .returned (.bool true) ∧ Below w.heap.size w w' := by
  have HM : Hid (∀ W, Below w.heap.size w W → W.cell? ⟨0, 0, none⟩ = some (.int .i64 m)) := fun W b => mx_below hm b
  have H1 : Hid (∀ W : World, FA B W r.a r.fs → B ≤ W.heap.size → _) := fun W h1 h2 => all_any r B name W h1 h2 hr hs
  have H2 : Hid (∀ W : World, FA B W r.a r.fs → B ≤ W.heap.size → _) := fun W h1 h2 => get_any r B name W h1 h2 hr hs
  have H3 : Hid (∀ W, Below w.heap.size w W → _) := fun W b => lives_any m W (HM.out W b)
  have H4 : Hid (∀ W : World, FA B W r.a r.fs → B ≤ W.heap.size → _) := fun W h1 h2 => all_any r B (upT name) W h1 h2 hr (by show (name.data.toList.map upC).toArray.size ≤ _; simp; have e : name.data.size = name.size := rfl; omega)
  rw [allF_up] at H4
  have H5 : Hid (∀ a b ca cb W, TextsAt W a (allF name r.fs) → TextsAt W b (allF name r.fs) → _) := fun a b ca cb W h1 h2 => sameTexts_eq a b ca cb (allF name r.fs) W h1 h2 (by have := allF_len name r.fs; have := hr.1; omega)
  have HF : Hid _ := h
  have hal := allF_len name r.fs
  have hfl := hr.1
  obtain ⟨met, tar, a, c, fs, body, shut⟩ := r
  simp only [rqV] at H1 H2 H4 H5 HF hal hfl ⊢
  clear h hr hm
  rw [getF_fst] at H2
  obtain ⟨L, hL⟩ : ∃ L, allF name fs = L := ⟨_, rfl⟩
  rw [hL] at H1 H2 H4 H5 hal
  obtain ⟨n, hn⟩ : ∃ n, fs.length = n := ⟨_, rfl⟩
  rw [hn] at H1 H2 H4 hal hfl ⊢
  clear hL hn
  have HLEN : Hid (name.data.toList.length = name.size) := by rw [Hid]; simp
  obtain ⟨W0, hW0⟩ : ∃ W0, w.alloc (.cells #[.string met, .string tar, .slice a n c, .string body, .bool shut] 24) = W0 := ⟨_, rfl⟩
  have HB0 : Hid (Below w.heap.size w W0) := by rw [Hid, ← hW0]; exact (Below.refl _ _).alloc (Nat.le_refl _) _
  have HX0 : Hid (RB W0 w.heap.size met tar (.slice a n c) body shut) := by rw [Hid, ← hW0]; exact block_alloc_at _ _
  have HF0 : Hid (FA B W0 a fs) := FA.below HF.out (fun b hb => HB0.out.block b (by omega))
  have HZ0 : Hid (B ≤ W0.heap.size) := by have := HB0.out.size; rw [Hid]; omega
  obtain ⟨k0, k1, k2, k3, k4⟩ := HX0.out.box
  obtain ⟨N, hN⟩ : ∃ N, L.length = N := ⟨_, rfl⟩
  rw [hN] at H1 H4 H5 hal
  have HN : Hid _ := hN
  have HGS : Hid (fstS L = _) := rfl
  clear hN
  go_enter Tryd.func7, Tryd.ntmps7
  go_wp2_with fail
  try rw [hW0]
  clear hW0
  refine (H1.out _ HF0.out HZ0.out).mono ?_
  rintro e w1 ⟨la, lc, rfl, hl1, b1⟩
  have HX1 : Hid (RB w1 w.heap.size met tar (.slice a n c) body shut) := HX0.out.below b1
  have HB1 : Hid (Below w.heap.size w w1) := HB0.out.trans (b1.mono HB0.out.size)
  have HF1 : Hid (FA B w1 a fs) := FA.below HF0.out (fun b hb => b1.block b (Nat.lt_of_lt_of_le hb HZ0.out))
  have HZ1 : Hid (B ≤ w1.heap.size) := Nat.le_trans HZ0.out b1.size
  have HL1 : Hid _ := hl1
  clear b1 hl1 k0 k1 k2 k3 k4
  obtain ⟨k0, k1, k2, k3, k4⟩ := HX1.out.box
  go_wp2_with fail
  refine (H2.out _ HF1.out HZ1.out).mono ?_
  rintro e w2 ⟨rfl, b2⟩
  have HX2 : Hid (RB w2 w.heap.size met tar (.slice a n c) body shut) := HX1.out.below b2
  have HB2 : Hid (Below w.heap.size w w2) := HB1.out.trans (b2.mono HB1.out.size)
  have HF2 : Hid (FA B w2 a fs) := FA.below HF1.out (fun b hb => b2.block b (Nat.lt_of_lt_of_le hb HZ1.out))
  have HZ2 : Hid (B ≤ w2.heap.size) := Nat.le_trans HZ1.out b2.size
  have HL2 : Hid _ := owns_on HL1.out b2
  clear b2 k0 k1 k2 k3 k4
  go_wp2_with fail
  refine (H3.out _ HB2.out).mono ?_
  rintro e w3 ⟨rfl, b3⟩
  have HX3 : Hid (RB w3 w.heap.size met tar (.slice a n c) body shut) := HX2.out.below b3
  have HB3 : Hid (Below w.heap.size w w3) := HB2.out.trans (b3.mono HB2.out.size)
  have HF3 : Hid (FA B w3 a fs) := FA.below HF2.out (fun b hb => b3.block b (Nat.lt_of_lt_of_le hb HZ2.out))
  have HZ3 : Hid (B ≤ w3.heap.size) := Nat.le_trans HZ2.out b3.size
  have HL3 : Hid _ := owns_on HL2.out b3
  clear b3
  have hcase : (L = [] ∧ N = 0) ∨ (∃ v l2, L = v :: l2 ∧ 0 < N) := by
    cases hq : L with
    | nil => have := HN.out; rw [hq] at this; exact Or.inl ⟨rfl, this.symm⟩
    | cons v l2 => have := HN.out; rw [hq] at this; exact Or.inr ⟨v, l2, rfl, by simp at this; omega⟩
  rcases hcase with ⟨rfl, rfl⟩ | ⟨v, l2, rfl, hpos⟩
  · simp only [fstS]
    have hmk := run_made name.size hs w3
    go_wp2_with fail
    go_loopw [9] (fun i wr => ∃ k : Nat, k ≤ name.size ∧ i = .int .i64 k ∧ Hid (BRow wr w3.heap.size (upK name.data.toList k)) ∧ Hid (Below w3.heap.size w3 wr)) (fun i _ => name.size - (intOf i).toNat)
    case atStart => exact ⟨0, by omega, rfl, by rw [Hid, upK_zero, HLEN.out]; exact BRow.made w3 name.size, (Below.refl _ _).alloc (Nat.le_refl _) _⟩
    case round =>
      obtain ⟨k, hk, rfl, HR, HBr⟩ := hrel
      by_cases hlt : k < name.size
      · have hkl : k < name.data.toList.length := by rw [HLEN.out]; exact hlt
        obtain ⟨ch, hc⟩ : ∃ x, name.data.toList[k]? = some x := ⟨name.data.toList[k], List.getElem?_eq_getElem hkl⟩
        have r0 := fun W => run_byte name (i := k) (z := (k : Int)) rfl hlt W
        have hby : byteAt name k = ch.toNat := by
          unfold byteAt
          rw [List.getD_eq_getElem?_getD, hc]
          rfl
        rw [hby] at r0
        have HR1 := HR.out.set (j := k) (by rw [upK_len _ _ (by omega)]; exact hkl) ch rfl
        have HR2 := HR1.set (j := k) (by rw [List.length_set, upK_len _ _ (by omega)]; exact hkl) (upC ch) rfl
        rw [List.set_set, ← upK_succ hc] at HR2
        have hc0 := HR.out.cell k
        have hf0 := HR.out.free k (by rw [upK_len _ _ (by omega)]; exact hkl)
        obtain ⟨d0, hd0⟩ : ∃ d, (upK name.data.toList k)[k]? = some d := ⟨_, List.getElem?_eq_getElem (by rw [upK_len _ _ (by omega)]; exact hkl)⟩
        have hc1 := HR.out.cell k d0 hd0
        have hlz : (k : Int) < (name.size : Int) := by omega
        have HB1 : Hid (Below w3.heap.size w3 (wr.setCell ⟨w3.heap.size, k, none⟩ (.int .u8 (ch.toNat : Int)))) := HBr.out.setCell (p := ⟨w3.heap.size, k, none⟩) (Nat.le_refl _) _
        have hcl := ch.toNat_lt
        by_cases hup : 97 ≤ ch.toNat ∧ ch.toNat ≤ 122
        · have e1 : (upC ch).toNat = ch.toNat - 32 := by unfold upC; rw [if_pos hup, UInt8.toNat_ofNat', Nat.mod_eq_of_lt (by omega)]
          have e2 : ((upC ch).toNat : Int) = (ch.toNat : Int) - 32 := by omega
          rw [e2] at HR2
          have HRR : Hid _ := HR2
          obtain ⟨y, hy⟩ : ∃ y, ch.toNat = y := ⟨_, rfl⟩
          rw [hy] at r0 hup HRR HB1
          have q1 : (97 : Int) ≤ (y : Int) := by omega
          have q2 : (y : Int) ≤ 122 := by omega
          have hB2 : Hid (Below w3.heap.size w3 ((wr.setCell ⟨w3.heap.size, k, none⟩ (.int .u8 (y : Int))).setCell ⟨w3.heap.size, k, none⟩ (.int .u8 ((y : Int) - 32)))) := HB1.out.setCell (p := ⟨w3.heap.size, k, none⟩) (Nat.le_refl _) _
          clear hc hby HR1 HR2 hc0 hd0 hcl hy e1 e2 hup
          go_wp2_with fail
          go_roundw
          case rel => exact ⟨k + 1, by omega, by go_num, HRR.out, hB2.out⟩
          case measure => simp [intOf]; omega
        · have e1 : upC ch = ch := by unfold upC; rw [if_neg hup]
          rw [upK_succ hc, e1] at HR2
          have HRR : Hid (BRow (wr.setCell ⟨w3.heap.size, k, none⟩ (.int .u8 (ch.toNat : Int))) w3.heap.size (upK name.data.toList (k + 1))) := by rw [Hid, upK_succ hc, e1]; exact HR1
          obtain ⟨y, hy⟩ : ∃ y, ch.toNat = y := ⟨_, rfl⟩
          rw [hy] at r0 hup HRR HB1
          have hlo2 : ¬ (97 : Int) ≤ (y : Int) ∨ (97 : Int) ≤ (y : Int) ∧ ¬ (y : Int) ≤ 122 := by omega
          clear hc hby HR1 HR2 hc0 hd0 hcl hy e1 hup
          rcases hlo2 with q1 | ⟨q1, q2⟩
          all_goals
            go_wp2_with fail
            go_roundw
            case rel => exact ⟨k + 1, by omega, by go_num, HRR.out, HB1.out⟩
            case measure => simp [intOf]; omega
      · obtain rfl : k = name.size := by omega
        have hR2 := HR.out
        rw [show upK name.data.toList name.size = name.data.toList.map upC by rw [← HLEN.out, upK_all]] at hR2
        have hcv := hR2.conv (n := name.size) (by rw [List.length_map, HLEN.out]) name.size
        rw [show (⟨(name.data.toList.map upC).toArray⟩ : ByteArray) = upT name from rfl] at hcv
        have HX4 : Hid (RB wr w.heap.size met tar (.slice a n c) body shut) := HX3.out.below HBr.out
        have HB4 : Hid (Below w.heap.size w wr) := HB3.out.trans (HBr.out.mono HB3.out.size)
        have HF4 : Hid (FA B wr a fs) := FA.below HF3.out (fun b hb => HBr.out.block b (Nat.lt_of_lt_of_le hb HZ3.out))
        have HZ4 : Hid (B ≤ wr.heap.size) := Nat.le_trans HZ3.out HBr.out.size
        try (have HL4 : Hid _ := owns_on HL3.out HBr.out)
        obtain ⟨k0, k1, k2, k3, k4⟩ := HX4.out.box
        obtain ⟨un, hun⟩ : ∃ x, upT name = x := ⟨_, rfl⟩
        rw [hun] at hcv H4
        clear hun hR2
        go_wp2_with fail
        refine (H4.out _ HF4.out HZ4.out).mono ?_
        rintro e w5 ⟨ua, uc, rfl, hu5, b5⟩
        have HU5 : Hid _ := hu5
        try (have HL5 : Hid _ := owns_on HL4.out b5)
        have HB5 : Hid (Below w.heap.size w w5) := HB4.out.trans (b5.mono HB4.out.size)
        clear hu5 b5
        go_wp2_with fail
        refine (H5.out _ _ _ _ _ (by first | exact row_texts HU5.out | exact fun j z hj => by simp at hj) (by first | exact row_texts HL5.out | exact fun j z hj => by simp at hj)).mono ?_
        rintro e w6 ⟨rfl, b6⟩
        go_wp2_with fail
        go_ret
        exact ⟨rfl, HB5.out.trans (b6.mono HB5.out.size)⟩
  · simp only [fstS]
    obtain ⟨g, rfl, _, _, hc0⟩ := owns_str HL3.out (j := 0) (x := v) rfl
    have q0 : (0 : Int) < (N : Int) := by omega
    have q1 : (v.toList == v.toList) = true := by simp
    have hmk := run_made name.size hs w3
    go_wp2_with fail
    go_loopw [9] (fun i wr => ∃ k : Nat, k ≤ name.size ∧ i = .int .i64 k ∧ Hid (BRow wr w3.heap.size (upK name.data.toList k)) ∧ Hid (Below w3.heap.size w3 wr)) (fun i _ => name.size - (intOf i).toNat)
    case atStart => exact ⟨0, by omega, rfl, by rw [Hid, upK_zero, HLEN.out]; exact BRow.made w3 name.size, (Below.refl _ _).alloc (Nat.le_refl _) _⟩
    case round =>
      obtain ⟨k, hk, rfl, HR, HBr⟩ := hrel
      by_cases hlt : k < name.size
      · have hkl : k < name.data.toList.length := by rw [HLEN.out]; exact hlt
        obtain ⟨ch, hc⟩ : ∃ x, name.data.toList[k]? = some x := ⟨name.data.toList[k], List.getElem?_eq_getElem hkl⟩
        have r0 := fun W => run_byte name (i := k) (z := (k : Int)) rfl hlt W
        have hby : byteAt name k = ch.toNat := by
          unfold byteAt
          rw [List.getD_eq_getElem?_getD, hc]
          rfl
        rw [hby] at r0
        have HR1 := HR.out.set (j := k) (by rw [upK_len _ _ (by omega)]; exact hkl) ch rfl
        have HR2 := HR1.set (j := k) (by rw [List.length_set, upK_len _ _ (by omega)]; exact hkl) (upC ch) rfl
        rw [List.set_set, ← upK_succ hc] at HR2
        have hc0 := HR.out.cell k
        have hf0 := HR.out.free k (by rw [upK_len _ _ (by omega)]; exact hkl)
        obtain ⟨d0, hd0⟩ : ∃ d, (upK name.data.toList k)[k]? = some d := ⟨_, List.getElem?_eq_getElem (by rw [upK_len _ _ (by omega)]; exact hkl)⟩
        have hc1 := HR.out.cell k d0 hd0
        have hlz : (k : Int) < (name.size : Int) := by omega
        have HB1 : Hid (Below w3.heap.size w3 (wr.setCell ⟨w3.heap.size, k, none⟩ (.int .u8 (ch.toNat : Int)))) := HBr.out.setCell (p := ⟨w3.heap.size, k, none⟩) (Nat.le_refl _) _
        have hcl := ch.toNat_lt
        by_cases hup : 97 ≤ ch.toNat ∧ ch.toNat ≤ 122
        · have e1 : (upC ch).toNat = ch.toNat - 32 := by unfold upC; rw [if_pos hup, UInt8.toNat_ofNat', Nat.mod_eq_of_lt (by omega)]
          have e2 : ((upC ch).toNat : Int) = (ch.toNat : Int) - 32 := by omega
          rw [e2] at HR2
          have HRR : Hid _ := HR2
          obtain ⟨y, hy⟩ : ∃ y, ch.toNat = y := ⟨_, rfl⟩
          rw [hy] at r0 hup HRR HB1
          have q1 : (97 : Int) ≤ (y : Int) := by omega
          have q2 : (y : Int) ≤ 122 := by omega
          have hB2 : Hid (Below w3.heap.size w3 ((wr.setCell ⟨w3.heap.size, k, none⟩ (.int .u8 (y : Int))).setCell ⟨w3.heap.size, k, none⟩ (.int .u8 ((y : Int) - 32)))) := HB1.out.setCell (p := ⟨w3.heap.size, k, none⟩) (Nat.le_refl _) _
          clear hc hby HR1 HR2 hc0 hd0 hcl hy e1 e2 hup
          go_wp2_with fail
          go_roundw
          case rel => exact ⟨k + 1, by omega, by go_num, HRR.out, hB2.out⟩
          case measure => simp [intOf]; omega
        · have e1 : upC ch = ch := by unfold upC; rw [if_neg hup]
          rw [upK_succ hc, e1] at HR2
          have HRR : Hid (BRow (wr.setCell ⟨w3.heap.size, k, none⟩ (.int .u8 (ch.toNat : Int))) w3.heap.size (upK name.data.toList (k + 1))) := by rw [Hid, upK_succ hc, e1]; exact HR1
          obtain ⟨y, hy⟩ : ∃ y, ch.toNat = y := ⟨_, rfl⟩
          rw [hy] at r0 hup HRR HB1
          have hlo2 : ¬ (97 : Int) ≤ (y : Int) ∨ (97 : Int) ≤ (y : Int) ∧ ¬ (y : Int) ≤ 122 := by omega
          clear hc hby HR1 HR2 hc0 hd0 hcl hy e1 hup
          rcases hlo2 with q1 | ⟨q1, q2⟩
          all_goals
            go_wp2_with fail
            go_roundw
            case rel => exact ⟨k + 1, by omega, by go_num, HRR.out, HB1.out⟩
            case measure => simp [intOf]; omega
      · obtain rfl : k = name.size := by omega
        have hR2 := HR.out
        rw [show upK name.data.toList name.size = name.data.toList.map upC by rw [← HLEN.out, upK_all]] at hR2
        have hcv := hR2.conv (n := name.size) (by rw [List.length_map, HLEN.out]) name.size
        rw [show (⟨(name.data.toList.map upC).toArray⟩ : ByteArray) = upT name from rfl] at hcv
        have HX4 : Hid (RB wr w.heap.size met tar (.slice a n c) body shut) := HX3.out.below HBr.out
        have HB4 : Hid (Below w.heap.size w wr) := HB3.out.trans (HBr.out.mono HB3.out.size)
        have HF4 : Hid (FA B wr a fs) := FA.below HF3.out (fun b hb => HBr.out.block b (Nat.lt_of_lt_of_le hb HZ3.out))
        have HZ4 : Hid (B ≤ wr.heap.size) := Nat.le_trans HZ3.out HBr.out.size
        try (have HL4 : Hid _ := owns_on HL3.out HBr.out)
        obtain ⟨k0, k1, k2, k3, k4⟩ := HX4.out.box
        obtain ⟨un, hun⟩ : ∃ x, upT name = x := ⟨_, rfl⟩
        rw [hun] at hcv H4
        clear hun hR2
        go_wp2_with fail
        refine (H4.out _ HF4.out HZ4.out).mono ?_
        rintro e w5 ⟨ua, uc, rfl, hu5, b5⟩
        have HU5 : Hid _ := hu5
        try (have HL5 : Hid _ := owns_on HL4.out b5)
        have HB5 : Hid (Below w.heap.size w w5) := HB4.out.trans (b5.mono HB4.out.size)
        clear hu5 b5
        go_wp2_with fail
        refine (H5.out _ _ _ _ _ (by first | exact row_texts HU5.out | exact fun j z hj => by simp at hj) (by first | exact row_texts HL5.out | exact fun j z hj => by simp at hj)).mono ?_
        rintro e w6 ⟨rfl, b6⟩
        go_wp2_with fail
        go_ret
        exact ⟨rfl, HB5.out.trans (b6.mono HB5.out.size)⟩
end Go.Proofs.YthhhoppmbimeiaaDoor
