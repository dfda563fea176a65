/-
  The walk of RouteEscapes.
-/
import Derived.Test.YtbpfggpljfpfcaaDoorEsW
import Derived.BigQuiet
namespace Go.Proofs.YtbpfggpljfpfcaaDoor
open Go.RowKit
def hexD : ByteArray := ⟨#[48, 49, 50, 51, 52, 53, 54, 55, 56, 57, 65, 66, 67, 68, 69, 70]⟩
theorem hexD_at {q : Nat} (h : q < 16) : hexD.extract q (q + 1) = bOf [hexU q] := by
  have g : ∀ q : Fin 16, (hexD.extract q.val (q.val + 1)).data.toList = [hexU q.val] := by decide +kernel
  apply ext_list
  exact g ⟨q, h⟩
theorem take_next {s : ByteArray} {k x : Nat} (h : k < s.size) (hx : byteAt s k = x) : s.data.toList.take (k + 1) = s.data.toList.take k ++ [UInt8.ofNat x] := by rw [take_byte s k h, hx]
theorem one_byte {s : ByteArray} {k x : Nat} (h : k < s.size) (hx : byteAt s k = x) : s.extract k (k + 1) = bOf [UInt8.ofNat x] := by
  rw [sub_take, drop_at h hx]
  simp
theorem u8_small {z : Int} {n : Nat} (h : z = (n : Int)) (hn : n < 256) : IntKind.u8.wrap z = (n : Int) := by
  subst h
  simp [IntKind.wrap, IntKind.bits, IntKind.signed]
  omega
theorem u8_succ {n : Nat} (hn : n < 255) : IntKind.u8.wrap ((n : Int) + 1) = (n : Int) + 1 := u8_small (n := n + 1) (by omega) (by omega)
set_option maxRecDepth 20000 in
set_option maxHeartbeats 32000000 in
theorem escapes_walk (name : ByteArray) (frm : Int) (hs : name.size ≤ 140737488355328) (hf : frm ≤ 9223372036854775807) (mx : Int) (w : World) (hm : w.cell? ⟨0, 0, none⟩ = some (.int .i64 mx)) : Calls Tryd.prog 7 #[.string name, .int .i64 frm] w fun e w' => e = .returned (.bool true) ∧ Below w.heap.size w w' := by
  have HMX : Hid (∀ W, Below w.heap.size w W → W.cell? ⟨0, 0, none⟩ = some (.int .i64 mx)) := fun W b => mx_below hm b
  have H0 : Hid (∀ _ : Unit, _) := fun _ => awake_any mx w hm
  have H1 : Hid (∀ (t : List UInt8) W, t.length ≤ 2000 → Below w.heap.size w W → _) := fun t W ht b => find_lit mGet t ht mx W (HMX.out W b)
  clear hm
  by_cases h3 : 300 < name.size
  · obtain ⟨nm, hnm⟩ : ∃ nm, name.extract 0 300 = nm := ⟨_, rfl⟩
    have hn : nm.size ≤ 300 := by rw [← hnm, ByteArray.size_extract]; omega
    have h3z : (300 : Int) < (name.size : Int) := by omega
    clear h3
    by_cases h4 : 0 < frm
    · have h4d : decide (0 < frm) = true := decide_eq_true h4
      go_enter Tryd.func7, Tryd.ntmps7
      go_wp2_with fail
      refine (H0.out ()).mono ?_
      rintro e w1 ⟨rfl, b1⟩
      have HB1 : Hid (Below w.heap.size w w1) := b1
      clear b1
      go_wp2_with fail
      obtain ⟨A, hA⟩ : ∃ A : Int, frm % ((nm.size : Int) + 1) = A := ⟨_, rfl⟩
      rw [hA]
      clear hA
      go_loopw [6, 7] (fun v i wr => ∃ (k nd : Nat) (acc : List UInt8), k ≤ nm.size ∧ v = .string (bOf acc) ∧ i = .int .i64 (k : Nat) ∧ Hid (EscP acc (nm.data.toList.take k)) ∧ wr = w1.drewN nd) (fun _ i _ => nm.size - (intOf i).toNat)
      case atStart => exact ⟨0, 0, [], by omega, rfl, rfl, by rw [Hid, List.take_zero]; exact EscP.start, rfl⟩
      case round =>
        obtain ⟨k, nd, acc, hk, rfl, rfl, HE, rfl⟩ := hrel
        have hal : acc.length ≤ 900 := by have := HE.out.len; have h2 : (nm.data.toList.take k).length ≤ k := List.length_take_le _ _; omega
        obtain ⟨W, hW⟩ : ∃ W, w1.drewN nd = W := ⟨_, rfl⟩
        have HW : Hid (w1.drewN nd = W) := hW
        rw [hW]
        clear hW
        by_cases hlt : k < nm.size
        · have hlz : (k : Int) < (nm.size : Int) := by omega
          have r0 := fun W => run_byte nm (i := k) (z := (k : Int)) rfl hlt W
          have hxl := byteAt_lt nm k
          obtain ⟨x, hx⟩ : ∃ x, byteAt nm k = x := ⟨_, rfl⟩
          have HTN : Hid (nm.data.toList.take (k + 1) = nm.data.toList.take k ++ [UInt8.ofNat x]) := take_next hlt hx
          have hex1 : nm.extract k (k + 1) = bOf [UInt8.ofNat x] := one_byte hlt hx
          rw [hx] at r0 hxl
          have HONE : Hid ((97 ≤ x ∧ x ≤ 122) ∨ (48 ≤ x ∧ x ≤ 57) → _) := fun q => HE.out.one q
          have HHEX : Hid _ := HE.out.hex hxl
          have EAH0 : bOf acc ++ (⟨#[37]⟩ ++ bOf [hexU (x / 16)] ++ bOf [hexU (x % 16)]) = bOf (acc ++ [37, hexU (x / 16), hexU (x % 16)]) := by
            rw [show (⟨#[37]⟩ : ByteArray) = bOf [37] from rfl]
            simp only [bOf, str_app]
            rfl
          have hk1 : (k : Int) + 1 ≤ (nm.size : Int) := by omega
          have hk2 : k + 1 ≤ nm.size := by omega
          have d1 := hexD_at (q := x / 16) (by omega)
          have d2 := hexD_at (q := x % 16) (by omega)
          have g1 : IntKind.u8.wrap ((x : Int) / 16) = ((x / 16 : Nat) : Int) := u8_small (by omega) (by omega)
          have g3 : IntKind.u8.wrap ((x : Int) % 16) = ((x % 16 : Nat) : Int) := u8_small (by omega) (by omega)
          have g2 : IntKind.u8.wrap (((x / 16 : Nat) : Int) + 1) = ((x / 16 : Nat) : Int) + 1 := u8_succ (by omega)
          have g4 : IntKind.u8.wrap (((x % 16 : Nat) : Int) + 1) = ((x % 16 : Nat) : Int) + 1 := u8_succ (by omega)
          have q1l : x / 16 < 16 := by omega
          have q2l : x % 16 < 16 := by omega
          obtain ⟨c, hc⟩ : ∃ c, UInt8.ofNat x = c := ⟨_, rfl⟩
          obtain ⟨p1, hp1⟩ : ∃ p1, hexU (x / 16) = p1 := ⟨_, rfl⟩
          obtain ⟨p2, hp2⟩ : ∃ p2, hexU (x % 16) = p2 := ⟨_, rfl⟩
          rw [hc] at HTN hex1 HONE HHEX
          rw [hp1] at HHEX EAH0 d1
          rw [hp2] at HHEX EAH0 d2
          have EAP : Hid (bOf acc ++ bOf [c] = bOf (acc ++ [c])) := by rw [Hid]; simp only [bOf, str_app]
          have EAH : Hid _ := EAH0
          unfold hexD at d1 d2
          have HD2 : Hid _ := d2
          obtain ⟨q1, hq1⟩ : ∃ q1, x / 16 = q1 := ⟨_, rfl⟩
          obtain ⟨q2, hq2⟩ : ∃ q2, x % 16 = q2 := ⟨_, rfl⟩
          rw [hq1] at g1 g2 d1 q1l
          rw [hq2] at g3 g4 d2 q2l
          have q1z : (q1 : Int) + 1 ≤ 16 := by omega
          have q2z : (q2 : Int) + 1 ≤ 16 := by omega
          have q1y : (q1 : Int) ≤ (q1 : Int) + 1 := by omega
          have q2y : (q2 : Int) ≤ (q2 : Int) + 1 := by omega
          have q1t : ((q1 : Int) + 1).toNat = q1 + 1 := by omega
          have q2t : ((q2 : Int) + 1).toNat = q2 + 1 := by omega
          have s1 : (bOf [p1]).size = 1 := rfl
          have s2 : (bOf [p2]).size = 1 := rfl
          have s3 : (bOf [c]).size = 1 := rfl
          have n1 : ¬ 9223372036854775807 < (bOf acc).size + 1 := by rw [bOf_size]; omega
          have n3 : ¬ 9223372036854775807 < (bOf acc).size + 3 := by rw [bOf_size]; omega
          clear EAH0 hc hp1 hp2 hx hq1 hq2
          by_cases ha : 97 ≤ x ∧ x ≤ 122
          · by_cases h : (k : Int) < A
            · have y1 : (97 : Int) ≤ (x : Int) := by omega
              have y2 : (x : Int) ≤ 122 := by omega
              have HE2 : Hid (EscP (acc ++ [c]) (nm.data.toList.take (k + 1))) := by rw [Hid, HTN.out]; exact HONE.out (by omega)
              clear HHEX HONE
              go_wp2_with fail
              go_roundw
              case rel => exact ⟨k + 1, nd + 0, acc ++ [c], by omega, (by first | rw [EAP.out] | rw [HD2.out, EAH.out]), by go_num, HE2.out, by first | rfl | (rw [← HW.out]; rfl) | (rw [← HW.out]; simp [World.drewN, Nat.add_assoc])⟩
              case measure => simp [intOf]; omega
            · have y1 : (97 : Int) ≤ (x : Int) := by omega
              have y2 : (x : Int) ≤ 122 := by omega
              have HE2 : Hid (EscP (acc ++ [37, p1, p2]) (nm.data.toList.take (k + 1))) := by rw [Hid, HTN.out]; exact HHEX.out
              clear HHEX HONE
              go_wp2_with fail
              go_quiet (fail)
              go_wp2_with fail
              go_roundw
              case rel => exact ⟨k + 1, nd + nq, acc ++ [37, p1, p2], by omega, (by first | rw [EAH.out] | rw [HD2.out, EAH.out]), by go_num, HE2.out, by first | rfl | (rw [← HW.out]; rfl) | (rw [← HW.out]; simp [World.drewN, Nat.add_assoc])⟩
              case measure => simp [intOf]; omega
          · by_cases hb : 48 ≤ x ∧ x ≤ 57
            · by_cases h : (k : Int) < A
              · have y1 : ¬ (97 : Int) ≤ (x : Int) := by omega
                have y2 : (48 : Int) ≤ (x : Int) := by omega
                have y3 : (x : Int) ≤ 57 := by omega
                have HE2 : Hid (EscP (acc ++ [c]) (nm.data.toList.take (k + 1))) := by rw [Hid, HTN.out]; exact HONE.out (by omega)
                clear HHEX HONE
                go_wp2_with fail
                go_roundw
                case rel => exact ⟨k + 1, nd + 0, acc ++ [c], by omega, (by first | rw [EAP.out] | rw [HD2.out, EAH.out]), by go_num, HE2.out, by first | rfl | (rw [← HW.out]; rfl) | (rw [← HW.out]; simp [World.drewN, Nat.add_assoc])⟩
                case measure => simp [intOf]; omega
              · have y1 : ¬ (97 : Int) ≤ (x : Int) := by omega
                have y2 : (48 : Int) ≤ (x : Int) := by omega
                have y3 : (x : Int) ≤ 57 := by omega
                have HE2 : Hid (EscP (acc ++ [37, p1, p2]) (nm.data.toList.take (k + 1))) := by rw [Hid, HTN.out]; exact HHEX.out
                clear HHEX HONE
                go_wp2_with fail
                go_quiet (fail)
                go_wp2_with fail
                go_roundw
                case rel => exact ⟨k + 1, nd + nq, acc ++ [37, p1, p2], by omega, (by first | rw [EAH.out] | rw [HD2.out, EAH.out]), by go_num, HE2.out, by first | rfl | (rw [← HW.out]; rfl) | (rw [← HW.out]; simp [World.drewN, Nat.add_assoc])⟩
                case measure => simp [intOf]; omega
            · rcases (by omega : x < 48 ∨ (57 < x ∧ x < 97) ∨ 122 < x) with hc | hc | hc
              · have y1 : ¬ (97 : Int) ≤ (x : Int) := by omega
                have y2 : ¬ (48 : Int) ≤ (x : Int) := by omega
                clear hc ha hb
                have HE2 : Hid (EscP (acc ++ [37, p1, p2]) (nm.data.toList.take (k + 1))) := by rw [Hid, HTN.out]; exact HHEX.out
                clear HHEX HONE
                go_wp2_with fail
                go_quiet (fail)
                go_wp2_with fail
                go_roundw
                case rel => exact ⟨k + 1, nd + nq, acc ++ [37, p1, p2], by omega, (by first | rw [EAH.out] | rw [HD2.out, EAH.out]), by go_num, HE2.out, by first | rfl | (rw [← HW.out]; rfl) | (rw [← HW.out]; simp [World.drewN, Nat.add_assoc])⟩
                case measure => simp [intOf]; omega
              · have y1 : ¬ (97 : Int) ≤ (x : Int) := by omega
                have y2 : (48 : Int) ≤ (x : Int) := by omega
                have y3 : ¬ (x : Int) ≤ 57 := by omega
                clear hc ha hb
                have HE2 : Hid (EscP (acc ++ [37, p1, p2]) (nm.data.toList.take (k + 1))) := by rw [Hid, HTN.out]; exact HHEX.out
                clear HHEX HONE
                go_wp2_with fail
                go_quiet (fail)
                go_wp2_with fail
                go_roundw
                case rel => exact ⟨k + 1, nd + nq, acc ++ [37, p1, p2], by omega, (by first | rw [EAH.out] | rw [HD2.out, EAH.out]), by go_num, HE2.out, by first | rfl | (rw [← HW.out]; rfl) | (rw [← HW.out]; simp [World.drewN, Nat.add_assoc])⟩
                case measure => simp [intOf]; omega
              · have y1 : (97 : Int) ≤ (x : Int) := by omega
                have y2 : ¬ (x : Int) ≤ 122 := by omega
                have y3 : (48 : Int) ≤ (x : Int) := by omega
                have y4 : ¬ (x : Int) ≤ 57 := by omega
                clear hc ha hb
                have HE2 : Hid (EscP (acc ++ [37, p1, p2]) (nm.data.toList.take (k + 1))) := by rw [Hid, HTN.out]; exact HHEX.out
                clear HHEX HONE
                go_wp2_with fail
                go_quiet (fail)
                go_wp2_with fail
                go_roundw
                case rel => exact ⟨k + 1, nd + nq, acc ++ [37, p1, p2], by omega, (by first | rw [EAH.out] | rw [HD2.out, EAH.out]), by go_num, HE2.out, by first | rfl | (rw [← HW.out]; rfl) | (rw [← HW.out]; simp [World.drewN, Nat.add_assoc])⟩
                case measure => simp [intOf]; omega
        · have hlz : ¬ (k : Int) < (nm.size : Int) := by omega
          have he := HE.out
          rw [List.take_of_length_le (by rw [size_list']; omega)] at he
          have HBW : Hid (Below w.heap.size w W) := by rw [Hid, ← HW.out]; exact below_drewN' HB1.out nd
          have F1 : Hid (∀ _ : Unit, _) := fun _ => H1.out (preS ++ acc) W (by simp [preS]; omega) HBW.out
          have F2 : Hid (∀ W', Below w.heap.size w W' → _) := fun W' b => H1.out (preU ++ acc ++ sufS) W' (by simp [preU, sufS]; omega) b
          have x1 : (⟨#[47, 115, 101, 115, 115, 105, 111, 110, 115, 47]⟩ : ByteArray) ++ bOf acc = bOf (preS ++ acc) := by
            rw [show (⟨#[47, 115, 101, 115, 115, 105, 111, 110, 115, 47]⟩ : ByteArray) = bOf preS from rfl]
            simp only [bOf, str_app]
          have x2 : (⟨#[47, 117, 115, 101, 114, 115, 47]⟩ : ByteArray) ++ bOf acc ++ (⟨#[47, 115, 101, 115, 115, 105, 111, 110, 115]⟩ : ByteArray) = bOf (preU ++ acc ++ sufS) := by
            rw [show (⟨#[47, 117, 115, 101, 114, 115, 47]⟩ : ByteArray) = bOf preU from rfl, show (⟨#[47, 115, 101, 115, 115, 105, 111, 110, 115]⟩ : ByteArray) = bOf sufS from rfl]
            simp only [bOf, str_app]
          have n1 : ¬ 9223372036854775807 < 10 + (bOf acc).size := by rw [bOf_size]; omega
          have n2 : ¬ 9223372036854775807 < 7 + (bOf acc).size := by rw [bOf_size]; omega
          have n3 : ¬ 9223372036854775807 < 7 + (bOf acc).size + 9 := by rw [bOf_size]; omega
          by_cases hu : nm.data.toList = []
          · have hne : nm.toList.isEmpty = true := by rw [ByteArray.toList_eq, hu]; rfl
            have hac : acc = [] := by
              have := he.len
              rw [hu] at this
              exact List.eq_nil_of_length_eq_zero (by simpa using this)
            have v1 : (findR mGet (preS ++ acc)).2 = 404 := by rw [hac]; exact find_non.1
            have v2 : (findR mGet (preU ++ acc ++ sufS)).2 = 404 := by rw [hac]; exact find_non.2
            rw [v1] at F1
            rw [v2] at F2
            clear v1 v2 he hu hac
            obtain ⟨t1, ht1⟩ : ∃ t1, bOf (preS ++ acc) = t1 := ⟨_, rfl⟩
            obtain ⟨t2, ht2⟩ : ∃ t2, bOf (preU ++ acc ++ sufS) = t2 := ⟨_, rfl⟩
            obtain ⟨y1, hy1⟩ : ∃ y, (findR mGet (preS ++ acc)).1 = y := ⟨_, rfl⟩
            obtain ⟨y2, hy2⟩ : ∃ y, (findR mGet (preU ++ acc ++ sufS)).1 = y := ⟨_, rfl⟩
            rw [ht1, hy1] at F1
            rw [ht2, hy2] at F2
            rw [ht1] at x1
            rw [ht2] at x2
            simp only [rtV, rtA] at F1 F2
            clear ht1 ht2 hy1 hy2
            go_wp2_with fail
            refine (F1.out ()).mono ?_
            rintro e w2 ⟨rfl, b2⟩
            have HB2 : Hid (∀ o, Below w.heap.size w (w2.alloc o)) := fun o => (HBW.out.trans (b2.mono HBW.out.size)).alloc (HBW.out.trans (b2.mono HBW.out.size)).size _
            clear b2
            go_wp2_with fail
            refine (F2.out _ (HB2.out _)).mono ?_
            rintro e w3 ⟨rfl, b3⟩
            have HB3 : Hid (∀ o, Below w.heap.size w (w3.alloc o)) := fun o => ((HB2.out _).trans (b3.mono (HB2.out _).size)).alloc ((HB2.out _).trans (b3.mono (HB2.out _).size)).size _
            clear b3
            go_wp2_with fail
            go_ret
            exact ⟨rfl, HB3.out _⟩
          · have hne : nm.toList.isEmpty = false := by
              rw [ByteArray.toList_eq]
              cases hq : nm.data.toList with
              | nil => exact absurd hq hu
              | cons _ _ => rfl
            have v1 := find_tok he hu (by rw [size_list']; exact hn)
            have v2 := find_usr he hu (by rw [size_list']; exact hn)
            rw [v1] at F1
            rw [v2] at F2
            clear v1 v2 he hu
            obtain ⟨t1, ht1⟩ : ∃ t1, bOf (preS ++ acc) = t1 := ⟨_, rfl⟩
            obtain ⟨t2, ht2⟩ : ∃ t2, bOf (preU ++ acc ++ sufS) = t2 := ⟨_, rfl⟩
            rw [ht1] at x1 F1
            rw [ht2] at x2 F2
            simp only [rtV, rtA] at F1 F2
            rw [show bOf nm.data.toList = nm from rfl, show bOf [] = ⟨#[]⟩ from rfl] at F1 F2
            clear ht1 ht2
            go_wp2_with fail
            refine (F1.out ()).mono ?_
            rintro e w2 ⟨rfl, b2⟩
            have HB2 : Hid (Below w.heap.size w w2) := HBW.out.trans (b2.mono HBW.out.size)
            clear b2
            obtain ⟨X2, hX2⟩ : ∃ X2, w2.alloc (.cells #[.int .i64 2, .string nm, .string ⟨#[]⟩, .int .i64 0, .bool false] 23) = X2 := ⟨_, rfl⟩
            have HX2 : Hid (X2.heap[w2.heap.size]? = some (.cells #[.int .i64 2, .string nm, .string ⟨#[]⟩, .int .i64 0, .bool false] 23 (0, 0))) := by rw [Hid, ← hX2]; exact block_alloc_at _ _
            have HBX : Hid (Below w.heap.size w X2) := by rw [Hid, ← hX2]; exact HB2.out.alloc HB2.out.size _
            have HE2 : Hid _ := hX2
            clear hX2
            go_wp2_with fail
            rw [HE2.out]
            refine (F2.out X2 HBX.out).mono ?_
            rintro e w3 ⟨rfl, b3⟩
            have HX3 : Hid (w3.heap[w2.heap.size]? = some (.cells #[.int .i64 2, .string nm, .string ⟨#[]⟩, .int .i64 0, .bool false] 23 (0, 0))) := (b3.block _ (Array.getElem?_eq_some_iff.1 HX2.out).1).trans HX2.out
            have HB3 : Hid (Below w.heap.size w w3) := HBX.out.trans (b3.mono HBX.out.size)
            have HB4 : Hid (∀ o, Below w.heap.size w (w3.alloc o)) := fun o => HB3.out.alloc HB3.out.size _
            clear b3 HE2
            have hlt3 : w2.heap.size < w3.heap.size := (Array.getElem?_eq_some_iff.1 HX3.out).1
            have k0 : w3.cell? ⟨w2.heap.size, 0, none⟩ = some (.int .i64 2) := cell_of_block HX3.out rfl
            have k1 : w3.cell? ⟨w2.heap.size, 1, none⟩ = some (.string nm) := cell_of_block HX3.out rfl
            have k2 : w3.cell? ⟨w2.heap.size, 2, none⟩ = some (.string ⟨#[]⟩) := cell_of_block HX3.out rfl
            have k3 : w3.cell? ⟨w2.heap.size, 3, none⟩ = some (.int .i64 0) := cell_of_block HX3.out rfl
            have k4 : w3.cell? ⟨w2.heap.size, 4, none⟩ = some (.bool false) := cell_of_block HX3.out rfl
            go_wp2_with fail
            go_ret
            exact ⟨rfl, HB4.out _⟩
    · have h4d : decide (0 < frm) = false := decide_eq_false h4
      go_enter Tryd.func7, Tryd.ntmps7
      go_wp2_with fail
      refine (H0.out ()).mono ?_
      rintro e w1 ⟨rfl, b1⟩
      have HB1 : Hid (Below w.heap.size w w1) := b1
      clear b1
      go_wp2_with fail
      go_loopw [6, 7] (fun v i wr => ∃ (k nd : Nat) (acc : List UInt8), k ≤ nm.size ∧ v = .string (bOf acc) ∧ i = .int .i64 (k : Nat) ∧ Hid (EscP acc (nm.data.toList.take k)) ∧ wr = w1.drewN nd) (fun _ i _ => nm.size - (intOf i).toNat)
      case atStart => exact ⟨0, 0, [], by omega, rfl, rfl, by rw [Hid, List.take_zero]; exact EscP.start, rfl⟩
      case round =>
        obtain ⟨k, nd, acc, hk, rfl, rfl, HE, rfl⟩ := hrel
        have hal : acc.length ≤ 900 := by have := HE.out.len; have h2 : (nm.data.toList.take k).length ≤ k := List.length_take_le _ _; omega
        obtain ⟨W, hW⟩ : ∃ W, w1.drewN nd = W := ⟨_, rfl⟩
        have HW : Hid (w1.drewN nd = W) := hW
        rw [hW]
        clear hW
        by_cases hlt : k < nm.size
        · have hlz : (k : Int) < (nm.size : Int) := by omega
          have r0 := fun W => run_byte nm (i := k) (z := (k : Int)) rfl hlt W
          have hxl := byteAt_lt nm k
          obtain ⟨x, hx⟩ : ∃ x, byteAt nm k = x := ⟨_, rfl⟩
          have HTN : Hid (nm.data.toList.take (k + 1) = nm.data.toList.take k ++ [UInt8.ofNat x]) := take_next hlt hx
          have hex1 : nm.extract k (k + 1) = bOf [UInt8.ofNat x] := one_byte hlt hx
          rw [hx] at r0 hxl
          have HONE : Hid ((97 ≤ x ∧ x ≤ 122) ∨ (48 ≤ x ∧ x ≤ 57) → _) := fun q => HE.out.one q
          have HHEX : Hid _ := HE.out.hex hxl
          have EAH0 : bOf acc ++ (⟨#[37]⟩ ++ bOf [hexU (x / 16)] ++ bOf [hexU (x % 16)]) = bOf (acc ++ [37, hexU (x / 16), hexU (x % 16)]) := by
            rw [show (⟨#[37]⟩ : ByteArray) = bOf [37] from rfl]
            simp only [bOf, str_app]
            rfl
          have hk1 : (k : Int) + 1 ≤ (nm.size : Int) := by omega
          have hk2 : k + 1 ≤ nm.size := by omega
          have d1 := hexD_at (q := x / 16) (by omega)
          have d2 := hexD_at (q := x % 16) (by omega)
          have g1 : IntKind.u8.wrap ((x : Int) / 16) = ((x / 16 : Nat) : Int) := u8_small (by omega) (by omega)
          have g3 : IntKind.u8.wrap ((x : Int) % 16) = ((x % 16 : Nat) : Int) := u8_small (by omega) (by omega)
          have g2 : IntKind.u8.wrap (((x / 16 : Nat) : Int) + 1) = ((x / 16 : Nat) : Int) + 1 := u8_succ (by omega)
          have g4 : IntKind.u8.wrap (((x % 16 : Nat) : Int) + 1) = ((x % 16 : Nat) : Int) + 1 := u8_succ (by omega)
          have q1l : x / 16 < 16 := by omega
          have q2l : x % 16 < 16 := by omega
          obtain ⟨c, hc⟩ : ∃ c, UInt8.ofNat x = c := ⟨_, rfl⟩
          obtain ⟨p1, hp1⟩ : ∃ p1, hexU (x / 16) = p1 := ⟨_, rfl⟩
          obtain ⟨p2, hp2⟩ : ∃ p2, hexU (x % 16) = p2 := ⟨_, rfl⟩
          rw [hc] at HTN hex1 HONE HHEX
          rw [hp1] at HHEX EAH0 d1
          rw [hp2] at HHEX EAH0 d2
          have EAP : Hid (bOf acc ++ bOf [c] = bOf (acc ++ [c])) := by rw [Hid]; simp only [bOf, str_app]
          have EAH : Hid _ := EAH0
          unfold hexD at d1 d2
          have HD2 : Hid _ := d2
          obtain ⟨q1, hq1⟩ : ∃ q1, x / 16 = q1 := ⟨_, rfl⟩
          obtain ⟨q2, hq2⟩ : ∃ q2, x % 16 = q2 := ⟨_, rfl⟩
          rw [hq1] at g1 g2 d1 q1l
          rw [hq2] at g3 g4 d2 q2l
          have q1z : (q1 : Int) + 1 ≤ 16 := by omega
          have q2z : (q2 : Int) + 1 ≤ 16 := by omega
          have q1y : (q1 : Int) ≤ (q1 : Int) + 1 := by omega
          have q2y : (q2 : Int) ≤ (q2 : Int) + 1 := by omega
          have q1t : ((q1 : Int) + 1).toNat = q1 + 1 := by omega
          have q2t : ((q2 : Int) + 1).toNat = q2 + 1 := by omega
          have s1 : (bOf [p1]).size = 1 := rfl
          have s2 : (bOf [p2]).size = 1 := rfl
          have s3 : (bOf [c]).size = 1 := rfl
          have n1 : ¬ 9223372036854775807 < (bOf acc).size + 1 := by rw [bOf_size]; omega
          have n3 : ¬ 9223372036854775807 < (bOf acc).size + 3 := by rw [bOf_size]; omega
          clear EAH0 hc hp1 hp2 hx hq1 hq2
          by_cases ha : 97 ≤ x ∧ x ≤ 122
          · have y1 : (97 : Int) ≤ (x : Int) := by omega
            have y2 : (x : Int) ≤ 122 := by omega
            have hkA : ¬ (k : Int) < 0 := by omega
            have HE2 : Hid (EscP (acc ++ [37, p1, p2]) (nm.data.toList.take (k + 1))) := by rw [Hid, HTN.out]; exact HHEX.out
            clear HHEX HONE
            go_wp2_with fail
            go_quiet (fail)
            go_wp2_with fail
            go_roundw
            case rel => exact ⟨k + 1, nd + nq, acc ++ [37, p1, p2], by omega, (by first | rw [EAH.out] | rw [HD2.out, EAH.out]), by go_num, HE2.out, by first | rfl | (rw [← HW.out]; rfl) | (rw [← HW.out]; simp [World.drewN, Nat.add_assoc])⟩
            case measure => simp [intOf]; omega
          · by_cases hb : 48 ≤ x ∧ x ≤ 57
            · have y1 : ¬ (97 : Int) ≤ (x : Int) := by omega
              have y2 : (48 : Int) ≤ (x : Int) := by omega
              have y3 : (x : Int) ≤ 57 := by omega
              have hkA : ¬ (k : Int) < 0 := by omega
              have HE2 : Hid (EscP (acc ++ [37, p1, p2]) (nm.data.toList.take (k + 1))) := by rw [Hid, HTN.out]; exact HHEX.out
              clear HHEX HONE
              go_wp2_with fail
              go_quiet (fail)
              go_wp2_with fail
              go_roundw
              case rel => exact ⟨k + 1, nd + nq, acc ++ [37, p1, p2], by omega, (by first | rw [EAH.out] | rw [HD2.out, EAH.out]), by go_num, HE2.out, by first | rfl | (rw [← HW.out]; rfl) | (rw [← HW.out]; simp [World.drewN, Nat.add_assoc])⟩
              case measure => simp [intOf]; omega
            · rcases (by omega : x < 48 ∨ (57 < x ∧ x < 97) ∨ 122 < x) with hc | hc | hc
              · have y1 : ¬ (97 : Int) ≤ (x : Int) := by omega
                have y2 : ¬ (48 : Int) ≤ (x : Int) := by omega
                clear hc ha hb
                have HE2 : Hid (EscP (acc ++ [37, p1, p2]) (nm.data.toList.take (k + 1))) := by rw [Hid, HTN.out]; exact HHEX.out
                clear HHEX HONE
                go_wp2_with fail
                go_quiet (fail)
                go_wp2_with fail
                go_roundw
                case rel => exact ⟨k + 1, nd + nq, acc ++ [37, p1, p2], by omega, (by first | rw [EAH.out] | rw [HD2.out, EAH.out]), by go_num, HE2.out, by first | rfl | (rw [← HW.out]; rfl) | (rw [← HW.out]; simp [World.drewN, Nat.add_assoc])⟩
                case measure => simp [intOf]; omega
              · have y1 : ¬ (97 : Int) ≤ (x : Int) := by omega
                have y2 : (48 : Int) ≤ (x : Int) := by omega
                have y3 : ¬ (x : Int) ≤ 57 := by omega
                clear hc ha hb
                have HE2 : Hid (EscP (acc ++ [37, p1, p2]) (nm.data.toList.take (k + 1))) := by rw [Hid, HTN.out]; exact HHEX.out
                clear HHEX HONE
                go_wp2_with fail
                go_quiet (fail)
                go_wp2_with fail
                go_roundw
                case rel => exact ⟨k + 1, nd + nq, acc ++ [37, p1, p2], by omega, (by first | rw [EAH.out] | rw [HD2.out, EAH.out]), by go_num, HE2.out, by first | rfl | (rw [← HW.out]; rfl) | (rw [← HW.out]; simp [World.drewN, Nat.add_assoc])⟩
                case measure => simp [intOf]; omega
              · have y1 : (97 : Int) ≤ (x : Int) := by omega
                have y2 : ¬ (x : Int) ≤ 122 := by omega
                have y3 : (48 : Int) ≤ (x : Int) := by omega
                have y4 : ¬ (x : Int) ≤ 57 := by omega
                clear hc ha hb
                have HE2 : Hid (EscP (acc ++ [37, p1, p2]) (nm.data.toList.take (k + 1))) := by rw [Hid, HTN.out]; exact HHEX.out
                clear HHEX HONE
                go_wp2_with fail
                go_quiet (fail)
                go_wp2_with fail
                go_roundw
                case rel => exact ⟨k + 1, nd + nq, acc ++ [37, p1, p2], by omega, (by first | rw [EAH.out] | rw [HD2.out, EAH.out]), by go_num, HE2.out, by first | rfl | (rw [← HW.out]; rfl) | (rw [← HW.out]; simp [World.drewN, Nat.add_assoc])⟩
                case measure => simp [intOf]; omega
        · have hlz : ¬ (k : Int) < (nm.size : Int) := by omega
          have he := HE.out
          rw [List.take_of_length_le (by rw [size_list']; omega)] at he
          have HBW : Hid (Below w.heap.size w W) := by rw [Hid, ← HW.out]; exact below_drewN' HB1.out nd
          have F1 : Hid (∀ _ : Unit, _) := fun _ => H1.out (preS ++ acc) W (by simp [preS]; omega) HBW.out
          have F2 : Hid (∀ W', Below w.heap.size w W' → _) := fun W' b => H1.out (preU ++ acc ++ sufS) W' (by simp [preU, sufS]; omega) b
          have x1 : (⟨#[47, 115, 101, 115, 115, 105, 111, 110, 115, 47]⟩ : ByteArray) ++ bOf acc = bOf (preS ++ acc) := by
            rw [show (⟨#[47, 115, 101, 115, 115, 105, 111, 110, 115, 47]⟩ : ByteArray) = bOf preS from rfl]
            simp only [bOf, str_app]
          have x2 : (⟨#[47, 117, 115, 101, 114, 115, 47]⟩ : ByteArray) ++ bOf acc ++ (⟨#[47, 115, 101, 115, 115, 105, 111, 110, 115]⟩ : ByteArray) = bOf (preU ++ acc ++ sufS) := by
            rw [show (⟨#[47, 117, 115, 101, 114, 115, 47]⟩ : ByteArray) = bOf preU from rfl, show (⟨#[47, 115, 101, 115, 115, 105, 111, 110, 115]⟩ : ByteArray) = bOf sufS from rfl]
            simp only [bOf, str_app]
          have n1 : ¬ 9223372036854775807 < 10 + (bOf acc).size := by rw [bOf_size]; omega
          have n2 : ¬ 9223372036854775807 < 7 + (bOf acc).size := by rw [bOf_size]; omega
          have n3 : ¬ 9223372036854775807 < 7 + (bOf acc).size + 9 := by rw [bOf_size]; omega
          by_cases hu : nm.data.toList = []
          · have hne : nm.toList.isEmpty = true := by rw [ByteArray.toList_eq, hu]; rfl
            have hac : acc = [] := by
              have := he.len
              rw [hu] at this
              exact List.eq_nil_of_length_eq_zero (by simpa using this)
            have v1 : (findR mGet (preS ++ acc)).2 = 404 := by rw [hac]; exact find_non.1
            have v2 : (findR mGet (preU ++ acc ++ sufS)).2 = 404 := by rw [hac]; exact find_non.2
            rw [v1] at F1
            rw [v2] at F2
            clear v1 v2 he hu hac
            obtain ⟨t1, ht1⟩ : ∃ t1, bOf (preS ++ acc) = t1 := ⟨_, rfl⟩
            obtain ⟨t2, ht2⟩ : ∃ t2, bOf (preU ++ acc ++ sufS) = t2 := ⟨_, rfl⟩
            obtain ⟨y1, hy1⟩ : ∃ y, (findR mGet (preS ++ acc)).1 = y := ⟨_, rfl⟩
            obtain ⟨y2, hy2⟩ : ∃ y, (findR mGet (preU ++ acc ++ sufS)).1 = y := ⟨_, rfl⟩
            rw [ht1, hy1] at F1
            rw [ht2, hy2] at F2
            rw [ht1] at x1
            rw [ht2] at x2
            simp only [rtV, rtA] at F1 F2
            clear ht1 ht2 hy1 hy2
            go_wp2_with fail
            refine (F1.out ()).mono ?_
            rintro e w2 ⟨rfl, b2⟩
            have HB2 : Hid (∀ o, Below w.heap.size w (w2.alloc o)) := fun o => (HBW.out.trans (b2.mono HBW.out.size)).alloc (HBW.out.trans (b2.mono HBW.out.size)).size _
            clear b2
            go_wp2_with fail
            refine (F2.out _ (HB2.out _)).mono ?_
            rintro e w3 ⟨rfl, b3⟩
            have HB3 : Hid (∀ o, Below w.heap.size w (w3.alloc o)) := fun o => ((HB2.out _).trans (b3.mono (HB2.out _).size)).alloc ((HB2.out _).trans (b3.mono (HB2.out _).size)).size _
            clear b3
            go_wp2_with fail
            go_ret
            exact ⟨rfl, HB3.out _⟩
          · have hne : nm.toList.isEmpty = false := by
              rw [ByteArray.toList_eq]
              cases hq : nm.data.toList with
              | nil => exact absurd hq hu
              | cons _ _ => rfl
            have v1 := find_tok he hu (by rw [size_list']; exact hn)
            have v2 := find_usr he hu (by rw [size_list']; exact hn)
            rw [v1] at F1
            rw [v2] at F2
            clear v1 v2 he hu
            obtain ⟨t1, ht1⟩ : ∃ t1, bOf (preS ++ acc) = t1 := ⟨_, rfl⟩
            obtain ⟨t2, ht2⟩ : ∃ t2, bOf (preU ++ acc ++ sufS) = t2 := ⟨_, rfl⟩
            rw [ht1] at x1 F1
            rw [ht2] at x2 F2
            simp only [rtV, rtA] at F1 F2
            rw [show bOf nm.data.toList = nm from rfl, show bOf [] = ⟨#[]⟩ from rfl] at F1 F2
            clear ht1 ht2
            go_wp2_with fail
            refine (F1.out ()).mono ?_
            rintro e w2 ⟨rfl, b2⟩
            have HB2 : Hid (Below w.heap.size w w2) := HBW.out.trans (b2.mono HBW.out.size)
            clear b2
            obtain ⟨X2, hX2⟩ : ∃ X2, w2.alloc (.cells #[.int .i64 2, .string nm, .string ⟨#[]⟩, .int .i64 0, .bool false] 23) = X2 := ⟨_, rfl⟩
            have HX2 : Hid (X2.heap[w2.heap.size]? = some (.cells #[.int .i64 2, .string nm, .string ⟨#[]⟩, .int .i64 0, .bool false] 23 (0, 0))) := by rw [Hid, ← hX2]; exact block_alloc_at _ _
            have HBX : Hid (Below w.heap.size w X2) := by rw [Hid, ← hX2]; exact HB2.out.alloc HB2.out.size _
            have HE2 : Hid _ := hX2
            clear hX2
            go_wp2_with fail
            rw [HE2.out]
            refine (F2.out X2 HBX.out).mono ?_
            rintro e w3 ⟨rfl, b3⟩
            have HX3 : Hid (w3.heap[w2.heap.size]? = some (.cells #[.int .i64 2, .string nm, .string ⟨#[]⟩, .int .i64 0, .bool false] 23 (0, 0))) := (b3.block _ (Array.getElem?_eq_some_iff.1 HX2.out).1).trans HX2.out
            have HB3 : Hid (Below w.heap.size w w3) := HBX.out.trans (b3.mono HBX.out.size)
            have HB4 : Hid (∀ o, Below w.heap.size w (w3.alloc o)) := fun o => HB3.out.alloc HB3.out.size _
            clear b3 HE2
            have hlt3 : w2.heap.size < w3.heap.size := (Array.getElem?_eq_some_iff.1 HX3.out).1
            have k0 : w3.cell? ⟨w2.heap.size, 0, none⟩ = some (.int .i64 2) := cell_of_block HX3.out rfl
            have k1 : w3.cell? ⟨w2.heap.size, 1, none⟩ = some (.string nm) := cell_of_block HX3.out rfl
            have k2 : w3.cell? ⟨w2.heap.size, 2, none⟩ = some (.string ⟨#[]⟩) := cell_of_block HX3.out rfl
            have k3 : w3.cell? ⟨w2.heap.size, 3, none⟩ = some (.int .i64 0) := cell_of_block HX3.out rfl
            have k4 : w3.cell? ⟨w2.heap.size, 4, none⟩ = some (.bool false) := cell_of_block HX3.out rfl
            go_wp2_with fail
            go_ret
            exact ⟨rfl, HB4.out _⟩
  · obtain ⟨nm, hnm⟩ : ∃ nm, name = nm := ⟨_, rfl⟩
    subst hnm
    have hn : name.size ≤ 300 := by omega
    have h3z : ¬ (300 : Int) < (name.size : Int) := by omega
    have h3d : decide ((300 : Int) < (name.size : Int)) = false := decide_eq_false h3z
    clear h3
    by_cases h4 : 0 < frm
    · have h4d : decide (0 < frm) = true := decide_eq_true h4
      go_enter Tryd.func7, Tryd.ntmps7
      go_wp2_with fail
      refine (H0.out ()).mono ?_
      rintro e w1 ⟨rfl, b1⟩
      have HB1 : Hid (Below w.heap.size w w1) := b1
      clear b1
      go_wp2_with fail
      obtain ⟨A, hA⟩ : ∃ A : Int, frm % ((name.size : Int) + 1) = A := ⟨_, rfl⟩
      rw [hA]
      clear hA
      go_loopw [6, 7] (fun v i wr => ∃ (k nd : Nat) (acc : List UInt8), k ≤ name.size ∧ v = .string (bOf acc) ∧ i = .int .i64 (k : Nat) ∧ Hid (EscP acc (name.data.toList.take k)) ∧ wr = w1.drewN nd) (fun _ i _ => name.size - (intOf i).toNat)
      case atStart => exact ⟨0, 0, [], by omega, rfl, rfl, by rw [Hid, List.take_zero]; exact EscP.start, rfl⟩
      case round =>
        obtain ⟨k, nd, acc, hk, rfl, rfl, HE, rfl⟩ := hrel
        have hal : acc.length ≤ 900 := by have := HE.out.len; have h2 : (name.data.toList.take k).length ≤ k := List.length_take_le _ _; omega
        obtain ⟨W, hW⟩ : ∃ W, w1.drewN nd = W := ⟨_, rfl⟩
        have HW : Hid (w1.drewN nd = W) := hW
        rw [hW]
        clear hW
        by_cases hlt : k < name.size
        · have hlz : (k : Int) < (name.size : Int) := by omega
          have r0 := fun W => run_byte name (i := k) (z := (k : Int)) rfl hlt W
          have hxl := byteAt_lt name k
          obtain ⟨x, hx⟩ : ∃ x, byteAt name k = x := ⟨_, rfl⟩
          have HTN : Hid (name.data.toList.take (k + 1) = name.data.toList.take k ++ [UInt8.ofNat x]) := take_next hlt hx
          have hex1 : name.extract k (k + 1) = bOf [UInt8.ofNat x] := one_byte hlt hx
          rw [hx] at r0 hxl
          have HONE : Hid ((97 ≤ x ∧ x ≤ 122) ∨ (48 ≤ x ∧ x ≤ 57) → _) := fun q => HE.out.one q
          have HHEX : Hid _ := HE.out.hex hxl
          have EAH0 : bOf acc ++ (⟨#[37]⟩ ++ bOf [hexU (x / 16)] ++ bOf [hexU (x % 16)]) = bOf (acc ++ [37, hexU (x / 16), hexU (x % 16)]) := by
            rw [show (⟨#[37]⟩ : ByteArray) = bOf [37] from rfl]
            simp only [bOf, str_app]
            rfl
          have hk1 : (k : Int) + 1 ≤ (name.size : Int) := by omega
          have hk2 : k + 1 ≤ name.size := by omega
          have d1 := hexD_at (q := x / 16) (by omega)
          have d2 := hexD_at (q := x % 16) (by omega)
          have g1 : IntKind.u8.wrap ((x : Int) / 16) = ((x / 16 : Nat) : Int) := u8_small (by omega) (by omega)
          have g3 : IntKind.u8.wrap ((x : Int) % 16) = ((x % 16 : Nat) : Int) := u8_small (by omega) (by omega)
          have g2 : IntKind.u8.wrap (((x / 16 : Nat) : Int) + 1) = ((x / 16 : Nat) : Int) + 1 := u8_succ (by omega)
          have g4 : IntKind.u8.wrap (((x % 16 : Nat) : Int) + 1) = ((x % 16 : Nat) : Int) + 1 := u8_succ (by omega)
          have q1l : x / 16 < 16 := by omega
          have q2l : x % 16 < 16 := by omega
          obtain ⟨c, hc⟩ : ∃ c, UInt8.ofNat x = c := ⟨_, rfl⟩
          obtain ⟨p1, hp1⟩ : ∃ p1, hexU (x / 16) = p1 := ⟨_, rfl⟩
          obtain ⟨p2, hp2⟩ : ∃ p2, hexU (x % 16) = p2 := ⟨_, rfl⟩
          rw [hc] at HTN hex1 HONE HHEX
          rw [hp1] at HHEX EAH0 d1
          rw [hp2] at HHEX EAH0 d2
          have EAP : Hid (bOf acc ++ bOf [c] = bOf (acc ++ [c])) := by rw [Hid]; simp only [bOf, str_app]
          have EAH : Hid _ := EAH0
          unfold hexD at d1 d2
          have HD2 : Hid _ := d2
          obtain ⟨q1, hq1⟩ : ∃ q1, x / 16 = q1 := ⟨_, rfl⟩
          obtain ⟨q2, hq2⟩ : ∃ q2, x % 16 = q2 := ⟨_, rfl⟩
          rw [hq1] at g1 g2 d1 q1l
          rw [hq2] at g3 g4 d2 q2l
          have q1z : (q1 : Int) + 1 ≤ 16 := by omega
          have q2z : (q2 : Int) + 1 ≤ 16 := by omega
          have q1y : (q1 : Int) ≤ (q1 : Int) + 1 := by omega
          have q2y : (q2 : Int) ≤ (q2 : Int) + 1 := by omega
          have q1t : ((q1 : Int) + 1).toNat = q1 + 1 := by omega
          have q2t : ((q2 : Int) + 1).toNat = q2 + 1 := by omega
          have s1 : (bOf [p1]).size = 1 := rfl
          have s2 : (bOf [p2]).size = 1 := rfl
          have s3 : (bOf [c]).size = 1 := rfl
          have n1 : ¬ 9223372036854775807 < (bOf acc).size + 1 := by rw [bOf_size]; omega
          have n3 : ¬ 9223372036854775807 < (bOf acc).size + 3 := by rw [bOf_size]; omega
          clear EAH0 hc hp1 hp2 hx hq1 hq2
          by_cases ha : 97 ≤ x ∧ x ≤ 122
          · by_cases h : (k : Int) < A
            · have y1 : (97 : Int) ≤ (x : Int) := by omega
              have y2 : (x : Int) ≤ 122 := by omega
              have HE2 : Hid (EscP (acc ++ [c]) (name.data.toList.take (k + 1))) := by rw [Hid, HTN.out]; exact HONE.out (by omega)
              clear HHEX HONE
              go_wp2_with fail
              go_roundw
              case rel => exact ⟨k + 1, nd + 0, acc ++ [c], by omega, (by first | rw [EAP.out] | rw [HD2.out, EAH.out]), by go_num, HE2.out, by first | rfl | (rw [← HW.out]; rfl) | (rw [← HW.out]; simp [World.drewN, Nat.add_assoc])⟩
              case measure => simp [intOf]; omega
            · have y1 : (97 : Int) ≤ (x : Int) := by omega
              have y2 : (x : Int) ≤ 122 := by omega
              have HE2 : Hid (EscP (acc ++ [37, p1, p2]) (name.data.toList.take (k + 1))) := by rw [Hid, HTN.out]; exact HHEX.out
              clear HHEX HONE
              go_wp2_with fail
              go_quiet (fail)
              go_wp2_with fail
              go_roundw
              case rel => exact ⟨k + 1, nd + nq, acc ++ [37, p1, p2], by omega, (by first | rw [EAH.out] | rw [HD2.out, EAH.out]), by go_num, HE2.out, by first | rfl | (rw [← HW.out]; rfl) | (rw [← HW.out]; simp [World.drewN, Nat.add_assoc])⟩
              case measure => simp [intOf]; omega
          · by_cases hb : 48 ≤ x ∧ x ≤ 57
            · by_cases h : (k : Int) < A
              · have y1 : ¬ (97 : Int) ≤ (x : Int) := by omega
                have y2 : (48 : Int) ≤ (x : Int) := by omega
                have y3 : (x : Int) ≤ 57 := by omega
                have HE2 : Hid (EscP (acc ++ [c]) (name.data.toList.take (k + 1))) := by rw [Hid, HTN.out]; exact HONE.out (by omega)
                clear HHEX HONE
                go_wp2_with fail
                go_roundw
                case rel => exact ⟨k + 1, nd + 0, acc ++ [c], by omega, (by first | rw [EAP.out] | rw [HD2.out, EAH.out]), by go_num, HE2.out, by first | rfl | (rw [← HW.out]; rfl) | (rw [← HW.out]; simp [World.drewN, Nat.add_assoc])⟩
                case measure => simp [intOf]; omega
              · have y1 : ¬ (97 : Int) ≤ (x : Int) := by omega
                have y2 : (48 : Int) ≤ (x : Int) := by omega
                have y3 : (x : Int) ≤ 57 := by omega
                have HE2 : Hid (EscP (acc ++ [37, p1, p2]) (name.data.toList.take (k + 1))) := by rw [Hid, HTN.out]; exact HHEX.out
                clear HHEX HONE
                go_wp2_with fail
                go_quiet (fail)
                go_wp2_with fail
                go_roundw
                case rel => exact ⟨k + 1, nd + nq, acc ++ [37, p1, p2], by omega, (by first | rw [EAH.out] | rw [HD2.out, EAH.out]), by go_num, HE2.out, by first | rfl | (rw [← HW.out]; rfl) | (rw [← HW.out]; simp [World.drewN, Nat.add_assoc])⟩
                case measure => simp [intOf]; omega
            · rcases (by omega : x < 48 ∨ (57 < x ∧ x < 97) ∨ 122 < x) with hc | hc | hc
              · have y1 : ¬ (97 : Int) ≤ (x : Int) := by omega
                have y2 : ¬ (48 : Int) ≤ (x : Int) := by omega
                clear hc ha hb
                have HE2 : Hid (EscP (acc ++ [37, p1, p2]) (name.data.toList.take (k + 1))) := by rw [Hid, HTN.out]; exact HHEX.out
                clear HHEX HONE
                go_wp2_with fail
                go_quiet (fail)
                go_wp2_with fail
                go_roundw
                case rel => exact ⟨k + 1, nd + nq, acc ++ [37, p1, p2], by omega, (by first | rw [EAH.out] | rw [HD2.out, EAH.out]), by go_num, HE2.out, by first | rfl | (rw [← HW.out]; rfl) | (rw [← HW.out]; simp [World.drewN, Nat.add_assoc])⟩
                case measure => simp [intOf]; omega
              · have y1 : ¬ (97 : Int) ≤ (x : Int) := by omega
                have y2 : (48 : Int) ≤ (x : Int) := by omega
                have y3 : ¬ (x : Int) ≤ 57 := by omega
                clear hc ha hb
                have HE2 : Hid (EscP (acc ++ [37, p1, p2]) (name.data.toList.take (k + 1))) := by rw [Hid, HTN.out]; exact HHEX.out
                clear HHEX HONE
                go_wp2_with fail
                go_quiet (fail)
                go_wp2_with fail
                go_roundw
                case rel => exact ⟨k + 1, nd + nq, acc ++ [37, p1, p2], by omega, (by first | rw [EAH.out] | rw [HD2.out, EAH.out]), by go_num, HE2.out, by first | rfl | (rw [← HW.out]; rfl) | (rw [← HW.out]; simp [World.drewN, Nat.add_assoc])⟩
                case measure => simp [intOf]; omega
              · have y1 : (97 : Int) ≤ (x : Int) := by omega
                have y2 : ¬ (x : Int) ≤ 122 := by omega
                have y3 : (48 : Int) ≤ (x : Int) := by omega
                have y4 : ¬ (x : Int) ≤ 57 := by omega
                clear hc ha hb
                have HE2 : Hid (EscP (acc ++ [37, p1, p2]) (name.data.toList.take (k + 1))) := by rw [Hid, HTN.out]; exact HHEX.out
                clear HHEX HONE
                go_wp2_with fail
                go_quiet (fail)
                go_wp2_with fail
                go_roundw
                case rel => exact ⟨k + 1, nd + nq, acc ++ [37, p1, p2], by omega, (by first | rw [EAH.out] | rw [HD2.out, EAH.out]), by go_num, HE2.out, by first | rfl | (rw [← HW.out]; rfl) | (rw [← HW.out]; simp [World.drewN, Nat.add_assoc])⟩
                case measure => simp [intOf]; omega
        · have hlz : ¬ (k : Int) < (name.size : Int) := by omega
          have he := HE.out
          rw [List.take_of_length_le (by rw [size_list']; omega)] at he
          have HBW : Hid (Below w.heap.size w W) := by rw [Hid, ← HW.out]; exact below_drewN' HB1.out nd
          have F1 : Hid (∀ _ : Unit, _) := fun _ => H1.out (preS ++ acc) W (by simp [preS]; omega) HBW.out
          have F2 : Hid (∀ W', Below w.heap.size w W' → _) := fun W' b => H1.out (preU ++ acc ++ sufS) W' (by simp [preU, sufS]; omega) b
          have x1 : (⟨#[47, 115, 101, 115, 115, 105, 111, 110, 115, 47]⟩ : ByteArray) ++ bOf acc = bOf (preS ++ acc) := by
            rw [show (⟨#[47, 115, 101, 115, 115, 105, 111, 110, 115, 47]⟩ : ByteArray) = bOf preS from rfl]
            simp only [bOf, str_app]
          have x2 : (⟨#[47, 117, 115, 101, 114, 115, 47]⟩ : ByteArray) ++ bOf acc ++ (⟨#[47, 115, 101, 115, 115, 105, 111, 110, 115]⟩ : ByteArray) = bOf (preU ++ acc ++ sufS) := by
            rw [show (⟨#[47, 117, 115, 101, 114, 115, 47]⟩ : ByteArray) = bOf preU from rfl, show (⟨#[47, 115, 101, 115, 115, 105, 111, 110, 115]⟩ : ByteArray) = bOf sufS from rfl]
            simp only [bOf, str_app]
          have n1 : ¬ 9223372036854775807 < 10 + (bOf acc).size := by rw [bOf_size]; omega
          have n2 : ¬ 9223372036854775807 < 7 + (bOf acc).size := by rw [bOf_size]; omega
          have n3 : ¬ 9223372036854775807 < 7 + (bOf acc).size + 9 := by rw [bOf_size]; omega
          by_cases hu : name.data.toList = []
          · have hne : name.toList.isEmpty = true := by rw [ByteArray.toList_eq, hu]; rfl
            have hac : acc = [] := by
              have := he.len
              rw [hu] at this
              exact List.eq_nil_of_length_eq_zero (by simpa using this)
            have v1 : (findR mGet (preS ++ acc)).2 = 404 := by rw [hac]; exact find_non.1
            have v2 : (findR mGet (preU ++ acc ++ sufS)).2 = 404 := by rw [hac]; exact find_non.2
            rw [v1] at F1
            rw [v2] at F2
            clear v1 v2 he hu hac
            obtain ⟨t1, ht1⟩ : ∃ t1, bOf (preS ++ acc) = t1 := ⟨_, rfl⟩
            obtain ⟨t2, ht2⟩ : ∃ t2, bOf (preU ++ acc ++ sufS) = t2 := ⟨_, rfl⟩
            obtain ⟨y1, hy1⟩ : ∃ y, (findR mGet (preS ++ acc)).1 = y := ⟨_, rfl⟩
            obtain ⟨y2, hy2⟩ : ∃ y, (findR mGet (preU ++ acc ++ sufS)).1 = y := ⟨_, rfl⟩
            rw [ht1, hy1] at F1
            rw [ht2, hy2] at F2
            rw [ht1] at x1
            rw [ht2] at x2
            simp only [rtV, rtA] at F1 F2
            clear ht1 ht2 hy1 hy2
            go_wp2_with fail
            refine (F1.out ()).mono ?_
            rintro e w2 ⟨rfl, b2⟩
            have HB2 : Hid (∀ o, Below w.heap.size w (w2.alloc o)) := fun o => (HBW.out.trans (b2.mono HBW.out.size)).alloc (HBW.out.trans (b2.mono HBW.out.size)).size _
            clear b2
            go_wp2_with fail
            refine (F2.out _ (HB2.out _)).mono ?_
            rintro e w3 ⟨rfl, b3⟩
            have HB3 : Hid (∀ o, Below w.heap.size w (w3.alloc o)) := fun o => ((HB2.out _).trans (b3.mono (HB2.out _).size)).alloc ((HB2.out _).trans (b3.mono (HB2.out _).size)).size _
            clear b3
            go_wp2_with fail
            go_ret
            exact ⟨rfl, HB3.out _⟩
          · have hne : name.toList.isEmpty = false := by
              rw [ByteArray.toList_eq]
              cases hq : name.data.toList with
              | nil => exact absurd hq hu
              | cons _ _ => rfl
            have v1 := find_tok he hu (by rw [size_list']; exact hn)
            have v2 := find_usr he hu (by rw [size_list']; exact hn)
            rw [v1] at F1
            rw [v2] at F2
            clear v1 v2 he hu
            obtain ⟨t1, ht1⟩ : ∃ t1, bOf (preS ++ acc) = t1 := ⟨_, rfl⟩
            obtain ⟨t2, ht2⟩ : ∃ t2, bOf (preU ++ acc ++ sufS) = t2 := ⟨_, rfl⟩
            rw [ht1] at x1 F1
            rw [ht2] at x2 F2
            simp only [rtV, rtA] at F1 F2
            rw [show bOf name.data.toList = name from rfl, show bOf [] = ⟨#[]⟩ from rfl] at F1 F2
            clear ht1 ht2
            go_wp2_with fail
            refine (F1.out ()).mono ?_
            rintro e w2 ⟨rfl, b2⟩
            have HB2 : Hid (Below w.heap.size w w2) := HBW.out.trans (b2.mono HBW.out.size)
            clear b2
            obtain ⟨X2, hX2⟩ : ∃ X2, w2.alloc (.cells #[.int .i64 2, .string name, .string ⟨#[]⟩, .int .i64 0, .bool false] 23) = X2 := ⟨_, rfl⟩
            have HX2 : Hid (X2.heap[w2.heap.size]? = some (.cells #[.int .i64 2, .string name, .string ⟨#[]⟩, .int .i64 0, .bool false] 23 (0, 0))) := by rw [Hid, ← hX2]; exact block_alloc_at _ _
            have HBX : Hid (Below w.heap.size w X2) := by rw [Hid, ← hX2]; exact HB2.out.alloc HB2.out.size _
            have HE2 : Hid _ := hX2
            clear hX2
            go_wp2_with fail
            rw [HE2.out]
            refine (F2.out X2 HBX.out).mono ?_
            rintro e w3 ⟨rfl, b3⟩
            have HX3 : Hid (w3.heap[w2.heap.size]? = some (.cells #[.int .i64 2, .string name, .string ⟨#[]⟩, .int .i64 0, .bool false] 23 (0, 0))) := (b3.block _ (Array.getElem?_eq_some_iff.1 HX2.out).1).trans HX2.out
            have HB3 : Hid (Below w.heap.size w w3) := HBX.out.trans (b3.mono HBX.out.size)
            have HB4 : Hid (∀ o, Below w.heap.size w (w3.alloc o)) := fun o => HB3.out.alloc HB3.out.size _
            clear b3 HE2
            have hlt3 : w2.heap.size < w3.heap.size := (Array.getElem?_eq_some_iff.1 HX3.out).1
            have k0 : w3.cell? ⟨w2.heap.size, 0, none⟩ = some (.int .i64 2) := cell_of_block HX3.out rfl
            have k1 : w3.cell? ⟨w2.heap.size, 1, none⟩ = some (.string name) := cell_of_block HX3.out rfl
            have k2 : w3.cell? ⟨w2.heap.size, 2, none⟩ = some (.string ⟨#[]⟩) := cell_of_block HX3.out rfl
            have k3 : w3.cell? ⟨w2.heap.size, 3, none⟩ = some (.int .i64 0) := cell_of_block HX3.out rfl
            have k4 : w3.cell? ⟨w2.heap.size, 4, none⟩ = some (.bool false) := cell_of_block HX3.out rfl
            go_wp2_with fail
            go_ret
            exact ⟨rfl, HB4.out _⟩
    · have h4d : decide (0 < frm) = false := decide_eq_false h4
      go_enter Tryd.func7, Tryd.ntmps7
      go_wp2_with fail
      refine (H0.out ()).mono ?_
      rintro e w1 ⟨rfl, b1⟩
      have HB1 : Hid (Below w.heap.size w w1) := b1
      clear b1
      go_wp2_with fail
      go_loopw [6, 7] (fun v i wr => ∃ (k nd : Nat) (acc : List UInt8), k ≤ name.size ∧ v = .string (bOf acc) ∧ i = .int .i64 (k : Nat) ∧ Hid (EscP acc (name.data.toList.take k)) ∧ wr = w1.drewN nd) (fun _ i _ => name.size - (intOf i).toNat)
      case atStart => exact ⟨0, 0, [], by omega, rfl, rfl, by rw [Hid, List.take_zero]; exact EscP.start, rfl⟩
      case round =>
        obtain ⟨k, nd, acc, hk, rfl, rfl, HE, rfl⟩ := hrel
        have hal : acc.length ≤ 900 := by have := HE.out.len; have h2 : (name.data.toList.take k).length ≤ k := List.length_take_le _ _; omega
        obtain ⟨W, hW⟩ : ∃ W, w1.drewN nd = W := ⟨_, rfl⟩
        have HW : Hid (w1.drewN nd = W) := hW
        rw [hW]
        clear hW
        by_cases hlt : k < name.size
        · have hlz : (k : Int) < (name.size : Int) := by omega
          have r0 := fun W => run_byte name (i := k) (z := (k : Int)) rfl hlt W
          have hxl := byteAt_lt name k
          obtain ⟨x, hx⟩ : ∃ x, byteAt name k = x := ⟨_, rfl⟩
          have HTN : Hid (name.data.toList.take (k + 1) = name.data.toList.take k ++ [UInt8.ofNat x]) := take_next hlt hx
          have hex1 : name.extract k (k + 1) = bOf [UInt8.ofNat x] := one_byte hlt hx
          rw [hx] at r0 hxl
          have HONE : Hid ((97 ≤ x ∧ x ≤ 122) ∨ (48 ≤ x ∧ x ≤ 57) → _) := fun q => HE.out.one q
          have HHEX : Hid _ := HE.out.hex hxl
          have EAH0 : bOf acc ++ (⟨#[37]⟩ ++ bOf [hexU (x / 16)] ++ bOf [hexU (x % 16)]) = bOf (acc ++ [37, hexU (x / 16), hexU (x % 16)]) := by
            rw [show (⟨#[37]⟩ : ByteArray) = bOf [37] from rfl]
            simp only [bOf, str_app]
            rfl
          have hk1 : (k : Int) + 1 ≤ (name.size : Int) := by omega
          have hk2 : k + 1 ≤ name.size := by omega
          have d1 := hexD_at (q := x / 16) (by omega)
          have d2 := hexD_at (q := x % 16) (by omega)
          have g1 : IntKind.u8.wrap ((x : Int) / 16) = ((x / 16 : Nat) : Int) := u8_small (by omega) (by omega)
          have g3 : IntKind.u8.wrap ((x : Int) % 16) = ((x % 16 : Nat) : Int) := u8_small (by omega) (by omega)
          have g2 : IntKind.u8.wrap (((x / 16 : Nat) : Int) + 1) = ((x / 16 : Nat) : Int) + 1 := u8_succ (by omega)
          have g4 : IntKind.u8.wrap (((x % 16 : Nat) : Int) + 1) = ((x % 16 : Nat) : Int) + 1 := u8_succ (by omega)
          have q1l : x / 16 < 16 := by omega
          have q2l : x % 16 < 16 := by omega
          obtain ⟨c, hc⟩ : ∃ c, UInt8.ofNat x = c := ⟨_, rfl⟩
          obtain ⟨p1, hp1⟩ : ∃ p1, hexU (x / 16) = p1 := ⟨_, rfl⟩
          obtain ⟨p2, hp2⟩ : ∃ p2, hexU (x % 16) = p2 := ⟨_, rfl⟩
          rw [hc] at HTN hex1 HONE HHEX
          rw [hp1] at HHEX EAH0 d1
          rw [hp2] at HHEX EAH0 d2
          have EAP : Hid (bOf acc ++ bOf [c] = bOf (acc ++ [c])) := by rw [Hid]; simp only [bOf, str_app]
          have EAH : Hid _ := EAH0
          unfold hexD at d1 d2
          have HD2 : Hid _ := d2
          obtain ⟨q1, hq1⟩ : ∃ q1, x / 16 = q1 := ⟨_, rfl⟩
          obtain ⟨q2, hq2⟩ : ∃ q2, x % 16 = q2 := ⟨_, rfl⟩
          rw [hq1] at g1 g2 d1 q1l
          rw [hq2] at g3 g4 d2 q2l
          have q1z : (q1 : Int) + 1 ≤ 16 := by omega
          have q2z : (q2 : Int) + 1 ≤ 16 := by omega
          have q1y : (q1 : Int) ≤ (q1 : Int) + 1 := by omega
          have q2y : (q2 : Int) ≤ (q2 : Int) + 1 := by omega
          have q1t : ((q1 : Int) + 1).toNat = q1 + 1 := by omega
          have q2t : ((q2 : Int) + 1).toNat = q2 + 1 := by omega
          have s1 : (bOf [p1]).size = 1 := rfl
          have s2 : (bOf [p2]).size = 1 := rfl
          have s3 : (bOf [c]).size = 1 := rfl
          have n1 : ¬ 9223372036854775807 < (bOf acc).size + 1 := by rw [bOf_size]; omega
          have n3 : ¬ 9223372036854775807 < (bOf acc).size + 3 := by rw [bOf_size]; omega
          clear EAH0 hc hp1 hp2 hx hq1 hq2
          by_cases ha : 97 ≤ x ∧ x ≤ 122
          · have y1 : (97 : Int) ≤ (x : Int) := by omega
            have y2 : (x : Int) ≤ 122 := by omega
            have hkA : ¬ (k : Int) < 0 := by omega
            have HE2 : Hid (EscP (acc ++ [37, p1, p2]) (name.data.toList.take (k + 1))) := by rw [Hid, HTN.out]; exact HHEX.out
            clear HHEX HONE
            go_wp2_with fail
            go_quiet (fail)
            go_wp2_with fail
            go_roundw
            case rel => exact ⟨k + 1, nd + nq, acc ++ [37, p1, p2], by omega, (by first | rw [EAH.out] | rw [HD2.out, EAH.out]), by go_num, HE2.out, by first | rfl | (rw [← HW.out]; rfl) | (rw [← HW.out]; simp [World.drewN, Nat.add_assoc])⟩
            case measure => simp [intOf]; omega
          · by_cases hb : 48 ≤ x ∧ x ≤ 57
            · have y1 : ¬ (97 : Int) ≤ (x : Int) := by omega
              have y2 : (48 : Int) ≤ (x : Int) := by omega
              have y3 : (x : Int) ≤ 57 := by omega
              have hkA : ¬ (k : Int) < 0 := by omega
              have HE2 : Hid (EscP (acc ++ [37, p1, p2]) (name.data.toList.take (k + 1))) := by rw [Hid, HTN.out]; exact HHEX.out
              clear HHEX HONE
              go_wp2_with fail
              go_quiet (fail)
              go_wp2_with fail
              go_roundw
              case rel => exact ⟨k + 1, nd + nq, acc ++ [37, p1, p2], by omega, (by first | rw [EAH.out] | rw [HD2.out, EAH.out]), by go_num, HE2.out, by first | rfl | (rw [← HW.out]; rfl) | (rw [← HW.out]; simp [World.drewN, Nat.add_assoc])⟩
              case measure => simp [intOf]; omega
            · rcases (by omega : x < 48 ∨ (57 < x ∧ x < 97) ∨ 122 < x) with hc | hc | hc
              · have y1 : ¬ (97 : Int) ≤ (x : Int) := by omega
                have y2 : ¬ (48 : Int) ≤ (x : Int) := by omega
                clear hc ha hb
                have HE2 : Hid (EscP (acc ++ [37, p1, p2]) (name.data.toList.take (k + 1))) := by rw [Hid, HTN.out]; exact HHEX.out
                clear HHEX HONE
                go_wp2_with fail
                go_quiet (fail)
                go_wp2_with fail
                go_roundw
                case rel => exact ⟨k + 1, nd + nq, acc ++ [37, p1, p2], by omega, (by first | rw [EAH.out] | rw [HD2.out, EAH.out]), by go_num, HE2.out, by first | rfl | (rw [← HW.out]; rfl) | (rw [← HW.out]; simp [World.drewN, Nat.add_assoc])⟩
                case measure => simp [intOf]; omega
              · have y1 : ¬ (97 : Int) ≤ (x : Int) := by omega
                have y2 : (48 : Int) ≤ (x : Int) := by omega
                have y3 : ¬ (x : Int) ≤ 57 := by omega
                clear hc ha hb
                have HE2 : Hid (EscP (acc ++ [37, p1, p2]) (name.data.toList.take (k + 1))) := by rw [Hid, HTN.out]; exact HHEX.out
                clear HHEX HONE
                go_wp2_with fail
                go_quiet (fail)
                go_wp2_with fail
                go_roundw
                case rel => exact ⟨k + 1, nd + nq, acc ++ [37, p1, p2], by omega, (by first | rw [EAH.out] | rw [HD2.out, EAH.out]), by go_num, HE2.out, by first | rfl | (rw [← HW.out]; rfl) | (rw [← HW.out]; simp [World.drewN, Nat.add_assoc])⟩
                case measure => simp [intOf]; omega
              · have y1 : (97 : Int) ≤ (x : Int) := by omega
                have y2 : ¬ (x : Int) ≤ 122 := by omega
                have y3 : (48 : Int) ≤ (x : Int) := by omega
                have y4 : ¬ (x : Int) ≤ 57 := by omega
                clear hc ha hb
                have HE2 : Hid (EscP (acc ++ [37, p1, p2]) (name.data.toList.take (k + 1))) := by rw [Hid, HTN.out]; exact HHEX.out
                clear HHEX HONE
                go_wp2_with fail
                go_quiet (fail)
                go_wp2_with fail
                go_roundw
                case rel => exact ⟨k + 1, nd + nq, acc ++ [37, p1, p2], by omega, (by first | rw [EAH.out] | rw [HD2.out, EAH.out]), by go_num, HE2.out, by first | rfl | (rw [← HW.out]; rfl) | (rw [← HW.out]; simp [World.drewN, Nat.add_assoc])⟩
                case measure => simp [intOf]; omega
        · have hlz : ¬ (k : Int) < (name.size : Int) := by omega
          have he := HE.out
          rw [List.take_of_length_le (by rw [size_list']; omega)] at he
          have HBW : Hid (Below w.heap.size w W) := by rw [Hid, ← HW.out]; exact below_drewN' HB1.out nd
          have F1 : Hid (∀ _ : Unit, _) := fun _ => H1.out (preS ++ acc) W (by simp [preS]; omega) HBW.out
          have F2 : Hid (∀ W', Below w.heap.size w W' → _) := fun W' b => H1.out (preU ++ acc ++ sufS) W' (by simp [preU, sufS]; omega) b
          have x1 : (⟨#[47, 115, 101, 115, 115, 105, 111, 110, 115, 47]⟩ : ByteArray) ++ bOf acc = bOf (preS ++ acc) := by
            rw [show (⟨#[47, 115, 101, 115, 115, 105, 111, 110, 115, 47]⟩ : ByteArray) = bOf preS from rfl]
            simp only [bOf, str_app]
          have x2 : (⟨#[47, 117, 115, 101, 114, 115, 47]⟩ : ByteArray) ++ bOf acc ++ (⟨#[47, 115, 101, 115, 115, 105, 111, 110, 115]⟩ : ByteArray) = bOf (preU ++ acc ++ sufS) := by
            rw [show (⟨#[47, 117, 115, 101, 114, 115, 47]⟩ : ByteArray) = bOf preU from rfl, show (⟨#[47, 115, 101, 115, 115, 105, 111, 110, 115]⟩ : ByteArray) = bOf sufS from rfl]
            simp only [bOf, str_app]
          have n1 : ¬ 9223372036854775807 < 10 + (bOf acc).size := by rw [bOf_size]; omega
          have n2 : ¬ 9223372036854775807 < 7 + (bOf acc).size := by rw [bOf_size]; omega
          have n3 : ¬ 9223372036854775807 < 7 + (bOf acc).size + 9 := by rw [bOf_size]; omega
          by_cases hu : name.data.toList = []
          · have hne : name.toList.isEmpty = true := by rw [ByteArray.toList_eq, hu]; rfl
            have hac : acc = [] := by
              have := he.len
              rw [hu] at this
              exact List.eq_nil_of_length_eq_zero (by simpa using this)
            have v1 : (findR mGet (preS ++ acc)).2 = 404 := by rw [hac]; exact find_non.1
            have v2 : (findR mGet (preU ++ acc ++ sufS)).2 = 404 := by rw [hac]; exact find_non.2
            rw [v1] at F1
            rw [v2] at F2
            clear v1 v2 he hu hac
            obtain ⟨t1, ht1⟩ : ∃ t1, bOf (preS ++ acc) = t1 := ⟨_, rfl⟩
            obtain ⟨t2, ht2⟩ : ∃ t2, bOf (preU ++ acc ++ sufS) = t2 := ⟨_, rfl⟩
            obtain ⟨y1, hy1⟩ : ∃ y, (findR mGet (preS ++ acc)).1 = y := ⟨_, rfl⟩
            obtain ⟨y2, hy2⟩ : ∃ y, (findR mGet (preU ++ acc ++ sufS)).1 = y := ⟨_, rfl⟩
            rw [ht1, hy1] at F1
            rw [ht2, hy2] at F2
            rw [ht1] at x1
            rw [ht2] at x2
            simp only [rtV, rtA] at F1 F2
            clear ht1 ht2 hy1 hy2
            go_wp2_with fail
            refine (F1.out ()).mono ?_
            rintro e w2 ⟨rfl, b2⟩
            have HB2 : Hid (∀ o, Below w.heap.size w (w2.alloc o)) := fun o => (HBW.out.trans (b2.mono HBW.out.size)).alloc (HBW.out.trans (b2.mono HBW.out.size)).size _
            clear b2
            go_wp2_with fail
            refine (F2.out _ (HB2.out _)).mono ?_
            rintro e w3 ⟨rfl, b3⟩
            have HB3 : Hid (∀ o, Below w.heap.size w (w3.alloc o)) := fun o => ((HB2.out _).trans (b3.mono (HB2.out _).size)).alloc ((HB2.out _).trans (b3.mono (HB2.out _).size)).size _
            clear b3
            go_wp2_with fail
            go_ret
            exact ⟨rfl, HB3.out _⟩
          · have hne : name.toList.isEmpty = false := by
              rw [ByteArray.toList_eq]
              cases hq : name.data.toList with
              | nil => exact absurd hq hu
              | cons _ _ => rfl
            have v1 := find_tok he hu (by rw [size_list']; exact hn)
            have v2 := find_usr he hu (by rw [size_list']; exact hn)
            rw [v1] at F1
            rw [v2] at F2
            clear v1 v2 he hu
            obtain ⟨t1, ht1⟩ : ∃ t1, bOf (preS ++ acc) = t1 := ⟨_, rfl⟩
            obtain ⟨t2, ht2⟩ : ∃ t2, bOf (preU ++ acc ++ sufS) = t2 := ⟨_, rfl⟩
            rw [ht1] at x1 F1
            rw [ht2] at x2 F2
            simp only [rtV, rtA] at F1 F2
            rw [show bOf name.data.toList = name from rfl, show bOf [] = ⟨#[]⟩ from rfl] at F1 F2
            clear ht1 ht2
            go_wp2_with fail
            refine (F1.out ()).mono ?_
            rintro e w2 ⟨rfl, b2⟩
            have HB2 : Hid (Below w.heap.size w w2) := HBW.out.trans (b2.mono HBW.out.size)
            clear b2
            obtain ⟨X2, hX2⟩ : ∃ X2, w2.alloc (.cells #[.int .i64 2, .string name, .string ⟨#[]⟩, .int .i64 0, .bool false] 23) = X2 := ⟨_, rfl⟩
            have HX2 : Hid (X2.heap[w2.heap.size]? = some (.cells #[.int .i64 2, .string name, .string ⟨#[]⟩, .int .i64 0, .bool false] 23 (0, 0))) := by rw [Hid, ← hX2]; exact block_alloc_at _ _
            have HBX : Hid (Below w.heap.size w X2) := by rw [Hid, ← hX2]; exact HB2.out.alloc HB2.out.size _
            have HE2 : Hid _ := hX2
            clear hX2
            go_wp2_with fail
            rw [HE2.out]
            refine (F2.out X2 HBX.out).mono ?_
            rintro e w3 ⟨rfl, b3⟩
            have HX3 : Hid (w3.heap[w2.heap.size]? = some (.cells #[.int .i64 2, .string name, .string ⟨#[]⟩, .int .i64 0, .bool false] 23 (0, 0))) := (b3.block _ (Array.getElem?_eq_some_iff.1 HX2.out).1).trans HX2.out
            have HB3 : Hid (Below w.heap.size w w3) := HBX.out.trans (b3.mono HBX.out.size)
            have HB4 : Hid (∀ o, Below w.heap.size w (w3.alloc o)) := fun o => HB3.out.alloc HB3.out.size _
            clear b3 HE2
            have hlt3 : w2.heap.size < w3.heap.size := (Array.getElem?_eq_some_iff.1 HX3.out).1
            have k0 : w3.cell? ⟨w2.heap.size, 0, none⟩ = some (.int .i64 2) := cell_of_block HX3.out rfl
            have k1 : w3.cell? ⟨w2.heap.size, 1, none⟩ = some (.string name) := cell_of_block HX3.out rfl
            have k2 : w3.cell? ⟨w2.heap.size, 2, none⟩ = some (.string ⟨#[]⟩) := cell_of_block HX3.out rfl
            have k3 : w3.cell? ⟨w2.heap.size, 3, none⟩ = some (.int .i64 0) := cell_of_block HX3.out rfl
            have k4 : w3.cell? ⟨w2.heap.size, 4, none⟩ = some (.bool false) := cell_of_block HX3.out rfl
            go_wp2_with fail
            go_ret
            exact ⟨rfl, HB4.out _⟩
end Go.Proofs.YtbpfggpljfpfcaaDoor
