/-
  The reader of replies: the contracts of opening, kind, statusLine, status.
-/
import Derived.Test.YtdkbgbhcnbmlfaaDoorRdk
import Derived.Test.YtdkbgbhcnbmlfaaDoorSrt
namespace Go.Proofs.YtdkbgbhcnbmlfaaDoor
open Go.RowKit Go.Sort Go.Shelf
def opn : Nat → ByteArray
  | 0 => ⟨#[67, 111, 110, 116, 101, 110, 116, 45, 84, 121, 112, 101, 58, 32, 97, 112, 112, 108, 105, 99, 97, 116, 105, 111, 110, 47, 106, 115, 111, 110, 13, 10]⟩
  | 1 => ⟨#[67, 111, 110, 116, 101, 110, 116, 45, 76, 101, 110, 103, 116, 104, 58, 32]⟩
  | 2 => ⟨#[83, 101, 116, 45, 67, 111, 111, 107, 105, 101, 58, 32]⟩
  | 3 => ⟨#[67, 111, 110, 110, 101, 99, 116, 105, 111, 110, 58, 32, 99, 108, 111, 115, 101, 13, 10]⟩
  | _ => ⟨#[13, 10]⟩
set_option maxRecDepth 20000 in
theorem opening_any (k : Nat) (hk : k ≤ 4) (w : World) : Calls Tryd.prog 47 #[.int .i64 (k : Nat)] w fun e w' => e = .returned (.string (opn k)) ∧ w' = w := by
  rcases (by omega : k = 0 ∨ k = 1 ∨ k = 2 ∨ k = 3 ∨ k = 4) with rfl | rfl | rfl | rfl | rfl
  all_goals (go_enter Tryd.func47, Tryd.ntmps47; go_wp2_with fail; go_ret; exact ⟨rfl, rfl⟩)
def kTo (f : Nat) : Nat := if f ≤ 1 then 1 else 4
/-- The openings of the lines that may come, from a kind on. -/
def kTx (f : Nat) : List ByteArray := (List.range (kTo f + 1 - f)).map (fun j => opn (f + j))
def kndR (f : Nat) (rest : List UInt8) (e : Int) : Nat × List UInt8 × Int := (f + (chs (kTx f) rest e).1, (chs (kTx f) rest e).2)
theorem kTx_len (f : Nat) : (kTx f).length = kTo f + 1 - f := by simp [kTx]
theorem kTx_take {f j : Nat} (h : j < kTo f + 1 - f) : (kTx f).take (j + 1) = (kTx f).take j ++ [opn (f + j)] := by
  rw [List.take_add_one]
  congr 1
  simp [kTx, h]
theorem strV_snoc (l : List ByteArray) (s : ByteArray) : strV (l ++ [s]) = strV l ++ strV [s] := by simp [strV]
theorem chsG_lt (rest : List UInt8) (e : Int) : ∀ (l : List ByteArray) (i : Nat) (x : Int), (chsG rest e l i x).1 < i + l.length ∨ (chsG rest e l i x).1 = 0
  | [], i, x => Or.inr rfl
  | t :: ts, i, x => by
    rw [chsG]
    split
    · exact Or.inl (by simp)
    · rcases chsG_lt rest e ts (i + 1) (if Lib.hasPrefix t.data.toList rest = true then 20 else x) with h | h
      · exact Or.inl (by rw [List.length_cons]; omega)
      · exact Or.inr h
theorem chs_lt (l : List ByteArray) (rest : List UInt8) (e : Int) (h : l ≠ []) : (chs l rest e).1 < l.length := by
  have h1 := chsG_lt rest e l 0 180
  have h2 : 0 < l.length := by cases l with | nil => exact absurd rfl h | cons => simp
  unfold chs
  omega
set_option maxRecDepth 20000 in
set_option maxHeartbeats 8000000 in
theorem kind_any (b f : Nat) (S : ByteArray) (e : Int) (w : World) (h : RIs w b S e) (hf : f ≤ 4) :
    Calls Tryd.prog 34 #[.pointer (some ⟨b, 0, none⟩), .int .i64 (f : Nat)] w fun r w' => r = .returned (.int .i64 ((kndR f S.data.toList e).1 : Nat)) ∧ RIs w' b (mkB (kndR f S.data.toList e).2.1) (kndR f S.data.toList e).2.2 ∧ Keeps (fun k => k = b) w w' := by
  obtain ⟨i0, hi, hz⟩ := Option.map_eq_some_iff.1 info9
  simp only [Prod.mk.injEq] at hz
  obtain ⟨hz0, hz1, hz2⟩ := hz
  have HI : Hid (RIs w b S e) := h
  have HO : Hid (∀ (k : Nat), k ≤ 4 → ∀ W : World, _) := fun k hk W => opening_any k hk W
  have HLN : Hid ((kTx f).length = kTo f + 1 - f) := kTx_len f
  have HTK : Hid (∀ j, j < kTo f + 1 - f → _) := fun j hj => kTx_take (f := f) (j := j) hj
  have HCH : Hid (∀ (W : World) (a : Option Addr) (c : Nat), RIs W b S e → TextsAt W a (kTx f) → _) := fun W a c q1 q2 => choose_any b S e a c (kTx f) W q1 q2 (by rw [kTx_len]; unfold kTo; split <;> omega)
  rw [kTx_len] at HCH
  have HR : Hid (kndR f S.data.toList e = (f + (chs (kTx f) S.data.toList e).1, (chs (kTx f) S.data.toList e).2)) := rfl
  have HCL := chs_lt (kTx f) S.data.toList e (fun q => by have := kTx_len f; rw [q] at this; simp only [List.length_nil] at this; unfold kTo at this; split at this <;> omega)
  rw [kTx_len] at HCL
  obtain ⟨C, hC⟩ : ∃ C, chs (kTx f) S.data.toList e = C := ⟨_, rfl⟩
  rw [hC] at HR HCH HCL
  have hto : kTo f = if f ≤ 1 then 1 else 4 := rfl
  obtain ⟨T, hT⟩ : ∃ T, kTo f = T := ⟨_, rfl⟩
  rw [hT] at HLN HTK HCH HCL hto
  have hTb : f ≤ T ∧ T ≤ 4 := by rw [hto]; split <;> omega
  have HTO : Hid _ := hto
  clear hC hT h hto
  rcases (by omega : f ≤ 1 ∨ 2 ≤ f) with g | g
  · have gz : (f : Int) ≤ 1 := by omega
    obtain rfl : T = 1 := by have := HTO.out; rw [if_pos g] at this; exact this
    go_enter Tryd.func34, Tryd.ntmps34
    go_wp2_with fail
    go_loopw [6, 7] (fun v i wr => ∃ j : Nat, f + j ≤ 1 + 1 ∧ i = .int .i64 ((f + j : Nat) : Int) ∧ wr.ownsRow w.heap.size 9 1 v j (strV ((kTx f).take j)) ∧ Hid (Below w.heap.size w wr)) (fun _ i _ => 6 - (intOf i).toNat)
    case atStart => exact ⟨0, by omega, rfl, by rw [List.take_zero]; exact World.ownsRow_nil _ _ _ _, Below.refl _ _⟩
    case round =>
      obtain ⟨j, hj, rfl, hown, HB⟩ := hrel
      obtain ⟨va, vc, rfl⟩ := form_of_row hown
      have HOW : Hid (wr.ownsRow w.heap.size 9 1 (.slice va j vc) j (strV ((kTx f).take j))) := hown
      clear hown
      have hsz := HB.out.size
      by_cases hlt : f + j ≤ 1
      · have hlz : ((f + j : Nat) : Int) ≤ 1 := by omega
        have hlz2 : (f : Int) + (j : Int) ≤ 1 := by omega
        have HOk : Hid (∀ W : World, _) := fun W => HO.out (f + j) (by omega) W
        have HT1 : Hid ((kTx f).take (j + 1) = (kTx f).take j ++ [opn (f + j)]) := HTK.out j (by omega)
        obtain ⟨px, hpx⟩ : ∃ px, opn (f + j) = px := ⟨_, rfl⟩
        rw [hpx] at HOk HT1
        have hra : Hid (∀ o1, (wr.alloc o1).ownsRow w.heap.size 9 1 (.slice va j vc) j (strV ((kTx f).take j))) := fun o1 => World.ownsRow.alloc HOW.out o1
        have HNC : Hid (∀ k x, (strV [px])[k]? = some x → (wr.alloc (.cells #[.string px] 9)).cell? ((⟨wr.heap.size, 0, none⟩ : Addr).add k) = some x) := new_cells wr (strV [px]) 9
        clear hpx
        go_wp2_with (first
          | (go_at_call 47; refine (HOk.out _).mono ?_; rintro r w' ⟨rfl, rfl⟩)
          | (at_builtin; refine wpList_append_own _ rfl (.tmp 16) (.tmp 19) 81 rfl w.heap.size 9 i0 (.string ⟨#[]⟩) 1 16 Tryd.underlying81 hi hz0 hz1 hz2 rfl (by decide) _ _ _ rfl (hra.out _) ⟨_, 0, none⟩ 1 1 (strV [px]) rfl rfl HNC.out (strV_one _) (by unfold maxLen; omega) (by omega) (by simp; omega) ?_))
        intro v1 w5 hown1 hgrow _
        obtain ⟨a1, cap1, rfl⟩ := form_of_row hown1
        have HR5 : Hid (w5.ownsRow w.heap.size 9 1 (.slice a1 (j + 1) cap1) (j + 1) (strV ((kTx f).take (j + 1)))) := by
          rw [Hid, HT1.out, strV_snoc]; exact hown1
        have HB5 : Hid (Below w.heap.size w w5) := (HB.out.alloc hsz _).grown hgrow (by simp; omega) (fun i hi => (World.ownsRow.lt HOW.out i hi).1)
        clear hown1 hgrow
        go_wp2_with fail
        go_roundw
        case rel => exact ⟨j + 1, by omega, by go_num, HR5.out, HB5.out⟩
        case measure => simp [intOf]; omega
      · obtain rfl : j = 1 + 1 - f := by omega
        have hlz : ¬ ((f + (1 + 1 - f) : Nat) : Int) ≤ 1 := by omega
        have hq := HOW.out
        rw [List.take_of_length_le (by rw [HLN.out]; omega)] at hq
        have HTX : Hid (TextsAt wr va (kTx f)) := row_texts hq
        have HI2 : Hid (RIs wr b S e) := HI.out.below HB.out
        have HK2 : Hid (Keeps (fun k => k = b) w wr) := Keeps.of_below HB.out
        clear hq
        go_wp2_with (go_at_call 46; refine (HCH.out _ _ _ HI2.out HTX.out).mono ?_; rintro r w' ⟨rfl, r1, r2⟩)
        go_ret
        exact ⟨by rw [HR.out]; first | rfl | (congr 2; omega), by rw [HR.out]; exact r1, HK2.out.trans r2⟩
  · have gz : ¬ (f : Int) ≤ 1 := by omega
    obtain rfl : T = 4 := by have := HTO.out; rw [if_neg (by omega)] at this; exact this
    go_enter Tryd.func34, Tryd.ntmps34
    go_wp2_with fail
    go_loopw [6, 7] (fun v i wr => ∃ j : Nat, f + j ≤ 4 + 1 ∧ i = .int .i64 ((f + j : Nat) : Int) ∧ wr.ownsRow w.heap.size 9 1 v j (strV ((kTx f).take j)) ∧ Hid (Below w.heap.size w wr)) (fun _ i _ => 6 - (intOf i).toNat)
    case atStart => exact ⟨0, by omega, rfl, by rw [List.take_zero]; exact World.ownsRow_nil _ _ _ _, Below.refl _ _⟩
    case round =>
      obtain ⟨j, hj, rfl, hown, HB⟩ := hrel
      obtain ⟨va, vc, rfl⟩ := form_of_row hown
      have HOW : Hid (wr.ownsRow w.heap.size 9 1 (.slice va j vc) j (strV ((kTx f).take j))) := hown
      clear hown
      have hsz := HB.out.size
      by_cases hlt : f + j ≤ 4
      · have hlz : ((f + j : Nat) : Int) ≤ 4 := by omega
        have hlz2 : (f : Int) + (j : Int) ≤ 4 := by omega
        have HOk : Hid (∀ W : World, _) := fun W => HO.out (f + j) (by omega) W
        have HT1 : Hid ((kTx f).take (j + 1) = (kTx f).take j ++ [opn (f + j)]) := HTK.out j (by omega)
        obtain ⟨px, hpx⟩ : ∃ px, opn (f + j) = px := ⟨_, rfl⟩
        rw [hpx] at HOk HT1
        have hra : Hid (∀ o1, (wr.alloc o1).ownsRow w.heap.size 9 1 (.slice va j vc) j (strV ((kTx f).take j))) := fun o1 => World.ownsRow.alloc HOW.out o1
        have HNC : Hid (∀ k x, (strV [px])[k]? = some x → (wr.alloc (.cells #[.string px] 9)).cell? ((⟨wr.heap.size, 0, none⟩ : Addr).add k) = some x) := new_cells wr (strV [px]) 9
        clear hpx
        go_wp2_with (first
          | (go_at_call 47; refine (HOk.out _).mono ?_; rintro r w' ⟨rfl, rfl⟩)
          | (at_builtin; refine wpList_append_own _ rfl (.tmp 16) (.tmp 19) 81 rfl w.heap.size 9 i0 (.string ⟨#[]⟩) 1 16 Tryd.underlying81 hi hz0 hz1 hz2 rfl (by decide) _ _ _ rfl (hra.out _) ⟨_, 0, none⟩ 1 1 (strV [px]) rfl rfl HNC.out (strV_one _) (by unfold maxLen; omega) (by omega) (by simp; omega) ?_))
        intro v1 w5 hown1 hgrow _
        obtain ⟨a1, cap1, rfl⟩ := form_of_row hown1
        have HR5 : Hid (w5.ownsRow w.heap.size 9 1 (.slice a1 (j + 1) cap1) (j + 1) (strV ((kTx f).take (j + 1)))) := by
          rw [Hid, HT1.out, strV_snoc]; exact hown1
        have HB5 : Hid (Below w.heap.size w w5) := (HB.out.alloc hsz _).grown hgrow (by simp; omega) (fun i hi => (World.ownsRow.lt HOW.out i hi).1)
        clear hown1 hgrow
        go_wp2_with fail
        go_roundw
        case rel => exact ⟨j + 1, by omega, by go_num, HR5.out, HB5.out⟩
        case measure => simp [intOf]; omega
      · obtain rfl : j = 4 + 1 - f := by omega
        have hlz : ¬ ((f + (4 + 1 - f) : Nat) : Int) ≤ 4 := by omega
        have hq := HOW.out
        rw [List.take_of_length_le (by rw [HLN.out]; omega)] at hq
        have HTX : Hid (TextsAt wr va (kTx f)) := row_texts hq
        have HI2 : Hid (RIs wr b S e) := HI.out.below HB.out
        have HK2 : Hid (Keeps (fun k => k = b) w wr) := Keeps.of_below HB.out
        clear hq
        go_wp2_with (go_at_call 46; refine (HCH.out _ _ _ HI2.out HTX.out).mono ?_; rintro r w' ⟨rfl, r1, r2⟩)
        go_ret
        exact ⟨by rw [HR.out]; first | rfl | (congr 2; omega), by rw [HR.out]; exact r1, HK2.out.trans r2⟩
end Go.Proofs.YtdkbgbhcnbmlfaaDoor
