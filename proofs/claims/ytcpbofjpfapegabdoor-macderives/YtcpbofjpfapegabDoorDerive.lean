/-
  The contracts of Derive and of the twin's: bytes that are derived from a key.
-/
import Derived.Test.YtcpbofjpfapegabDoorRefMac
import Derived.Lib.AppendStr
namespace Go.Proofs.YtcpbofjpfapegabDoor
open Go.RowKit
theorem bytes_ext' {a b : ByteArray} (h : a.data.toList = b.data.toList) : a = b := by
  apply ByteArray.ext
  exact Array.toList_inj.1 h
theorem keyAt_pad (l : List UInt8) (j : Nat) : keyAt (l ++ List.replicate j 0) = keyAt l := by
  funext i
  unfold keyAt
  rw [List.getD_eq_getElem?_getD, List.getD_eq_getElem?_getD]
  by_cases hi : i < l.length
  · rw [List.getElem?_append_left hi]
  · rw [List.getElem?_append_right (by omega), List.getElem?_eq_none (by omega : l.length ≤ i), List.getElem?_replicate]
    split <;> rfl
theorem macB_pad (l : List UInt8) (j : Nat) (text : ByteArray) : macB (l ++ List.replicate j 0) text = macB l text := by
  unfold macB maskB
  rw [keyAt_pad]
/-- HMAC's key: short ones as they are, long ones by their sum. -/
def macK (key text : ByteArray) : List UInt8 := if key.size ≤ 64 then macB key.data.toList text else macB (sha key) text
theorem macK_len (key text : ByteArray) : (macK key text).length = 32 := by
  unfold macK
  split <;> exact mac_len _ _
theorem mac_any (key text : ByteArray) (w : World) (hK : GK w) (hk : key.size ≤ 140737488351232) (ht : text.size ≤ 140737488351300) :
    Calls Tryd.prog 19 #[.string key, .string text] w fun e w' => e = .returned (.string ⟨(macK key text).toArray⟩) ∧ Below w.heap.size w w' := by
  by_cases h : key.size ≤ 64
  · rw [macK, if_pos h]; exact mac_short key text w hK h (by omega)
  · rw [macK, if_neg h]; exact mac_long key text w hK (by omega) (by omega) (by omega)
theorem refMac_any (key text : ByteArray) (w : World) (hk : key.size ≤ 140737488351232) (ht : text.size ≤ 140737488351300) :
    Calls Tryd.prog 20 #[.string key, .string text] w fun e w' => e = .returned (.string ⟨(macK key text).toArray⟩) ∧ Below w.heap.size w w' := by
  by_cases h : key.size ≤ 64
  · rw [macK, if_pos h]; exact refMac_short key text w h (by omega)
  · rw [macK, if_neg h]; exact refMac_long key text w (by omega) (by omega) (by omega)
/-- The pieces, and all of them. -/
def dT (p info : ByteArray) : Nat → ByteArray
  | 0 => ⟨#[]⟩
  | i + 1 => ⟨(macK p (dT p info i ++ info ++ ⟨#[UInt8.ofNat (i + 1)]⟩)).toArray⟩
def dAll (p info : ByteArray) : Nat → List UInt8
  | 0 => []
  | i + 1 => dAll p info i ++ (dT p info (i + 1)).data.toList
theorem dT_size (p info : ByteArray) : ∀ i, (dT p info i).size ≤ 32
  | 0 => Nat.zero_le _
  | i + 1 => by rw [dT, mk_size, macK_len]; exact Nat.le_refl _
theorem dT_size' (p info : ByteArray) (i : Nat) : (dT p info (i + 1)).size = 32 := by rw [dT, mk_size, macK_len]
theorem dAll_len (p info : ByteArray) : ∀ i, (dAll p info i).length = 32 * i
  | 0 => rfl
  | i + 1 => by
    have e : (dT p info (i + 1)).data.toList.length = (dT p info (i + 1)).size := by simp
    rw [dAll, List.length_append, dAll_len p info i, e, dT_size']
    omega
theorem dAll_take (p info : ByteArray) (n : Nat) : ∀ {i j : Nat}, n ≤ 32 * i → i ≤ j → (dAll p info j).take n = (dAll p info i).take n
  | i, 0, h, hij => by obtain rfl : i = 0 := by omega
                       rfl
  | i, j + 1, h, hij => by
    by_cases hc : i ≤ j
    · rw [dAll, List.take_append_of_le_length (by rw [dAll_len]; omega), dAll_take p info n h hc]
    · obtain rfl : i = j + 1 := by omega
      rfl
def deriveB (p info : ByteArray) (n : Nat) : List UInt8 := (dAll p info ((n + 31) / 32)).take n
theorem derive_take (p info : ByteArray) {m n : Nat} (h : m ≤ n) : (deriveB p info n).take m = deriveB p info m := by
  unfold deriveB
  rw [List.take_take, Nat.min_eq_left h]
  exact dAll_take p info m (by omega) (by omega)
theorem derive_len (p info : ByteArray) (n : Nat) : (deriveB p info n).length = n := by
  unfold deriveB
  rw [List.length_take, dAll_len]
  omega
def pOf (salt key : ByteArray) : ByteArray := ⟨(macK salt key).toArray⟩
theorem one_conv (c : UInt8) (x : Int) (hx : x = (c.toNat : Int)) (W : World) : (convert 32 9 (.slice (some ⟨W.heap.size, 0, none⟩) 1 1)).run Tryd.prog (W.alloc (.cells #[.int .u8 x] 5)) = .ok (.string ⟨#[c]⟩) (W.alloc (.cells #[.int .u8 x] 5)) := by
  subst hx
  refine run_convert_bytes_back (W.alloc (.cells #[.int .u8 (c.toNat : Int)] 5)) 32 9 5 ⟨W.heap.size, 0, none⟩ 1 [c] Tryd.underlying32 Tryd.underlying5 Tryd.underlying9 (fun j hj => ?_)
  match j, hj with
  | 0, _ => exact new_cells W (cellsOf [c]) 5 0 _ rfl
theorem conv_first {W : World} {base g cap n : Nat} {cur : List UInt8} (h : W.ownsRow base 5 1 (.slice (some ⟨g, 0, none⟩) cur.length cap) cur.length (cellsOf cur)) (hn : n ≤ cur.length) (c2 : Nat) :
    (convert 32 9 (.slice (some ⟨g, 0, none⟩) n c2)).run Tryd.prog W = .ok (.string ⟨(cur.take n).toArray⟩) W := by
  have hl : (cur.take n).length = n := by rw [List.length_take]; omega
  have := run_convert_bytes_back W 32 9 5 ⟨g, 0, none⟩ c2 (cur.take n) Tryd.underlying32 Tryd.underlying5 Tryd.underlying9 (fun j hj => by
    rw [hl] at hj
    exact h.cells rfl j _ (by simp [cellsOf, List.getElem_take, show j < cur.length by omega]))
  rw [hl] at this
  exact this
set_option maxRecDepth 20000 in
set_option maxHeartbeats 4000000 in
theorem derive_any (key salt info : ByteArray) (n : Nat) (w : World) (hK : GK w) (hn : n ≤ 8160) (hk : key.size ≤ 140737488351232) (hs : salt.size ≤ 140737488351232) (hi : info.size ≤ 140737488351232) :
    Calls Tryd.prog 10 #[.string key, .string salt, .string info, .int .i64 n] w fun e w' => e = .returned (.tuple #[.string ⟨(deriveB (pOf salt key) info n).toArray⟩, .bool true]) ∧ Below w.heap.size w w' := by
  obtain ⟨i0, hi5, hz0, hz1, hz2⟩ := info_parts info5
  have HK : Hid (GK w) := hK
  clear hK
  obtain ⟨p, hp⟩ : ∃ p : ByteArray, p = pOf salt key := ⟨_, rfl⟩
  have hps : p.size = 32 := by rw [hp, pOf, mk_size, macK_len]
  have HP0 : Hid (Calls Tryd.prog 19 #[.string salt, .string key] w fun e w' => e = .returned (.string p) ∧ Below w.heap.size w w') := by
    rw [Hid, hp]; exact mac_any salt key w HK.out hs (by omega)
  rw [← hp]
  clear hp
  go_enter Tryd.func10, Tryd.ntmps10
  go_wp2_with fail
  refine HP0.out.mono ?_
  rintro e0 w0 ⟨rfl, B0⟩
  go_wp2_with fail
  go_loopw [11, 12, 13] (fun v t i wr => ∃ (j : Nat) (cur : List UInt8) (tt : ByteArray), t = .string tt ∧ i = .int .i64 ((j + 1 : Nat) : Int) ∧ Hid (tt = dT p info j) ∧ Hid (cur = dAll p info j) ∧ Hid (cur.length = 32 * j) ∧ Hid (32 * j < n + 32) ∧ tt.size ≤ 32 ∧ wr.ownsRow w.heap.size 5 1 v cur.length (cellsOf cur) ∧ Below w.heap.size w wr) (fun _ _ i _ => 400 - (intOf i).toNat)
  case atStart => exact ⟨0, [], ⟨#[]⟩, rfl, rfl, rfl, rfl, rfl, by rw [Hid]; omega, by decide, World.ownsRow_nil _ _ _ _, B0⟩
  case round =>
    clear B0 HP0
    obtain ⟨j, cur, tt, rfl, rfl, HTT, HC, HL, HJ, hts, hown, hb⟩ := hrel
    have hsz := hb.size
    by_cases hlt : cur.length < n
    · obtain ⟨a, cap, rfl⟩ := form_of_row hown
      obtain ⟨x, hx⟩ : ∃ x, j + 1 = x := ⟨_, rfl⟩
      rw [hx]
      have hx2 : x ≤ 255 := by have := HL.out; omega
      have hx3 : IntKind.u8.wrap (x : Int) = (x : Int) := by rw [IntKind.wrap_u8]; omega
      obtain ⟨c, hc⟩ : ∃ c, UInt8.ofNat x = c := ⟨_, rfl⟩
      have hcx : (x : Int) = (c.toNat : Int) := by rw [← hc, UInt8.toNat_ofNat', Nat.mod_eq_of_lt (by omega)]
      have hcv := fun W => one_conv c (x : Int) hcx W
      obtain ⟨t2, ht2⟩ : ∃ t2 : ByteArray, t2 = dT p info (j + 1) := ⟨_, rfl⟩
      have ht2s : t2.size = 32 := by rw [ht2, dT_size']
      have HP1 : Hid (∀ W : World, GK W → Calls Tryd.prog 19 #[.string p, .string (tt ++ info ++ ⟨#[c]⟩)] W fun e W' => e = .returned (.string t2) ∧ Below W.heap.size W W') := by
        rw [Hid, ht2, dT, hx, hc, ← HTT.out]
        exact fun W hW => mac_any p _ W hW (by omega) (by simp only [ByteArray.size_append]; show tt.size + info.size + 1 ≤ _; omega)
      have HC2 : Hid (cur ++ t2.data.toList = dAll p info (j + 1)) := by rw [Hid, dAll, ← ht2, HC.out]
      have HT2 : Hid _ := ht2
      have HX : Hid _ := hx
      have hc1s : (⟨#[c]⟩ : ByteArray).size = 1 := rfl
      clear ht2 hx hc hcx
      go_wp2_with fail
      refine (HP1.out _ (HK.out.below (hb.alloc hsz _))).mono ?_
      rintro e1 w1 ⟨rfl, B1⟩
      have hb1 : Below w.heap.size w w1 := (hb.alloc hsz _).trans (B1.mono (by simp; omega))
      have r1 := row_below (hown.alloc _) B1
      have hsz1 := hb1.size
      clear hown B1 hb hsz hcv HP1
      go_wp2_with (at_builtin; refine Lib.wpList_append_own_string _ rfl (.tmp 39) (.tmp 40) 32 9 rfl w.heap.size 5 i0 Tryd.underlying32 Tryd.underlying9 hi5 hz0 hz1 hz2 _ _ _ rfl r1 t2 rfl ?c3 ?c4 hsz1 ?_)
      case c3 => unfold maxLen; omega
      case c4 => omega
      intro v4 w4 hown4 hgrow4 _
      have HR : Hid (w4.ownsRow w.heap.size 5 1 v4 (cur ++ t2.data.toList).length (cellsOf (cur ++ t2.data.toList))) := by
        rw [Hid, cellsOf_append, List.length_append, show t2.data.toList.length = 32 by rw [← ht2s]; simp]; exact hown4
      have HB : Hid (Below w.heap.size w w4) := hb1.grown hgrow4 hsz1 (fun i hi => (r1.lt i hi).1)
      have HLn : Hid ((cur ++ t2.data.toList).length = 32 * (j + 1)) := by rw [Hid, HC2.out, dAll_len]
      obtain ⟨a4, cap4, rfl⟩ := form_of_row hown4
      clear hown4 hgrow4 r1 hb1
      go_wp2_with fail
      go_roundw
      case rel => exact ⟨j + 1, cur ++ t2.data.toList, t2, rfl, val_int (by have := HX.out; omega), HT2.out, HC2.out, HLn.out, by have := HL.out; rw [Hid]; omega, by omega, by first | exact HR.out | (have := HR.out; rw [ht2s] at this; exact this), HB.out⟩
      case measure => have := HX.out; simp [intOf]; omega
    · have HD : Hid (deriveB p info n = cur.take n) := by
        have h1 := HL.out
        have h2 := HJ.out
        rw [Hid, deriveB, show (n + 31) / 32 = j by omega, HC.out]
      have hjx : j + 1 ≤ 256 := by have := HJ.out; omega
      have hown2 := hown
      rcases hown.2 with ⟨rfl, h0⟩ | ⟨g, cap, cu, rfl, _⟩
      · obtain rfl : n = 0 := by omega
        have hc : (convert 32 9 (.slice none 0 0)).run Tryd.prog wr = .ok (.string ⟨#[]⟩) wr := conv_row (W := wr) (base := 0) (bs := []) (World.ownsRow_nil _ _ _ _)
        have HD2 : Hid (deriveB p info 0 = []) := rfl
        clear hown hown2
        go_wp2_with fail
        go_ret2
        exact ⟨by rw [HD2.out]; rfl, hb⟩
      · have hle : n ≤ cur.length := by omega
        have hcf := fun c2 => conv_first hown2 hle c2
        have hcapl : cur.length ≤ cap := by
          rcases hown2.2 with ⟨e, _⟩ | ⟨g', cap', cu', e, _, _, hh, _⟩
          · cases e
          · simp only [Value.slice.injEq] at e
            obtain ⟨_, _, rfl⟩ := e
            exact hh
        clear hown hown2
        go_wp2_with fail
        go_ret2
        exact ⟨by rw [HD.out]; rfl, hb⟩
theorem derive_no (key salt info : ByteArray) (n : Int) (w : World) (hn : n < 0 ∨ 8160 < n) :
    Calls Tryd.prog 10 #[.string key, .string salt, .string info, .int .i64 n] w fun e w' => e = .returned (.tuple #[.string ⟨#[]⟩, .bool false]) ∧ w' = w := by
  by_cases h : n < 0
  · go_enter Tryd.func10, Tryd.ntmps10
    go_wp2_with fail
    go_ret2
    exact ⟨rfl, rfl⟩
  · have h2 : 8160 < n := by omega
    go_enter Tryd.func10, Tryd.ntmps10
    go_wp2_with fail
    go_ret2
    exact ⟨rfl, rfl⟩
theorem refDerive_no (key salt info : ByteArray) (n : Int) (w : World) (hn : n < 0 ∨ 8160 < n) :
    Calls Tryd.prog 11 #[.string key, .string salt, .string info, .int .i64 n] w fun e w' => e = .returned (.tuple #[.string ⟨#[]⟩, .bool false]) ∧ w' = w := by
  by_cases h : n < 0
  · go_enter Tryd.func11, Tryd.ntmps11
    go_wp2_with fail
    go_ret2
    exact ⟨rfl, rfl⟩
  · have h2 : 8160 < n := by omega
    go_enter Tryd.func11, Tryd.ntmps11
    go_wp2_with fail
    go_ret2
    exact ⟨rfl, rfl⟩
theorem pOf_zero (key : ByteArray) : pOf ⟨(List.replicate 32 (0 : UInt8)).toArray⟩ key = pOf ⟨#[]⟩ key := by
  unfold pOf macK
  rw [if_pos (by rw [mk_size]; decide), if_pos (by decide)]
  exact congrArg (fun l => (⟨l.toArray⟩ : ByteArray)) (macB_pad [] 32 key)
end Go.Proofs.YtcpbofjpfapegabDoor
