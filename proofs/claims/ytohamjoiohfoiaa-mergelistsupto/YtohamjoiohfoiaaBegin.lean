/-
  The heads of all lists that are not empty, as a heap.
-/
import Derived.Test.YtohamjoiohfoiaaHtake
import Derived.Test.YtohamjoiohfoiaaLists
namespace Go.Proofs.Ytohamjoiohfoiaa
open Go.RowKit
def pushL (hs : List Hd) (x : Hd) : List Hd := upL (hs ++ [x]) hs.length
theorem upL_all {P : Hd → Prop} : ∀ (m : Nat) (hs : List Hd) (j : Nat), j ≤ m → (∀ a ∈ hs, P a) → ∀ a ∈ upL hs j, P a
  | 0, hs, j, h, hp => by
    obtain rfl : j = 0 := by omega
    rw [upL_zero]
    exact hp
  | m + 1, hs, j, h, hp => by
    rw [upL]
    split
    · exact hp
    · split
      · rename_i x y hx hy
        split
        · exact upL_all m _ _ (by omega) (swapL_all hp hx hy)
        · exact hp
      · exact hp
theorem upL_length : ∀ (m : Nat) (hs : List Hd) (j : Nat), j ≤ m → (upL hs j).length = hs.length
  | 0, hs, j, h => by
    obtain rfl : j = 0 := by omega
    rw [upL_zero]
  | m + 1, hs, j, h => by
    rw [upL]
    split
    · rfl
    · split
      · split
        · rw [upL_length m _ _ (by omega), swapL_length]
        · rfl
      · rfl
theorem pushL_length (hs : List Hd) (x : Hd) : (pushL hs x).length = hs.length + 1 := by
  rw [pushL, upL_length _ _ _ (Nat.le_refl _)]
  simp
theorem pushL_all {P : Hd → Prop} {hs : List Hd} {x : Hd} (h : ∀ a ∈ hs, P a) (hx : P x) : ∀ a ∈ pushL hs x, P a :=
  upL_all _ _ _ (Nat.le_refl _) (fun a ha => by
    rcases List.mem_append.1 ha with ha | ha
    · exact h a ha
    · rw [List.mem_singleton] at ha; rw [ha]; exact hx)
/-- A list's head. -/
def headOf (s : Sl) (i : Nat) : Hd := match s.a with
  | some ad => ⟨ad.block, ad.off, s.c, s.cs, i⟩
  | none => ⟨0, 0, s.c, s.cs, i⟩
theorem headOf_cs (s : Sl) (i : Nat) : (headOf s i).cs = s.cs := by unfold headOf; split <;> rfl
/-- The heap of the first k lists' heads. -/
def beginK (ls : List Sl) : Nat → List Hd
  | 0 => []
  | k + 1 => match ls[k]? with
    | some s => if s.cs.length = 0 then beginK ls k else pushL (beginK ls k) (headOf s k)
    | none => beginK ls k
theorem beginK_len (ls : List Sl) : ∀ k, (beginK ls k).length ≤ k
  | 0 => Nat.le_refl _
  | k + 1 => by
    have ih := beginK_len ls k
    rw [beginK]
    split
    · split
      · omega
      · rw [pushL_length]; omega
    · omega
theorem beginK_ne (ls : List Sl) : ∀ k, ∀ h ∈ beginK ls k, 0 < h.cs.length
  | 0 => fun h hh => by simp [beginK] at hh
  | k + 1 => by
    have ih := beginK_ne ls k
    rw [beginK]
    split
    · split
      · exact ih
      · rename_i hn
        exact pushL_all ih (by rw [headOf_cs]; omega)
    · exact ih
theorem HAt.start {z : Nat} {W : World} (hz : z ≤ W.heap.size) : HAt z ((W.alloc (.cells #[] 72)).alloc (.cells #[.slice (some ⟨W.heap.size, 0, none⟩) 0 0] 69)) (W.heap.size + 1) [] := by
  have h1 := World.alloc_heap_new (W.alloc (.cells #[] 72)) (.cells #[.slice (some ⟨W.heap.size, 0, none⟩) 0 0] 69)
  rw [World.size_alloc] at h1
  exact ⟨⟨W.heap.size, 0, h1, World.ownsRow.alloc (World.ownsRow_made W #[] 0 hz (by decide) rfl) _⟩, by omega, fun h hh => by simp at hh⟩
theorem LA.keep {B : Nat} {w w' : World} {a : Option Addr} {ls : List Sl} (h : LA B w a ls) (k : ∀ (b : Nat) o, b < B → w.heap[b]? = some o → w'.heap[b]? = some o) (hB : B ≤ w.heap.size) : LA B w' a ls :=
  h.below (fun b hb => by
    have hlt : b < w.heap.size := by omega
    rw [Array.getElem?_eq_getElem hlt, k b _ hb (Array.getElem?_eq_getElem hlt)])
set_option maxRecDepth 100000 in
set_option maxHeartbeats 4000000 in
theorem begin_any (z n c : Nat) (a : Option Addr) (ls : List Sl) (w : World) (h : LA z w a ls) (hl : ls.length = n) (hz : z ≤ w.heap.size) (hn : n < 800000) :
    Calls Try.prog 35 #[.slice a n c] w fun r w' => ∃ p, r = .returned (.pointer (some ⟨p, 0, none⟩)) ∧ w.heap.size ≤ p ∧ HAt z w' p (beginK ls n) ∧ Kh z p w w' := by
  have HC : Hid _ := h
  have HL : Hid _ := hl
  have h0 := HAt.start hz
  have k0 : Kh z (w.heap.size + 1) w ((w.alloc (.cells #[] 72)).alloc (.cells #[.slice (some ⟨w.heap.size, 0, none⟩) 0 0] 69)) := Kh.of_below (((Below.refl _ w).alloc (Nat.le_refl _) _).alloc (by simp) _)
  have HH0 : Hid _ := h0
  have HK0 : Hid _ := k0
  obtain ⟨p, hp⟩ : ∃ p, w.heap.size + 1 = p := ⟨_, rfl⟩
  rw [hp] at HH0 HK0
  have HP : Hid (w.heap.size ≤ p) := by rw [Hid]; omega
  clear h hl h0 k0
  go_enter Try.func35, Try.ntmps35
  go_wp2_with fail
  clear hp
  go_loopw [10] (fun i wr => ∃ (k : Nat), k ≤ n ∧ i = .int .i64 (k : Nat) ∧ Hid (HAt z wr p (beginK ls k)) ∧ Hid (Kh z p w wr)) (fun i _ => n - (intOf i).toNat)
  case atStart => exact ⟨0, by omega, rfl, HH0.out, HK0.out⟩
  case round =>
    clear HH0 HK0
    obtain ⟨k, hkn, rfl, HT, HK⟩ := hrel
    by_cases hlt : k < n
    · obtain ⟨s, hs⟩ : ∃ s, ls[k]? = some s := ⟨ls[k]'(by rw [HL.out]; exact hlt), List.getElem?_eq_getElem _⟩
      have HC2 : LA z wr a ls := LA.keep HC.out (fun b o hb ho => HK.out.block b o ho (Or.inl hb)) hz
      obtain ⟨⟨b, off, rfl, _, x0⟩, hca, hsc, hsn⟩ := HC2 k s hs
      rw [slV] at x0
      have hbk : beginK ls (k + 1) = if s.cs.length = 0 then beginK ls k else pushL (beginK ls k) (headOf s k) := by rw [beginK, hs]
      have hlz : (k : Int) < (n : Int) := by omega
      by_cases h0 : s.cs.length = 0
      · rw [if_pos h0] at hbk
        have HT2 : Hid (HAt z wr p (beginK ls (k + 1))) := by rw [Hid, hbk]; exact HT.out
        rw [h0] at x0
        clear hbk hca hsc hsn hs h0 HC2
        go_wp2_with fail
        go_roundw
        case rel => exact ⟨k + 1, by omega, by go_num, HT2.out, HK.out⟩
        case measure => simp [intOf]; omega
      · rw [if_neg h0] at hbk
        have hpos : 0 < s.cs.length := by omega
        obtain ⟨b2, off2, ha2, _⟩ := hca 0 _ (List.getElem?_eq_getElem hpos)
        have hhd : headOf s k = ⟨b2, off2, s.c, s.cs, k⟩ := by rw [headOf, ha2]
        have HPU : Hid (Calls Try.prog 44 #[.iface 61 (.pointer (some ⟨p, 0, none⟩)), .iface 72 (.agg #[.slice (some ⟨b2, off2, none⟩) s.cs.length s.c, .int .i64 (k : Nat)])] wr fun r W' => (∃ v, r = .returned v) ∧ HAt z W' p (beginK ls (k + 1)) ∧ Kh z p wr W') := by
          rw [Hid, hbk, hhd]
          exact push44_any z p (beginK ls k) ⟨b2, off2, s.c, s.cs, k⟩ wr HT.out (by have := beginK_len ls k; omega) ⟨by rw [ha2] at hca; exact hca, hsc⟩ (fun h hh => by
            rcases List.mem_append.1 hh with hh | hh
            · exact beginK_ne ls k h hh
            · rw [List.mem_singleton] at hh; rw [hh]; exact hpos)
        rw [ha2] at x0
        obtain ⟨sn, hsl⟩ : ∃ sn, s.cs.length = sn := ⟨_, rfl⟩
        obtain ⟨sc, hsc2⟩ : ∃ sc, s.c = sc := ⟨_, rfl⟩
        rw [hsl] at x0 HPU hpos
        rw [hsc2] at x0 HPU
        have hpz : (0 : Int) < (sn : Int) := by omega
        clear hbk hca hsc hsn hs h0 HC2 hhd ha2 HT hsl hsc2
        go_wp2_with fail
        refine Calls.mono HPU.out ?_
        rintro e w4 ⟨⟨v4, rfl⟩, h4, k4⟩
        have HH4 : Hid _ := h4
        have HK4 : Hid _ := k4
        clear h4 k4
        go_wp2_with fail
        go_roundw
        case rel => exact ⟨k + 1, by omega, by go_num, HH4.out, HK.out.trans HK4.out⟩
        case measure => simp [intOf]; omega
    · obtain rfl : k = n := by omega
      have hlz : ¬ (k : Int) < (k : Int) := by omega
      go_wp2_with fail
      go_ret
      exact ⟨p, rfl, HP.out, HT.out, HK.out⟩
end Go.Proofs.Ytohamjoiohfoiaa
