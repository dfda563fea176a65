/-
  Small letters: the contracts of both Lowers.
-/
import Derived.Test.YtedibkcempcpnaaDoorTCls
import Derived.BigRegion
import Derived.Laws.IdiomStrings
namespace Go.Proofs.YtedibkcempcpnaaDoor.T
open Go.RowKit
/-- A row of bytes that may be written. -/
structure BRow (w : World) (g : Nat) (xs : List UInt8) : Prop where
  cell : ∀ (j : Nat) (c : UInt8), xs[j]? = some c → w.cell? ⟨g, j, none⟩ = some (.int .u8 (c.toNat : Int))
  free : ∀ (j : Nat), j < xs.length → w.frozen? ⟨g, j, none⟩ = false
theorem cell_of_block' {w : World} {b : Nat} {c : Array Value} {t : TypeId} {f : Nat × Nat} (h : w.heap[b]? = some (.cells c t f)) {o : Nat} {v : Value} (hv : c[o]? = some v) : w.cell? ⟨b, o, none⟩ = some v := by simp [World.cell?, h, hv]
theorem free_of_block' {w : World} {b : Nat} {c : Array Value} {t : TypeId} {f g : Nat} (h : w.heap[b]? = some (.cells c t (f, g))) {o : Nat} (ho : o < f) : w.frozen? ⟨b, o, none⟩ = false := by simp [World.frozen?, h]; omega
theorem BRow.start (w : World) (s : ByteArray) (cap : Nat) : BRow (w.alloc (.cells (bytesRow s cap) 5 ((bytesRow s cap).size, (bytesRow s cap).size + 1))).drew w.heap.size s.data.toList := by
  have hz : s.data.size = s.size := rfl
  have hlen : s.data.toList.length ≤ (bytesRow s cap).size := by simp [bytesRow]
  have hb : (w.alloc (.cells (bytesRow s cap) 5 ((bytesRow s cap).size, (bytesRow s cap).size + 1))).drew.heap[w.heap.size]? = some (.cells (bytesRow s cap) 5 ((bytesRow s cap).size, (bytesRow s cap).size + 1)) := block_alloc_at _ _
  refine ⟨fun j c hj => ?_, fun j hj => ?_⟩
  · have hjl : j < s.data.size := by
      have := (List.getElem?_eq_some_iff.1 hj).1
      simpa using this
    have e : (bytesRow s cap)[j]? = some (.int .u8 (c.toNat : Int)) := by
      rw [bytesRow, Array.getElem?_append_left (by simpa using hjl)]
      simp at hj
      simp [hj]
    exact cell_of_block' hb e
  · exact free_of_block' hb (by omega)
theorem BRow.set {w : World} {g : Nat} {xs : List UInt8} (h : BRow w g xs) {j : Nat} (hj : j < xs.length) (c : UInt8) {u : Int} (hu : u = (c.toNat : Int)) : BRow (w.setCell ⟨g, j, none⟩ (.int .u8 u)) g (xs.set j c) := by
  subst hu
  obtain ⟨c0, hc0⟩ : ∃ c0, xs[j]? = some c0 := ⟨xs[j], List.getElem?_eq_getElem hj⟩
  have hcell := h.cell j c0 hc0
  refine ⟨fun i d hd => ?_, fun i hi => ?_⟩
  · by_cases e : i = j
    · subst e
      rw [List.getElem?_set_self hj] at hd
      cases hd
      exact World.cell?_setCell_same _ _ _ hcell
    · rw [List.getElem?_set_ne (by omega)] at hd
      rw [World.cell?_setCell_other _ _ _ _ (by intro q; cases q; exact e rfl)]
      exact h.cell i d hd
  · rw [World.frozen?_setCell]
    exact h.free i (by simpa using hi)
theorem BRow.drew {w : World} {g : Nat} {xs : List UInt8} (h : BRow w g xs) : BRow w.drew g xs := ⟨h.cell, h.free⟩
theorem BRow.drewN {w : World} {g : Nat} {xs : List UInt8} (h : BRow w g xs) (n : Nat) : BRow (w.drewN n) g xs := ⟨h.cell, h.free⟩
theorem BRow.conv {w : World} {g : Nat} {xs : List UInt8} (h : BRow w g xs) {n : Nat} (hn : n = xs.length) (cap : Nat) : (convert 37 9 (.slice (some ⟨g, 0, none⟩) n cap)).run Tryd.prog w = .ok (.string ⟨xs.toArray⟩) w := by
  subst hn
  refine run_convert_bytes_back w 37 9 5 _ _ xs Tryd.underlying37 Tryd.underlying5 Tryd.underlying9 (fun j hj => ?_)
  have := h.cell j xs[j] (List.getElem?_eq_getElem hj)
  rw [add_off, Nat.zero_add]
  exact this
/-- A byte in small letters. -/
def lowC (c : UInt8) : UInt8 := if isGr c.toNat = true then UInt8.ofNat (c.toNat + 32) else c
/-- The first k bytes in small letters, the others as they are. -/
def lowK (l : List UInt8) (k : Nat) : List UInt8 := (l.take k).map lowC ++ l.drop k
theorem lowK_len (l : List UInt8) (k : Nat) : (lowK l k).length = l.length := by simp [lowK]; omega
theorem lowK_zero (l : List UInt8) : lowK l 0 = l := by simp [lowK]
theorem lowK_all (l : List UInt8) : lowK l l.length = l.map lowC := by simp [lowK]
theorem lowK_get {l : List UInt8} {k : Nat} {c : UInt8} (h : l[k]? = some c) : (lowK l k)[k]? = some c := by
  have hk := (List.getElem?_eq_some_iff.1 h).1
  have e : k - ((l.take k).map lowC).length = 0 := by simp; omega
  rw [lowK, List.getElem?_append_right (by simp; omega), e, List.getElem?_drop, Nat.add_zero]
  exact h
theorem lowK_succ {l : List UInt8} {k : Nat} {c : UInt8} (h : l[k]? = some c) : lowK l (k + 1) = (lowK l k).set k (lowC c) := by
  obtain ⟨hk, hc⟩ := List.getElem?_eq_some_iff.1 h
  have hlen : ((l.take k).map lowC).length = k := by simp; omega
  rw [lowK, lowK, List.set_append_right _ _ (by omega), hlen, Nat.sub_self, List.take_add_one, h, List.map_append, List.append_assoc, List.drop_eq_getElem_cons hk, hc]
  rfl
theorem lowK_same {l : List UInt8} {k : Nat} {c : UInt8} (h : l[k]? = some c) (hn : isGr c.toNat = false) : lowK l (k + 1) = lowK l k := by
  rw [lowK_succ h, show lowC c = c by simp [lowC, hn]]
  obtain ⟨hk, hc⟩ := List.getElem?_eq_some_iff.1 (lowK_get h)
  conv => lhs; rw [← hc]
  exact List.set_getElem_self hk
set_option maxRecDepth 20000 in
set_option maxHeartbeats 4000000 in
theorem lower_any (s : ByteArray) (hs : s.size ≤ 140737488355328) (w : World) : Calls Tryd.prog 32 #[.string s] w fun e w' => e = .returned (.string ⟨(s.data.toList.map lowC).toArray⟩) ∧ Below w.heap.size w w' := by
  have hcv := fun w => run_bytes_of_string (P := Tryd.prog) w 9 37 5 s Tryd.underlying9 Tryd.underlying37 Tryd.underlying5
  have HLEN : Hid (s.data.toList.length = s.size) := by rw [Hid]; simp
  have HST : Hid (∀ cap, BRow (w.alloc (.cells (bytesRow s cap) 5 ((bytesRow s cap).size, (bytesRow s cap).size + 1))).drew w.heap.size s.data.toList) := fun cap => BRow.start w s cap
  obtain ⟨l, hl⟩ : ∃ l, s.data.toList = l := ⟨_, rfl⟩
  rw [hl] at HLEN HST ⊢
  clear hl
  go_enter Tryd.func32, Tryd.ntmps32
  go_wp2_with fail
  generalize grownCap w s.size 0 5 = cap at *
  clear hcv
  go_loopw [10] (fun i wr => ∃ k : Nat, k ≤ s.size ∧ i = .int .i64 k ∧ Hid (BRow wr w.heap.size (lowK l k)) ∧ Below w.heap.size w wr) (fun i _ => s.size - (intOf i).toNat)
  case atStart => exact ⟨0, by omega, rfl, by rw [Hid, lowK_zero]; exact HST.out cap, ((Below.refl _ w).alloc (Nat.le_refl _) _).drew⟩
  case round =>
    obtain ⟨k, hk, rfl, HR, hbel⟩ := hrel
    by_cases hlt0 : k < s.size
    · have hlt : k < l.length := by rw [HLEN.out]; exact hlt0
      obtain ⟨c, hc⟩ : ∃ c, l[k]? = some c := ⟨l[k], List.getElem?_eq_getElem hlt⟩
      have hc0 := HR.out.cell k c (lowK_get hc)
      have hf0 := HR.out.free k (by rw [lowK_len]; exact hlt)
      have hkz : (k : Int) < (s.size : Int) := by omega
      have hcl := c.toNat_lt
      cases hg : isGr c.toNat with
      | true =>
        have hlo : 65 ≤ c.toNat ∧ c.toNat ≤ 90 := by simpa [isGr] using hg
        obtain ⟨y, hy⟩ : ∃ y, c.toNat = y := ⟨_, rfl⟩
        have HR2 : Hid (BRow (wr.setCell ⟨w.heap.size, k, none⟩ (.int .u8 ((y : Int) + 32))) w.heap.size (lowK l (k + 1))) := by
          rw [Hid, lowK_succ hc]
          exact HR.out.set (by rw [lowK_len]; exact hlt) (lowC c) (by simp only [lowC, hg, if_true]; rw [UInt8.toNat_ofNat', Nat.mod_eq_of_lt (by omega)]; omega)
        have HI : Hid (∀ W : World, _) := fun W => isGreat_any c.toNat W
        rw [hg, hy] at HI
        rw [hy] at hc0 hlo
        have k1 : (65 : Int) ≤ (y : Int) := by omega
        have k2 : (y : Int) ≤ 90 := by omega
        have e1 : (y : Int) - 65 + 97 = (y : Int) + 32 := by omega
        clear hc hg hlo hcl hy
        go_wp2_with (go_at_call 53; refine (HI.out _).mono ?_; rintro e w' ⟨rfl, rfl⟩)
        go_roundw
        case rel => exact ⟨k + 1, by omega, by go_num, by first | exact HR2.out | (rw [e1]; exact HR2.out), hbel.setCell (Nat.le_refl _) _⟩
        case measure => simp [intOf]; omega
      | false =>
        have HI : Hid (∀ W : World, _) := fun W => isGreat_any c.toNat W
        rw [hg] at HI
        have HR2 : Hid (BRow wr w.heap.size (lowK l (k + 1))) := by rw [Hid, lowK_same hc hg]; exact HR.out
        obtain ⟨y, hy⟩ : ∃ y, c.toNat = y := ⟨_, rfl⟩
        rw [hy] at HI hc0
        clear hc hg hcl hy
        go_wp2_with (go_at_call 53; refine (HI.out _).mono ?_; rintro e w' ⟨rfl, rfl⟩)
        go_roundw
        case rel => exact ⟨k + 1, by omega, by go_num, HR2.out, hbel⟩
        case measure => simp [intOf]; omega
    · obtain rfl : k = s.size := by omega
      have hR2 := HR.out
      rw [← HLEN.out, lowK_all] at hR2
      have hcv2 := hR2.conv (n := s.size) (by rw [List.length_map, HLEN.out]) cap
      go_wp2_with fail
      go_ret
      exact ⟨rfl, hbel⟩
set_option maxRecDepth 20000 in
set_option maxHeartbeats 4000000 in
theorem rlower_any (s : ByteArray) (hs : s.size ≤ 140737488355328) (w : World) : Calls Tryd.prog 33 #[.string s] w fun e w' => e = .returned (.string ⟨(s.data.toList.map lowC).toArray⟩) ∧ Below w.heap.size w w' := by
  have hcv := fun w => run_bytes_of_string (P := Tryd.prog) w 9 37 5 s Tryd.underlying9 Tryd.underlying37 Tryd.underlying5
  have HLEN : Hid (s.data.toList.length = s.size) := by rw [Hid]; simp
  have HST : Hid (∀ cap, BRow (w.alloc (.cells (bytesRow s cap) 5 ((bytesRow s cap).size, (bytesRow s cap).size + 1))).drew w.heap.size s.data.toList) := fun cap => BRow.start w s cap
  obtain ⟨l, hl⟩ : ∃ l, s.data.toList = l := ⟨_, rfl⟩
  rw [hl] at HLEN HST ⊢
  clear hl
  go_enter Tryd.func33, Tryd.ntmps33
  go_wp2_with fail
  generalize grownCap w s.size 0 5 = cap at *
  clear hcv
  go_loopw [4] (fun i wr => ∃ k : Nat, k ≤ s.size ∧ i = .int .i64 k ∧ Hid (BRow wr w.heap.size (lowK l k)) ∧ Below w.heap.size w wr) (fun i _ => s.size - (intOf i).toNat)
  case atStart => exact ⟨0, by omega, rfl, by rw [Hid, lowK_zero]; exact HST.out cap, ((Below.refl _ w).alloc (Nat.le_refl _) _).drew⟩
  case round =>
    obtain ⟨k, hk, rfl, HR, hbel⟩ := hrel
    by_cases hlt0 : k < s.size
    · have hlt : k < l.length := by rw [HLEN.out]; exact hlt0
      obtain ⟨c, hc⟩ : ∃ c, l[k]? = some c := ⟨l[k], List.getElem?_eq_getElem hlt⟩
      have hc0 := HR.out.cell k c (lowK_get hc)
      have hf0 := HR.out.free k (by rw [lowK_len]; exact hlt)
      have hkz : (k : Int) < (s.size : Int) := by omega
      have hcl := c.toNat_lt
      cases hg : isGr c.toNat with
      | true =>
        have hlo : 65 ≤ c.toNat ∧ c.toNat ≤ 90 := by simpa [isGr] using hg
        obtain ⟨y, hy⟩ : ∃ y, c.toNat = y := ⟨_, rfl⟩
        have HR2 : Hid (BRow (wr.setCell ⟨w.heap.size, k, none⟩ (.int .u8 ((y : Int) + 32))) w.heap.size (lowK l (k + 1))) := by
          rw [Hid, lowK_succ hc]
          exact HR.out.set (by rw [lowK_len]; exact hlt) (lowC c) (by simp only [lowC, hg, if_true]; rw [UInt8.toNat_ofNat', Nat.mod_eq_of_lt (by omega)]; omega)
        rw [hy] at hc0 hlo
        have k1 : (65 : Int) ≤ (y : Int) := by omega
        have k2 : (y : Int) ≤ 90 := by omega
        clear hc hg hlo hcl hy
        go_wp2_with fail
        go_roundw
        case rel => exact ⟨k + 1, by omega, by go_num, HR2.out, hbel.setCell (Nat.le_refl _) _⟩
        case measure => simp [intOf]; omega
      | false =>
        have HR2 : Hid (BRow wr w.heap.size (lowK l (k + 1))) := by rw [Hid, lowK_same hc hg]; exact HR.out
        have hlo : c.toNat < 65 ∨ 90 < c.toNat := by simp [isGr] at hg; omega
        obtain ⟨y, hy⟩ : ∃ y, c.toNat = y := ⟨_, rfl⟩
        rw [hy] at hc0 hlo
        have hlo2 : ¬ (65 : Int) ≤ (y : Int) ∨ (65 : Int) ≤ (y : Int) ∧ ¬ (y : Int) ≤ 90 := by omega
        clear hc hg hcl hy hlo
        rcases hlo2 with k1 | ⟨k1, k2⟩
        all_goals
          go_wp2_with fail
          go_roundw
          case rel => exact ⟨k + 1, by omega, by go_num, HR2.out, hbel⟩
          case measure => simp [intOf]; omega
    · obtain rfl : k = s.size := by omega
      have hR2 := HR.out
      rw [← HLEN.out, lowK_all] at hR2
      have hcv2 := hR2.conv (n := s.size) (by rw [List.length_map, HLEN.out]) cap
      go_wp2_with fail
      go_ret
      exact ⟨rfl, hbel⟩
end Go.Proofs.YtedibkcempcpnaaDoor.T
