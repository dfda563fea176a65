/-
  The reader of replies: its state, and the contracts of fail, choose, line, bytes.
-/
import Derived.Test.YtdkbgbhcnbmlfaaDoorKps
namespace Go.Proofs.YtdkbgbhcnbmlfaaDoor
open Go.RowKit
def RIs (w : World) (b : Nat) (rest : ByteArray) (e : Int) : Prop := w.heap[b]? = some (.cells #[.string rest, .int .i64 e] 60 (0, 0))
theorem RIs.lt {w : World} {b : Nat} {rest : ByteArray} {e : Int} (h : RIs w b rest e) : b < w.heap.size := lt_of_block h
theorem RIs.c0 {w : World} {b : Nat} {rest : ByteArray} {e : Int} (h : RIs w b rest e) : w.cell? ⟨b, 0, none⟩ = some (.string rest) := cell_of_block h rfl
theorem RIs.c1 {w : World} {b : Nat} {rest : ByteArray} {e : Int} (h : RIs w b rest e) : w.cell? ⟨b, 1, none⟩ = some (.int .i64 e) := cell_of_block h rfl
theorem RIs.f0 {w : World} {b : Nat} {rest : ByteArray} {e : Int} (h : RIs w b rest e) : w.frozen? ⟨b, 0, none⟩ = false := free_of_block h 0
theorem RIs.f1 {w : World} {b : Nat} {rest : ByteArray} {e : Int} (h : RIs w b rest e) : w.frozen? ⟨b, 1, none⟩ = false := free_of_block h 1
theorem RIs.set0 {w : World} {b : Nat} {rest : ByteArray} {e : Int} (h : RIs w b rest e) (s : ByteArray) : RIs (w.setCell ⟨b, 0, none⟩ (.string s)) b s e := block_setCell h 0 _
theorem RIs.set1 {w : World} {b : Nat} {rest : ByteArray} {e : Int} (h : RIs w b rest e) (n : Int) : RIs (w.setCell ⟨b, 1, none⟩ (.int .i64 n)) b rest n := block_setCell h 1 _
theorem RIs.kept {w w' : World} {b : Nat} {rest : ByteArray} {e : Int} {S : Nat → Prop} (h : RIs w b rest e) (k : Keeps S w w') (hS : ¬ S b) : RIs w' b rest e := (k.block b h.lt hS).trans h
theorem RIs.below {w w' : World} {b : Nat} {rest : ByteArray} {e : Int} (h : RIs w b rest e) (k : Below w.heap.size w w') : RIs w' b rest e := (k.block b h.lt).trans h
def failR (e x : Int) : Int := if e = 0 then x else e
theorem fail_any (b : Nat) (s : ByteArray) (n m : Int) (w : World) (h : RIs w b s n) :
    Calls Tryd.prog 48 #[.pointer (some ⟨b, 0, none⟩), .int .i64 m] w fun e w' => e = .returned (.tuple #[]) ∧ RIs w' b s (failR n m) ∧ Keeps (fun k => k = b) w w' := by
  have h0 := h.c0; have h1 := h.c1; have f0 := h.f0; have f1 := h.f1
  by_cases hn : n = 0
  · have HR : Hid (failR n m = m) := by rw [Hid, failR, if_pos hn]
    subst hn
    go_enter Tryd.func48, Tryd.ntmps48
    go_wp2_with fail
    go_end0
    exact ⟨rfl, by rw [HR.out]; exact h.set1 m, (Keeps.refl (fun k => k = b) _).setCell (Or.inl rfl) _⟩
  · have HR : Hid (failR n m = n) := by rw [Hid, failR, if_neg hn]
    have q : (n == 0) = false := beq_eq_false_iff_ne.2 hn
    go_enter Tryd.func48, Tryd.ntmps48
    go_wp2_with fail
    go_end0
    exact ⟨rfl, by rw [HR.out]; exact h, Keeps.refl (fun k => k = b) _⟩
/-- Which of some texts comes. -/
def chsG (rest : List UInt8) (e : Int) : List ByteArray → Nat → Int → Nat × List UInt8 × Int
  | [], _, x => (0, rest, failR e x)
  | t :: ts, i, x => if Lib.hasPrefix rest t.data.toList = true then (i, Lib.trimPrefix rest t.data.toList, e) else chsG rest e ts (i + 1) (if Lib.hasPrefix t.data.toList rest = true then 20 else x)
def chs (l : List ByteArray) (rest : List UInt8) (e : Int) : Nat × List UInt8 × Int := chsG rest e l 0 180
theorem chsG_hit {rest : List UInt8} {e : Int} {l : List ByteArray} {k : Nat} {x : Int} {t : ByteArray} (h : l[k]? = some t) (hp : Lib.hasPrefix rest t.data.toList = true) (i : Nat) : chsG rest e (l.drop k) i x = (i, Lib.trimPrefix rest t.data.toList, e) := by
  obtain ⟨hk, rfl⟩ := List.getElem?_eq_some_iff.1 h
  rw [List.drop_eq_getElem_cons hk, chsG, if_pos hp]
theorem chsG_miss {rest : List UInt8} {e : Int} {l : List ByteArray} {k : Nat} {x : Int} {t : ByteArray} (h : l[k]? = some t) (hp : Lib.hasPrefix rest t.data.toList = false) (i : Nat) : chsG rest e (l.drop k) i x = chsG rest e (l.drop (k + 1)) (i + 1) (if Lib.hasPrefix t.data.toList rest = true then 20 else x) := by
  obtain ⟨hk, rfl⟩ := List.getElem?_eq_some_iff.1 h
  rw [List.drop_eq_getElem_cons hk, chsG, if_neg (by rw [hp]; decide)]
theorem chs_len (l : List ByteArray) (rest : List UInt8) (e : Int) : (chs l rest e).2.1.length ≤ rest.length := by
  unfold chs
  generalize (0 : Nat) = i
  generalize (180 : Int) = x
  induction l generalizing i x with
  | nil => exact Nat.le_refl _
  | cons t ts ih =>
    rw [chsG]
    split
    · show (Lib.trimPrefix rest t.data.toList).length ≤ _
      unfold Lib.trimPrefix
      split <;> simp
    · exact ih _ _
set_option maxRecDepth 20000 in
set_option maxHeartbeats 4000000 in
theorem choose_any (b : Nat) (S : ByteArray) (e : Int) (a : Option Addr) (c : Nat) (l : List ByteArray) (w : World) (h : RIs w b S e) (ht : TextsAt w a l) (hl : l.length ≤ 1000000) :
    Calls Tryd.prog 46 #[.pointer (some ⟨b, 0, none⟩), .slice a l.length c] w fun r w' => r = .returned (.int .i64 ((chs l S.data.toList e).1 : Nat)) ∧ RIs w' b (mkB (chs l S.data.toList e).2.1) (chs l S.data.toList e).2.2 ∧ Keeps (fun k => k = b) w w' := by
  have h0 := h.c0; have h1 := h.c1; have f0 := h.f0; have f1 := h.f1
  have HI : Hid (RIs w b S e) := h
  have HT : Hid (TextsAt w a l) := ht
  have HC : Hid (∀ (t : ByteArray) (W : World), _) := fun t W => Tryd.strings_CutPrefix S t W
  have HP : Hid (∀ (t : ByteArray) (W : World), _) := fun t W => Tryd.strings_HasPrefix t S W
  have HSL : Hid (mkB S.data.toList = S) := list_mkB S
  obtain ⟨R, hR⟩ : ∃ R, chs l S.data.toList e = R := ⟨_, rfl⟩
  have HR : Hid (chsG S.data.toList e (l.drop 0) 0 180 = R) := by rw [Hid, List.drop_zero]; exact hR
  rw [hR]
  obtain ⟨L, hL⟩ : ∃ L, S.data.toList = L := ⟨_, rfl⟩
  rw [hL] at HR HC HP HSL
  obtain ⟨n, hn⟩ : ∃ n, l.length = n := ⟨_, rfl⟩
  have HN : Hid _ := hn
  rw [hn] at hl ⊢
  clear hR hL hn h ht
  go_enter Tryd.func46, Tryd.ntmps46
  go_wp2_with fail
  go_loopw [12, 5] (fun i x wr => ∃ (k : Nat) (y : Int), k ≤ n ∧ i = .int .i64 (k : Nat) ∧ x = .int .i64 y ∧ wr = w ∧ Hid (chsG L e (l.drop k) k y = R)) (fun i _ _ => n - (intOf i).toNat)
  case atStart => exact ⟨0, 180, by omega, rfl, rfl, rfl, HR.out⟩
  case round =>
    obtain ⟨k, y, hkn, rfl, rfl, rfl, HE⟩ := hrel
    by_cases hlt : k < n
    · have hlz : (k : Int) < (n : Int) := by omega
      obtain ⟨t, ht⟩ : ∃ t, l[k]? = some t := ⟨l[k]'(by rw [HN.out]; exact hlt), List.getElem?_eq_getElem _⟩
      obtain ⟨g, off, rfl, _, x0⟩ := HT.out k t ht
      have HCt : Hid (∀ W : World, _) := fun W => HC.out t W
      have HPt : Hid (∀ W : World, _) := fun W => HP.out t W
      cases hp : Lib.hasPrefix L t.data.toList with
      | true =>
        rw [hp] at HCt
        have HQ : Hid (R = (k, Lib.trimPrefix L t.data.toList, e)) := by rw [Hid, ← HE.out]; exact chsG_hit ht hp k
        obtain ⟨Z, hZ⟩ : ∃ Z, Lib.trimPrefix L t.data.toList = Z := ⟨_, rfl⟩
        rw [hZ] at HQ HCt
        rw [show (⟨Z.toArray⟩ : ByteArray) = mkB Z from rfl] at HCt
        clear hp hZ ht
        go_wp2_with (go_at_call 58; refine (HCt.out _).mono ?_; rintro r w' ⟨rfl, rfl⟩)
        go_ret
        exact ⟨by rw [HQ.out]; rfl, by rw [HQ.out]; exact HI.out.set0 _, (Keeps.refl (fun k => k = b) _).setCell (Or.inl rfl) _⟩
      | false =>
        rw [hp] at HCt
        have HQ : Hid (chsG L e (l.drop (k + 1)) (k + 1) (if Lib.hasPrefix t.data.toList L = true then 20 else y) = R) := by rw [Hid, ← HE.out]; exact (chsG_miss ht hp k).symm
        obtain ⟨Z, hZ⟩ : ∃ Z, Lib.trimPrefix L t.data.toList = Z := ⟨_, rfl⟩
        rw [hZ] at HCt
        rw [show (⟨Z.toArray⟩ : ByteArray) = mkB Z from rfl] at HCt
        cases hp2 : Lib.hasPrefix t.data.toList L with
        | true =>
          rw [hp2] at HPt
          have HQ2 : Hid (chsG L e (l.drop (k + 1)) (k + 1) 20 = R) := by have := HQ.out; rw [hp2, if_pos rfl] at this; exact this
          clear hp hZ ht hp2 HQ
          go_wp2_with (first | (go_at_call 58; refine (HCt.out _).mono ?_; rintro r w' ⟨rfl, rfl⟩) | (go_at_call 59; refine (HPt.out _).mono ?_; rintro r w' ⟨rfl, rfl⟩))
          go_roundw
          case rel => exact ⟨k + 1, 20, by omega, by go_num, rfl, by first | rfl | trivial, HQ2.out⟩
          case measure => simp [intOf]; omega
        | false =>
          rw [hp2] at HPt
          have HQ2 : Hid (chsG L e (l.drop (k + 1)) (k + 1) y = R) := by have := HQ.out; rw [hp2, if_neg (by decide)] at this; exact this
          clear hp hZ ht hp2 HQ
          go_wp2_with (first | (go_at_call 58; refine (HCt.out _).mono ?_; rintro r w' ⟨rfl, rfl⟩) | (go_at_call 59; refine (HPt.out _).mono ?_; rintro r w' ⟨rfl, rfl⟩))
          go_roundw
          case rel => exact ⟨k + 1, y, by omega, by go_num, rfl, by first | rfl | trivial, HQ2.out⟩
          case measure => simp [intOf]; omega
    · have hlz : ¬ (k : Int) < (n : Int) := by omega
      have HQ : Hid (R = (0, L, failR e y)) := by
        rw [Hid, ← HE.out, List.drop_of_length_le (by rw [HN.out]; omega)]
        rfl
      have HF : Hid (∀ W : World, RIs W b S e → _) := fun W q => fail_any b S e y W q
      go_wp2_with (go_at_call 48; refine (HF.out _ HI.out).mono ?_; rintro r w' ⟨rfl, q1, q2⟩)
      go_ret
      exact ⟨by rw [HQ.out]; rfl, by rw [HQ.out]; show RIs _ _ (mkB L) _; rw [HSL.out]; exact q1, q2⟩
end Go.Proofs.YtdkbgbhcnbmlfaaDoor
