/-
  The walk of MemDoes.
-/
import Derived.Test.YtdgmjmohfpjlnaaDoa
import Derived.Test.YtdgmjmohfpjlnaaAwk
namespace Go.Proofs.Ytdgmjmohfpjlnaa
open Go.RowKit Go.Shelf
/-- The beginning: a table and its twin, both empty. -/
theorem pl_new {w w1 w2 : World} (hma : MA w.heap.size w1 (w.heap.size + 1) w.heap.size 1 st0) (b1 : Below w.heap.size w w1) (b2 : Below w1.heap.size w1 w2) :
    PL w.heap.size w (w2.alloc (.cells #[.slice none 0 0, .slice none 0 0] 30)) 0 (w.heap.size + 1) w2.heap.size := by
  have q := b1.size
  have q2 := b2.size
  have hb : Below w1.heap.size w1 (w2.alloc (.cells #[.slice none 0 0, .slice none 0 0] 30)) := b2.alloc b2.size _
  refine ⟨st0, w.heap.size, w.heap.size, 1, w.heap.size, none, 0, none, 0, ⟨hma.below hb, ⟨block_alloc_at _ _, World.ownsRow_nil _ _ _ _, World.ownsRow_nil _ _ _ _, rfl⟩, by show 1 ≤ 0 + 1; omega, by show 0 ≤ _; omega, rfl, okE_new, ⟨Nat.le_refl _, Nat.le_refl _, by omega⟩, by simp; omega⟩, b1.trans (hb.mono b1.size)⟩
set_option maxRecDepth 100000 in
set_option maxHeartbeats 16000000 in
theorem does_walk (a : Option Addr) (cp : Nat) (l : List OpR) (w : World) (h : OA w.heap.size w a l) (hl : l.length ≤ 2000000) :
    Calls Try.prog 3 #[.slice a l.length cp] w fun e w' => e = .returned (.bool true) ∧ Below w.heap.size w w' := by
  have HOA : Hid (OA w.heap.size w a l) := h
  obtain ⟨n, hn⟩ : ∃ n, l.length = n := ⟨_, rfl⟩
  have HN : Hid _ := hn
  rw [hn] at hl ⊢
  clear h hn
  go_enter Try.func3, Try.ntmps3
  go_wp2_with fail
  refine (new_any w).mono ?_
  rintro e w1 ⟨rfl, hma, b1⟩
  have HM1 : Hid _ := hma
  have HB1 : Hid _ := b1
  clear hma b1
  go_wp2_with fail
  refine (awake_any w1).mono ?_
  rintro e w2 ⟨rfl, b2⟩
  have HPL : Hid _ := pl_new HM1.out HB1.out b2
  clear b2 HM1 HB1
  go_wp2_with fail
  obtain ⟨r, hr⟩ : ∃ q, w2.heap.size = q := ⟨_, rfl⟩
  obtain ⟨W4, hW4⟩ : ∃ V, w2.alloc (.cells #[.slice none 0 0, .slice none 0 0] 30) = V := ⟨_, rfl⟩
  rw [hr, hW4] at HPL ⊢
  clear hr hW4
  go_loopw [3, 19] (fun m i wr => ∃ (k g : Nat), k ≤ n ∧ m = .pointer (some ⟨g, 0, none⟩) ∧ i = .int .i64 ((k : Nat) : Int) ∧ Hid (PL w.heap.size w wr k g r)) (fun _ i _ => n - (intOf i).toNat)
  case atStart => exact ⟨0, _, by omega, rfl, rfl, HPL.out⟩
  case round =>
    obtain ⟨k, g, hk, rfl, rfl, HT⟩ := hrel
    by_cases hlt : k < n
    · have hlz : ((k : Nat) : Int) < ((n : Nat) : Int) := by omega
      obtain ⟨o, ho⟩ : ∃ o, l[k]? = some o := ⟨_, List.getElem?_eq_getElem (by rw [HN.out]; exact hlt)⟩
      obtain ⟨lb, off, rfl, _, e0, e1, e2, e3, e4, e5, e6⟩ := (HOA.out.below (fun x hx => HT.out.bel.block x hx)) k o ho
      obtain ⟨ok, ⟨ckey, cseq, cval, cgone⟩, otw, on⟩ := o
      simp only at e0 e1 e2 e3 e4 e5 e6
      obtain ⟨x, hx⟩ : ∃ q, wr.heap.size = q := ⟨_, rfl⟩
      obtain ⟨V, hV⟩ : ∃ V, wr.alloc (.cells #[.int .i64 ok, .string ckey, .int .u64 ((cseq : Nat) : Int), .string cval, .bool cgone, .string otw, .int .i64 on] 35) = V := ⟨_, rfl⟩
      have HTV : Hid (PL w.heap.size w V k g r) := by rw [Hid, ← hV]; exact HT.out.on (below_new _ _)
      have HOB : Hid (OB V x ⟨ok, ⟨ckey, cseq, cval, cgone⟩, otw, on⟩) := by rw [Hid, ← hV, ← hx]; exact block_alloc_at _ _
      obtain ⟨o0, o1, o2, o3, o4, o5, o6⟩ := HOB.out.cells
      simp only at o0 o1 o2 o3 o4 o5 o6
      rw [← hV, ← hx] at o0 o1 o2 o3 o4 o5 o6
      have HV : Hid _ := hV
      have hk2 : k ≤ 2900000 := by omega
      clear hV hx HT ho
      by_cases h4 : ok = 4
      · subst h4
        go_wp2_with fail
        rw [HV.out]
        refine (HTV.out.fork).mono ?_
        rintro e w6 ⟨g', rfl, HF⟩
        have HPU : Hid (Calls Try.prog 12 #[.pointer (some ⟨g, 0, none⟩), .agg #[.string { data := #[97, 32, 102, 111, 114, 107, 39, 115, 32, 111, 119, 110] }, .int .u64 1, .string ⟨#[]⟩, .bool false], .int .i64 3] w6 fun e w' => (∃ q : Nat, e = .returned (.int .i64 (q : Nat))) ∧ PL w.heap.size w w' k g' r) := HF.put hk2 ⟨⟨#[97, 32, 102, 111, 114, 107, 39, 115, 32, 111, 119, 110]⟩, 1, ⟨#[]⟩, false⟩ 3
        clear HF
        go_wp2_with fail
        refine Calls.mono HPU.out ?_
        rintro e w7 ⟨⟨q, rfl⟩, HL7⟩
        have HL : Hid (PL w.heap.size w w7 (k + 1) g' r) := HL7.up (by omega)
        clear HL7 HPU
        go_wp2_with fail
        go_roundw
        case rel => exact ⟨k + 1, g', by omega, rfl, by go_num, HL.out⟩
        case measure => simp [intOf]; omega
      · have h4' : (ok == 4) = false := by simpa using h4
        have HDO : Hid _ := HTV.out.does hk2 ⟨ok, ⟨ckey, cseq, cval, cgone⟩, otw, on⟩
        simp only [opV] at HDO
        clear h4
        go_wp2_with fail
        rw [HV.out]
        refine Calls.mono HDO.out ?_
        rintro e w6 ⟨rfl, HL6⟩
        have HL : Hid _ := HL6
        clear HL6 HDO
        go_wp2_with fail
        go_roundw
        case rel => exact ⟨k + 1, g, by omega, rfl, by go_num, HL.out⟩
        case measure => simp [intOf]; omega
    · obtain rfl : k = n := by omega
      have hlz : ¬ ((k : Nat) : Int) < ((k : Nat) : Int) := by omega
      have HLO : Hid _ := HT.out.looks (by omega)
      have HBE : Hid _ := HT.out.bel
      clear HT
      go_wp2_with fail
      refine Calls.mono HLO.out ?_
      rintro e w6 ⟨rfl, b6⟩
      have HB6 : Hid (Below w.heap.size w w6) := HBE.out.trans (b6.mono HBE.out.size)
      clear b6 HLO
      go_wp2_with fail
      go_ret
      exact ⟨rfl, HB6.out⟩
end Go.Proofs.Ytdgmjmohfpjlnaa
