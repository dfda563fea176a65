/-
  The printer: put, word, number, text.
-/
import Derived.Test.YtcdagmgbfihbdaaDoorQut
import Derived.Lib.AppendIntMem
namespace Go.Proofs.YtcdagmgbfihbdaaDoor
open Go.RowKit
theorem nDig_le : ∀ (k u : Nat), u < 10 ^ (k + 1) → Lib.nDigits u ≤ k + 1
  | 0, u, h => by rw [Lib.nDigits_small (by simpa using h)]; exact Nat.le_refl _
  | k + 1, u, h => by
    by_cases h0 : u < 10
    · rw [Lib.nDigits_small h0]; omega
    · have := nDig_le k (u / 10) (by rw [Nat.pow_succ] at h; omega)
      rw [Lib.nDigits_big h0]
      omega
theorem itoa_len {n : Int} (h0 : -9223372036854775808 ≤ n) (h1 : n ≤ 9223372036854775807) : (Lib.itoa n).length ≤ 20 := by
  unfold Lib.itoa
  by_cases h : n < 0
  · rw [if_pos h, List.length_cons, Lib.decDigits_length]
    have := nDig_le 18 n.natAbs (by omega)
    omega
  · rw [if_neg h, Lib.decDigits_length]
    have := nDig_le 18 n.toNat (by omega)
    omega
def TabP (w : World) : Prop := Lib.TabIs Tryd.prog w "internal/strconv.uint64pow10" .u64 Lib.pow10Tab
theorem tab_on {w w' : World} (h : TabP w) (hb : Below w.heap.size w w') : TabP w' := by
  unfold TabP Lib.TabIs World.var? at h ⊢
  cases hgn : Tryd.prog.globalNamed "internal/strconv.uint64pow10" with
  | none => rw [hgn] at h; cases h
  | some g =>
  rw [hgn] at h
  simp only [Option.bind_some] at h ⊢
  have hlt : g < w.heap.size := by
    rcases Nat.lt_or_ge g w.heap.size with h' | h'
    · exact h'
    · rw [Array.getElem?_eq_none h'] at h; cases h
  rw [hb.block g hlt]
  exact h
/-- What a printer holds. -/
structure PS where
  buf : List UInt8
  wide : Bool
  long : Bool
def putS (x : List UInt8) (s : PS) : PS := if (s.long || decide (1048576 < s.buf.length + x.length)) = true then ⟨s.buf, s.wide, true⟩ else ⟨s.buf ++ x, s.wide, false⟩
def wordS (x : List UInt8) (s : PS) : PS := putS (32 :: x) s
def shortB (n : Int) : Bool := decide (-999999999999999999 ≤ n) && decide (n ≤ 999999999999999999)
def numS (n : Int) (s : PS) : PS := wordS (Lib.itoa n) ⟨s.buf, s.wide || !shortB n, s.long⟩
def textS (x : List UInt8) (s : PS) : PS := if (s.long || decide (1048576 < x.length)) = true then ⟨s.buf, s.wide, true⟩ else wordS (quoteL x) ⟨s.buf, s.wide, false⟩
structure PrA (w0 W : World) (p : Nat) (s : PS) : Prop where
  ba : BA w0.heap.size 71 p [.bool s.wide, .bool s.long] s.buf W
  bel : Below w0.heap.size w0 W
  le : s.buf.length ≤ 1048576
  tab : TabP w0
theorem layP : Lay 71 4 := ⟨by kernel_rfl, by decide⟩
theorem BA.facts {B T p : Nat} {wd lg : Bool} {l : List UInt8} {W : World} (h : BA B T p [.bool wd, .bool lg] l W) (hT : T ≠ 5) :
    W.cell? ⟨p, 2, none⟩ = some (.bool wd) ∧ W.cell? ⟨p, 3, none⟩ = some (.bool lg) ∧ W.frozen? ⟨p, 2, none⟩ = false ∧ W.frozen? ⟨p, 3, none⟩ = false ∧
    (∀ b : Bool, BA B T p [.bool b, .bool lg] l (W.setCell ⟨p, 2, none⟩ (.bool b))) ∧ (∀ b : Bool, BA B T p [.bool wd, .bool b] l (W.setCell ⟨p, 3, none⟩ (.bool b))) := by
  obtain ⟨hB, a, v, hb, hrow, ha⟩ := h
  have hn := not_row hrow hb hT
  refine ⟨cell_of_block hb rfl, cell_of_block hb rfl, free_of_block hb 2, free_of_block hb 3, fun b => ⟨hB, a, v, ?_, owns_same hrow (fun g hg => Below.heap_setCell _ _ _ _ (fun e => ?_)), ha⟩, fun b => ⟨hB, a, v, ?_, owns_same hrow (fun g hg => Below.heap_setCell _ _ _ _ (fun e => ?_)), ha⟩⟩
  · have := set_block hb 2 (.bool b)
    simpa using this
  · have e' : g = p := e
    rw [e'] at hg
    exact hn hg
  · have := set_block hb 3 (.bool b)
    simpa using this
  · have e' : g = p := e
    rw [e'] at hg
    exact hn hg
theorem PrA.long {w0 W : World} {p : Nat} {s : PS} (h : PrA w0 W p s) (b : Bool) : PrA w0 (W.setCell ⟨p, 3, none⟩ (.bool b)) p ⟨s.buf, s.wide, b⟩ ∧ KP p W (W.setCell ⟨p, 3, none⟩ (.bool b)) :=
  ⟨⟨(h.ba.facts (by decide)).2.2.2.2.2 b, h.bel.setCell (p := ⟨p, 3, none⟩) h.ba.1 _, h.le, h.tab⟩, (KP.refl p W).set 3 _⟩
theorem PrA.wide {w0 W : World} {p : Nat} {s : PS} (h : PrA w0 W p s) (b : Bool) : PrA w0 (W.setCell ⟨p, 2, none⟩ (.bool b)) p ⟨s.buf, b, s.long⟩ ∧ KP p W (W.setCell ⟨p, 2, none⟩ (.bool b)) :=
  ⟨⟨(h.ba.facts (by decide)).2.2.2.2.1 b, h.bel.setCell (p := ⟨p, 2, none⟩) h.ba.1 _, h.le, h.tab⟩, (KP.refl p W).set 2 _⟩
theorem BA.kept {B T p : Nat} {rest : List Value} {l : List UInt8} {W W' : World} (h : BA B T p rest l W) (hb : Below W.heap.size W W') : BA B T p rest l W' := by
  have hl := h.lt
  obtain ⟨hB, a, v, hk, hrow, ha⟩ := h
  exact ⟨hB, a, v, (hb.block p hl).trans hk, owns_same hrow (fun g hg => hb.block g (World.ownsRow.lt hrow g hg).2), ha⟩
theorem PrA.kept {w0 W W' : World} {p : Nat} {s : PS} (h : PrA w0 W p s) (hb : Below W.heap.size W W') : PrA w0 W' p s :=
  ⟨h.ba.kept hb, h.bel.trans (hb.mono h.bel.size), h.le, h.tab⟩
/-- What a call of the printer's leaves. -/
def PD (w0 W : World) (p : Nat) (s : PS) (e : Ending) (W' : World) : Prop := e = .returned (.tuple #[]) ∧ PrA w0 W' p s ∧ KP p W W'
set_option maxRecDepth 100000 in
set_option maxHeartbeats 4000000 in
theorem put_any (w0 W : World) (p : Nat) (s : PS) (x : List UInt8) (h : PrA w0 W p s) :
    Calls Tryd.prog 48 #[.pointer (some ⟨p, 0, none⟩), .string (bOf x)] W fun e W' => PD w0 W p (putS x s) e W' := by
  obtain ⟨buf, wide, long⟩ := s
  obtain ⟨f2, f3, z2, z3, _, _⟩ := h.ba.facts (by decide)
  simp only at f2 f3
  have HH : Hid (PrA w0 W p ⟨buf, wide, long⟩) := h
  have HLG : Hid (∀ b : Bool, PrA w0 (W.setCell ⟨p, 3, none⟩ (.bool b)) p ⟨buf, wide, b⟩ ∧ KP p W (W.setCell ⟨p, 3, none⟩ (.bool b))) := fun b => h.long b
  have hsz : (bOf x).size = x.length := bOf_size x
  cases long with
  | true =>
    have HFI : Hid (PD w0 W p (putS x ⟨buf, wide, true⟩) (.returned (.tuple #[])) (W.setCell ⟨p, 3, none⟩ (.bool true))) := by
      have e : putS x ⟨buf, wide, true⟩ = ⟨buf, wide, true⟩ := by unfold putS; rfl
      rw [Hid, e]
      exact ⟨rfl, HLG.out true⟩
    clear h
    go_enter Tryd.func48, Tryd.ntmps48
    go_wp2_with fail
    go_end0
    exact HFI.out
  | false =>
    have HLE : Hid (∀ _ : Unit, _) := fun _ => len_any w0.heap.size 71 p [.bool wide, .bool false] buf W h.ba
    have hle := h.le
    simp only at hle
    obtain ⟨m, hm⟩ : ∃ m, buf.length = m := ⟨_, rfl⟩
    obtain ⟨n, hn⟩ : ∃ n, x.length = n := ⟨_, rfl⟩
    rw [hm] at hle HLE
    rw [hn] at hsz
    have HMN : Hid (buf.length = m ∧ x.length = n) := ⟨hm, hn⟩
    by_cases hgt : 1048576 < m + n
    · have hdz : decide ((1048576 : Int) - ((m : Nat) : Int) < ((n : Nat) : Int)) = true := decide_eq_true (by omega)
      have HFI : Hid (PD w0 W p (putS x ⟨buf, wide, false⟩) (.returned (.tuple #[])) (W.setCell ⟨p, 3, none⟩ (.bool true))) := by
        have e : putS x ⟨buf, wide, false⟩ = ⟨buf, wide, true⟩ := by
          unfold putS
          rw [if_pos (by simp only [Bool.false_or, decide_eq_true_eq]; rw [hm, hn]; exact hgt)]
        rw [Hid, e]
        exact ⟨rfl, HLG.out true⟩
      clear h hm hn hgt
      go_enter Tryd.func48, Tryd.ntmps48
      go_wp2_with fail
      refine Calls.mono (HLE.out ()) ?_
      rintro e w1 ⟨rfl, hw1⟩
      rw [hw1]
      clear hw1 w1
      go_wp2_with fail
      go_end0
      exact HFI.out
    · have hdz : decide ((1048576 : Int) - ((m : Nat) : Int) < ((n : Nat) : Int)) = false := decide_eq_false (by omega)
      obtain ⟨W1, hW1⟩ : ∃ V, W.setCell ⟨p, 3, none⟩ (.bool false) = V := ⟨_, rfl⟩
      have HP1 : Hid (PrA w0 W1 p ⟨buf, wide, false⟩ ∧ KP p W W1) := by rw [Hid, ← hW1]; exact HLG.out false
      have HWS : Hid (∀ _ : Unit, _) := fun _ => wstr_any w0.heap.size 71 p [.bool wide, .bool false] buf x W1 layP HP1.out.1.ba (by omega) HP1.out.1.bel.size
      have HEQ : Hid (putS x ⟨buf, wide, false⟩ = ⟨buf ++ x, wide, false⟩) := by
        unfold Hid putS
        rw [if_neg (by simp only [Bool.false_or, decide_eq_true_eq]; rw [hm, hn]; exact hgt)]
      have HLL : Hid ((buf ++ x).length ≤ 1048576) := by rw [Hid, List.length_append]; omega
      have HW1 : Hid _ := hW1
      clear h hm hn hgt hW1
      go_enter Tryd.func48, Tryd.ntmps48
      go_wp2_with fail
      refine Calls.mono (HLE.out ()) ?_
      rintro e w1 ⟨rfl, hw1⟩
      rw [hw1]
      clear hw1 w1
      go_wp2_with fail
      rw [HW1.out]
      refine Calls.mono (HWS.out ()) ?_
      rintro e w2 ⟨rfl, hu, hk, hb⟩
      have HFI : Hid (PD w0 W p (putS x ⟨buf, wide, false⟩) (.returned (.tuple #[])) w2) := by
        rw [Hid, HEQ.out]
        exact ⟨rfl, ⟨hu.ba, HP1.out.1.bel.trans hb, HLL.out, HP1.out.1.tab⟩, HP1.out.2.trans hk⟩
      clear hu hk hb HWS
      go_wp2_with fail
      go_end0
      exact HFI.out
/-- One behind another. -/
theorem PD.then {w0 W W1 W2 : World} {p : Nat} {s2 : PS} (k : KP p W W1) (h : PD w0 W1 p s2 (.returned (.tuple #[])) W2) : PD w0 W p s2 (.returned (.tuple #[])) W2 := ⟨rfl, h.2.1, k.trans h.2.2⟩
set_option maxRecDepth 100000 in
set_option maxHeartbeats 4000000 in
theorem word_any (w0 W : World) (p : Nat) (s : PS) (x : List UInt8) (h : PrA w0 W p s) (hx : x.length ≤ 4611686018427387904) :
    Calls Tryd.prog 68 #[.pointer (some ⟨p, 0, none⟩), .string (bOf x)] W fun e W' => PD w0 W p (wordS x s) e W' := by
  have HPU : Hid (∀ _ : Unit, Calls Tryd.prog 48 #[.pointer (some ⟨p, 0, none⟩), .string ((⟨#[32]⟩ : ByteArray) ++ bOf x)] W fun e W' => PD w0 W p (wordS x s) e W') := fun _ => by
    rw [show (⟨#[32]⟩ : ByteArray) ++ bOf x = bOf (32 :: x) from bOf_app [32] x]
    exact put_any w0 W p s (32 :: x) h
  have hsz : (bOf x).size ≤ 4611686018427387904 := by rw [bOf_size]; exact hx
  have hs1 : ¬ 9223372036854775807 < 1 + (bOf x).size := by omega
  clear h hx
  go_enter Tryd.func68, Tryd.ntmps68
  go_wp2_with fail
  refine Calls.mono (HPU.out ()) ?_
  rintro e w1 ⟨rfl, hd⟩
  have HD : Hid (PD w0 W p (wordS x s) (.returned (.tuple #[])) w1) := ⟨rfl, hd⟩
  clear hd
  go_wp2_with fail
  go_end0
  exact HD.out
theorem short_any (n : Int) (W : World) : Calls Tryd.prog 79 #[.int .i64 n] W fun e W' => e = .returned (.bool (shortB n)) ∧ W' = W := by
  by_cases h1 : -999999999999999999 ≤ n
  · have hb : shortB n = decide (n ≤ 999999999999999999) := by unfold shortB; rw [decide_eq_true h1]; rfl
    rw [hb]
    clear hb
    go_enter Tryd.func79, Tryd.ntmps79
    go_wp2_with fail
    go_ret
    exact ⟨rfl, rfl⟩
  · have hb : shortB n = false := by unfold shortB; rw [decide_eq_false h1]; rfl
    rw [hb]
    clear hb
    go_enter Tryd.func79, Tryd.ntmps79
    go_wp2_with fail
    go_ret
    exact ⟨rfl, rfl⟩
set_option maxRecDepth 100000 in
set_option maxHeartbeats 4000000 in
theorem number_any (w0 W : World) (p : Nat) (s : PS) (n : Int) (h : PrA w0 W p s) (h0 : -9223372036854775808 ≤ n) (h1 : n ≤ 9223372036854775807) :
    Calls Tryd.prog 67 #[.pointer (some ⟨p, 0, none⟩), .int .i64 n] W fun e W' => PD w0 W p (numS n s) e W' := by
  obtain ⟨buf, wide, long⟩ := s
  obtain ⟨f2, f3, z2, z3, _, _⟩ := h.ba.facts (by decide)
  simp only at f2 f3
  have HLN := itoa_len h0 h1
  have HTA := h.tab
  have HST : Hid (∀ W1 b, PrA w0 W1 p ⟨buf, b, long⟩ → KP p W W1 → Calls Tryd.prog 33 #[.int .i64 n] W1 fun e w' => e = .returned (.string (bOf (Lib.itoa n))) ∧ PrA w0 w' p ⟨buf, b, long⟩ ∧ KP p W w') := fun W1 b hp hk => by
    refine (Tryd.strconv_Itoa n h0 h1 W1 (tab_on HTA hp.bel)).mono ?_
    rintro e w' ⟨rfl, j, os, rfl⟩
    have hb := Lib.below_grow W1.heap.size W1 (Nat.le_refl _) j os
    exact ⟨rfl, hp.kept hb, hk.trans (KP.of hb)⟩
  have HWD : Hid (∀ W1 b, PrA w0 W1 p ⟨buf, b, long⟩ → KP p W W1 → Calls Tryd.prog 68 #[.pointer (some ⟨p, 0, none⟩), .string (bOf (Lib.itoa n))] W1 fun e W' => PD w0 W p (wordS (Lib.itoa n) ⟨buf, b, long⟩) e W') := fun W1 b hp hk => by
    refine (word_any w0 W1 p ⟨buf, b, long⟩ (Lib.itoa n) hp (by omega)).mono ?_
    rintro e w' ⟨rfl, q1, q2⟩
    exact ⟨rfl, q1, hk.trans q2⟩
  have HWI : Hid (∀ b : Bool, PrA w0 (W.setCell ⟨p, 2, none⟩ (.bool b)) p ⟨buf, b, long⟩ ∧ KP p W (W.setCell ⟨p, 2, none⟩ (.bool b))) := fun b => h.wide b
  have HSB : Hid (∀ V : World, _) := fun V => short_any n V
  have HNS : Hid (numS n ⟨buf, wide, long⟩ = wordS (Lib.itoa n) ⟨buf, wide || !shortB n, long⟩) := rfl
  obtain ⟨sb, hsb⟩ : ∃ q, shortB n = q := ⟨_, rfl⟩
  rw [hsb] at HSB HNS
  clear h hsb HLN HTA h0 h1
  cases wide with
  | true =>
    have HF := HWI.out (true || !sb)
    have HFF : Hid _ := HF
    clear HF
    go_enter Tryd.func67, Tryd.ntmps67
    go_wp2_with fail
    refine Calls.mono (HST.out _ true HFF.out.1 HFF.out.2) ?_
    rintro e w2 ⟨rfl, q1, q2⟩
    have HQ : Hid _ := HWD.out w2 true q1 q2
    clear q1 q2
    go_wp2_with fail
    refine Calls.mono HQ.out ?_
    rintro e w3 hd
    have HD : Hid (PD w0 W p (numS n ⟨buf, true, long⟩) e w3) := by rw [Hid, HNS.out]; exact hd
    obtain rfl := HD.out.1
    clear hd
    go_wp2_with fail
    go_end0
    exact HD.out
  | false =>
    have HF := HWI.out (false || !sb)
    have HFF : Hid (PrA w0 (W.setCell ⟨p, 2, none⟩ (.bool !sb)) p ⟨buf, !sb, long⟩ ∧ KP p W (W.setCell ⟨p, 2, none⟩ (.bool !sb))) := HF
    clear HF
    go_enter Tryd.func67, Tryd.ntmps67
    go_wp2_with fail
    refine (HSB.out _).mono ?_
    rintro e w1 ⟨rfl, hw1⟩
    rw [hw1]
    clear hw1 w1
    go_wp2_with fail
    refine Calls.mono (HST.out _ (!sb) HFF.out.1 HFF.out.2) ?_
    rintro e w2 ⟨rfl, q1, q2⟩
    have HQ : Hid _ := HWD.out w2 (!sb) q1 q2
    clear q1 q2
    go_wp2_with fail
    refine Calls.mono HQ.out ?_
    rintro e w3 hd
    have HD : Hid (PD w0 W p (numS n ⟨buf, false, long⟩) e w3) := by rw [Hid, HNS.out]; exact hd
    obtain rfl := HD.out.1
    clear hd
    go_wp2_with fail
    go_end0
    exact HD.out
set_option maxRecDepth 100000 in
set_option maxHeartbeats 4000000 in
theorem text_any (w0 W : World) (p : Nat) (s : PS) (x : List UInt8) (h : PrA w0 W p s) :
    Calls Tryd.prog 66 #[.pointer (some ⟨p, 0, none⟩), .string (bOf x)] W fun e W' => PD w0 W p (textS x s) e W' := by
  obtain ⟨buf, wide, long⟩ := s
  obtain ⟨f2, f3, z2, z3, _, _⟩ := h.ba.facts (by decide)
  simp only at f2 f3
  have HLG : Hid (∀ b : Bool, PrA w0 (W.setCell ⟨p, 3, none⟩ (.bool b)) p ⟨buf, wide, b⟩ ∧ KP p W (W.setCell ⟨p, 3, none⟩ (.bool b))) := fun b => h.long b
  have hsz : (bOf x).size = x.length := bOf_size x
  obtain ⟨n, hn⟩ : ∃ n, x.length = n := ⟨_, rfl⟩
  rw [hn] at hsz
  have HNN : Hid (x.length = n) := hn
  cases long with
  | true =>
    have HFI : Hid (PD w0 W p (textS x ⟨buf, wide, true⟩) (.returned (.tuple #[])) (W.setCell ⟨p, 3, none⟩ (.bool true))) := by
      have e : textS x ⟨buf, wide, true⟩ = ⟨buf, wide, true⟩ := by unfold textS; rfl
      rw [Hid, e]
      exact ⟨rfl, HLG.out true⟩
    clear h hn
    go_enter Tryd.func66, Tryd.ntmps66
    go_wp2_with fail
    go_end0
    exact HFI.out
  | false =>
    by_cases hgt : 1048576 < n
    · have hz : (1048576 : Int) < ((n : Nat) : Int) := by omega
      have HFI : Hid (PD w0 W p (textS x ⟨buf, wide, false⟩) (.returned (.tuple #[])) (W.setCell ⟨p, 3, none⟩ (.bool true))) := by
        have e : textS x ⟨buf, wide, false⟩ = ⟨buf, wide, true⟩ := by
          unfold textS
          rw [if_pos (by simp only [Bool.false_or, decide_eq_true_eq]; rw [hn]; exact hgt)]
        rw [Hid, e]
        exact ⟨rfl, HLG.out true⟩
      clear h hn hgt
      go_enter Tryd.func66, Tryd.ntmps66
      go_wp2_with fail
      go_end0
      exact HFI.out
    · have hz : ¬ (1048576 : Int) < ((n : Nat) : Int) := by omega
      obtain ⟨W1, hW1⟩ : ∃ V, W.setCell ⟨p, 3, none⟩ (.bool false) = V := ⟨_, rfl⟩
      have HP1 : Hid (PrA w0 W1 p ⟨buf, wide, false⟩ ∧ KP p W W1) := by rw [Hid, ← hW1]; exact HLG.out false
      have HQU : Hid (∀ _ : Unit, _) := fun _ => quote_any x W1 (by omega)
      have HQL : Hid ((quoteL x).length ≤ 4611686018427387904) := by have := quoteL_len x; rw [Hid]; omega
      have HEQ : Hid (textS x ⟨buf, wide, false⟩ = wordS (quoteL x) ⟨buf, wide, false⟩) := by
        unfold Hid textS
        rw [if_neg (by simp only [Bool.false_or, decide_eq_true_eq]; rw [hn]; exact hgt)]
      have HW1 : Hid _ := hW1
      clear h hn hgt hW1
      go_enter Tryd.func66, Tryd.ntmps66
      go_wp2_with fail
      try (have hdz : decide ((1048576 : Int) < ((n : Nat) : Int)) = false := decide_eq_false (by omega); simp only [hdz])
      rw [HW1.out]
      refine Calls.mono (HQU.out ()) ?_
      rintro e w2 ⟨rfl, hb⟩
      have HWD : Hid _ := word_any w0 w2 p ⟨buf, wide, false⟩ (quoteL x) (HP1.out.1.kept hb) HQL.out
      have HK2 : Hid (KP p W w2) := HP1.out.2.trans (KP.of hb)
      clear hb HQU
      go_wp2_with fail
      refine Calls.mono HWD.out ?_
      rintro e w3 ⟨rfl, q1, q2⟩
      have HD : Hid (PD w0 W p (textS x ⟨buf, wide, false⟩) (.returned (.tuple #[])) w3) := by rw [Hid, HEQ.out]; exact ⟨rfl, q1, HK2.out.trans q2⟩
      clear q1 q2
      go_wp2_with fail
      go_end0
      exact HD.out
end Go.Proofs.YtcdagmgbfihbdaaDoor
