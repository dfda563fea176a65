/-
  The contract of putPart: a writer with room puts just a part's bytes.
-/
import Derived.Test.YtkebddjndljodaaDoorParts
import Derived.Test.YtkebddjndljodaaDoorRepl
import Derived.Test.YtkebddjndljodaaDoorPut
namespace Go.Proofs.YtkebddjndljodaaDoor
open Go.RowKit
theorem keeps_of_below {w w' : World} (h : Below w.heap.size w w') : Keeps (fun _ => False) w w' := ⟨h.os, h.tape, h.output, h.size, fun k hk _ => h.block k hk⟩
theorem WIs.below {w w' : World} {base b : Nat} {M : Int} {bs : List UInt8} {o : Bool} {v : Value} (h : WIs w base b M bs o v) (k : Below w.heap.size w w') : WIs w' base b M bs o v := h.kept (keeps_of_below k) (fun f => f) (fun _ _ f => f)
theorem WKeeps.of_below {w w' : World} {base b : Nat} (h : Below w.heap.size w w') : WKeeps base b w w' := (keeps_of_below h).mono (fun _ _ f => f.elim)
/-- A part's box stays as it is while the writer goes on. -/
theorem part_kept {w w' : World} {base b g : Nat} {xs : Array Value} (k : WKeeps base b w w') (h : w.heap[g]? = some (.cells xs 47 (0, 0))) (hb : g ≠ b) : w'.heap[g]? = some (.cells xs 47 (0, 0)) := by
  refine (k.block g (lt_of_block h) (fun s => ?_)).trans h
  rcases s with s | ⟨_, cur, s⟩
  · exact hb s
  · rw [h] at s; simp at s
/-- The library's variable stays as it is. -/
theorem var_kept {w w' : World} {base b : Nat} {v : Value} (k : WKeeps base b w w') (h : w.cell? ⟨0, 0, none⟩ = some v) (hb : 0 < b) (h0 : 0 < base) : w'.cell? ⟨0, 0, none⟩ = some v := by
  have e := k.block 0 (World.block_lt_of_cell? w _ h) (fun s => by rcases s with s | ⟨s, _⟩ <;> omega)
  rw [← h]
  simp only [World.cell?, e]
theorem count_small (s : ByteArray) (c : UInt8) : Lib.countB s ⟨#[c]⟩ ≤ s.size := by
  have : Lib.countB s ⟨#[c]⟩ = Lib.count s.data.toList [c] := rfl
  rw [this, Lib.count_one]
  have h := List.count_le_length (l := s.data.toList) (a := c)
  have h2 := size_list s
  omega
section
variable {base b : Nat} {M : Int} {bs : List UInt8} {v : Value} {w : World}
theorem be1_one : be1 1 = [1] := rfl
theorem be1_two : be1 2 = [2] := rfl
set_option maxRecDepth 100000 in
set_option maxHeartbeats 2000000 in
theorem putPart_any (p : Prt) (m : Int) (hp : p.ok) (h : WIs w base b M bs false v) (hbase : base ≤ w.heap.size) (hb : 0 < b) (h0 : 0 < base) (hM : 0 ≤ M) (hM' : M ≤ 9223372036854775807) (hs : p.text.size ≤ 1048576)
    (hl : bs.length ≤ 1073741824) (hr : (1099511627776 : Int) ≤ M) (hm : w.cell? ⟨0, 0, none⟩ = some (.int .i64 m)) :
    Calls Tryd.prog 23 #[.pointer (some ⟨b, 0, none⟩), .agg #[.string p.text, .int .u64 p.num, .bool p.isNum]] w fun r w' => r = .returned (.tuple #[]) ∧ (∃ v', WIs w' base b M (bs ++ enc p) false v') ∧ WKeeps base b w w' := by
  obtain ⟨t, n, i⟩ := p
  have hn := hp.1
  clear hp
  dsimp only at *
  have hwb := h.lt
  have hne : w.heap.size ≠ b := by omega
  have k0 : WKeeps base b w (w.alloc (.cells #[.string t, .int .u64 n, .bool i] 47)) := (WKeeps.refl _ _ _).alloc _
  have g0 := block_alloc_at w (.cells #[.string t, .int .u64 n, .bool i] 47)
  have h1 := h.alloc (.cells #[.string t, .int .u64 n, .bool i] 47)
  have hbase1 : base ≤ (w.alloc (.cells #[.string t, .int .u64 n, .bool i] 47)).heap.size := by simp; omega
  cases i with
  | true =>
    go_enter Tryd.func23, Tryd.ntmps23
    go_wp2_with fail
    refine (wu8_ok 1 h1 hbase1 (by decide) hM hM' (by omega) (by omega)).mono ?_
    rintro e w2 ⟨rfl, ⟨v2, h2⟩, k2⟩
    have g2 := part_kept k2 g0 hne
    have q1 := cell_of_block (o := 1) g2 rfl
    have hbase2 : base ≤ w2.heap.size := Nat.le_trans hbase1 k2.size
    go_wp2_with fail
    refine (wu64_ok n h2 hbase2 hn hM hM' (by simp [be1]; omega) (by simp [be1]; omega)).mono ?_
    rintro e w3 ⟨rfl, ⟨v3, h3⟩, k3⟩
    go_wp2_with fail
    refine bodyPost_ret (results_none rfl _ _ _) rfl ?_
    refine ⟨rfl, ⟨v3, ?_⟩, (k0.trans k2).trans k3⟩
    rw [be1_one, List.append_assoc] at h3
    exact h3
  | false =>
    have hz := size_list t
    obtain ⟨T, hT⟩ : ∃ T : ByteArray, T = ⟨(esc t.data.toList).toArray⟩ := ⟨_, rfl⟩
    have HTl : Hid (T.data.toList = esc t.data.toList) := by rw [Hid, hT]
    have hTs : T.size ≤ 2097152 := by
      rw [hT, size_mk]
      have := esc_len t.data.toList
      omega
    have HT : Hid _ := hT
    clear hT
    go_enter Tryd.func23, Tryd.ntmps23
    go_wp2_with fail
    refine (wu8_ok 2 h1 hbase1 (by decide) hM hM' (by omega) (by omega)).mono ?_
    rintro e w2 ⟨rfl, ⟨v2, h2⟩, k2⟩
    have g2 := part_kept k2 g0 hne
    have q1 := cell_of_block (o := 0) g2 rfl
    have hbase2 : base ≤ w2.heap.size := Nat.le_trans hbase1 k2.size
    have hm2 := var_kept (k0.trans k2) hm hb h0
    go_wp2_with fail
    refine (Tryd.strings_ReplaceAll t ⟨#[0]⟩ ⟨#[0, 255]⟩ m w2 (by omega) hm2 (by decide) ?hx).mono ?_
    case hx =>
      have := count_small t 0
      rw [show (⟨#[0, 255]⟩ : ByteArray).size = 2 from rfl]
      omega
    rintro e w3 ⟨rfl, b3⟩
    rw [show (⟨(Lib.replaceAll t.data.toList (⟨#[0]⟩ : ByteArray).data.toList (⟨#[0, 255]⟩ : ByteArray).data.toList).toArray⟩ : ByteArray) = T from by rw [HT.out]; congr 2; exact esc_replaceAll _]
    have h3 := h2.below b3
    have HB : Hid (bs ++ be1 2 = bs ++ [2]) := rfl
    have HN : (bs ++ be1 2).length ≤ 1073741825 := by simp [be1]; omega
    generalize bs ++ be1 2 = cur at *
    have hbase3 : base ≤ w3.heap.size := Nat.le_trans hbase2 b3.size
    go_wp2_with fail
    refine (wraw_ok T h3 hbase3 hM hM' (by omega) (by omega)).mono ?_
    rintro e w4 ⟨rfl, ⟨v4, h4⟩, k4⟩
    have hbase4 : base ≤ w4.heap.size := Nat.le_trans hbase3 k4.size
    have hT4 := size_list T
    have HN2 : (cur ++ T.data.toList).length ≤ 1073741825 + 2097152 := by rw [List.length_append]; omega
    have HE : Hid (cur ++ T.data.toList = bs ++ [2] ++ esc t.data.toList) := by rw [Hid, HB.out, HTl.out]
    generalize cur ++ T.data.toList = cur2 at *
    have c5 := wraw_ok ⟨#[0]⟩ h4 hbase4 hM hM' (by rw [show (⟨#[0]⟩ : ByteArray).size = 1 from rfl]; omega) (by rw [show (⟨#[0]⟩ : ByteArray).size = 1 from rfl]; omega)
    go_wp2_with fail
    refine c5.mono ?_
    rintro e w5 ⟨rfl, ⟨v5, h5⟩, k5⟩
    go_wp2_with fail
    go_end0
    refine ⟨rfl, ⟨v5, ?_⟩, (((k0.trans k2).trans (WKeeps.of_below b3)).trans k4).trans k5⟩
    rw [HE.out, List.append_assoc, List.append_assoc] at h5
    exact h5
end
end Go.Proofs.YtkebddjndljodaaDoor
