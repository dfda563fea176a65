/-
  The contract of Split at a key's bytes: just its parts.
-/
import Derived.Test.YtkebddjndljodaaDoorCutPart
import Derived.Test.YtkebddjndljodaaDoorOrderWalk
namespace Go.Proofs.YtkebddjndljodaaDoor
open Go.RowKit
/-- Parts as cells. -/
def pcells : List Prt → List Value
  | [] => []
  | p :: l => .string p.text :: .int .u64 p.num :: .bool p.isNum :: pcells l
theorem pcells_len : ∀ l : List Prt, (pcells l).length = l.length * 3
  | [] => rfl
  | p :: l => by simp [pcells, pcells_len l]; omega
theorem pcells_append : ∀ a b : List Prt, pcells (a ++ b) = pcells a ++ pcells b
  | [], _ => rfl
  | p :: a, b => by simp [pcells, pcells_append a b]
theorem pcells_one (l : List Prt) : ∀ u ∈ pcells l, u.oneCell' = true := by
  induction l with
  | nil => intro u hu; cases hu
  | cons p l ih =>
    intro u hu
    simp only [pcells, List.mem_cons] at hu
    rcases hu with rfl | rfl | rfl | hu
    · rfl
    · rfl
    · rfl
    · exact ih u hu
theorem pcells_at : ∀ {l : List Prt} {j : Nat} {p : Prt}, l[j]? = some p → (pcells l)[j * 3]? = some (.string p.text) ∧ (pcells l)[j * 3 + 1]? = some (.int .u64 p.num) ∧ (pcells l)[j * 3 + 2]? = some (.bool p.isNum)
  | [], j, p, h => by simp at h
  | q :: l, 0, p, h => by simp at h; subst h; exact ⟨rfl, rfl, rfl⟩
  | q :: l, j + 1, p, h => by
    have h' : l[j]? = some p := by simpa using h
    obtain ⟨h1, h2, h3⟩ := pcells_at h'
    have e : (j + 1) * 3 = j * 3 + 3 := by omega
    rw [e]
    exact ⟨h1, h2, h3⟩
/-- A row of the call's own that holds parts is parts in memory. -/
theorem parts_of_row {W : World} {a : Option Addr} {n cap B : Nat} {l : List Prt} (h : W.ownsRow B 47 3 (.slice a n cap) n (pcells l)) : PartsAt W a l := by
  intro j p hj
  obtain ⟨h1, h2, h3⟩ := pcells_at hj
  rcases h.2 with ⟨hv, hn⟩ | ⟨g, cap', cur, hv, _⟩
  · have h0 := h.1
    rw [hn, pcells_len] at h0
    have : l = [] := List.eq_nil_of_length_eq_zero (by omega)
    subst this
    simp at hj
  · simp only [Value.slice.injEq] at hv
    obtain ⟨rfl, _, rfl⟩ := hv
    have c : ∀ o u, (pcells l)[o]? = some u → W.cell? ⟨g, 0 + o, none⟩ = some u := fun o u hu => by
      have := h.cells rfl o u hu
      have ea : (⟨g, 0, none⟩ : Addr).add o = ⟨g, 0 + o, none⟩ := by by_cases hi0 : o = 0 <;> simp [Addr.add, hi0]
      rw [ea] at this
      exact this
    refine ⟨g, 0, rfl, World.block_lt_of_cell? W _ (c _ _ h1), c _ _ h1, ?_, ?_⟩
    · rw [Nat.add_assoc]; exact c _ _ h2
    · rw [Nat.add_assoc]; exact c _ _ h3
theorem form_of_row3 {W : World} {B n : Nat} {v : Value} {xs : List Value} (h : W.ownsRow B 47 3 v n xs) : ∃ a cap, v = .slice a n cap := by
  rcases h.2 with ⟨rfl, hn⟩ | ⟨g, cap, cur, rfl, _⟩
  · exact ⟨none, 0, by rw [hn]⟩
  · exact ⟨_, _, rfl⟩
theorem row3_below {w W' : World} {B n : Nat} {v : Value} {xs : List Value} (h : w.ownsRow B 47 3 v n xs) (k : Below w.heap.size w W') : W'.ownsRow B 47 3 v n xs := by
  refine ⟨h.1, ?_⟩
  rcases h.2 with q | ⟨g, cap, cur, rfl, hg, hh, r⟩
  · exact Or.inl q
  · exact Or.inr ⟨g, cap, cur, rfl, hg, by rw [k.block g (lt_of_block hh)]; exact hh, r⟩
theorem info47 : (Tryd.prog.info? 47).map (fun i => (i.zero, i.size, i.bytes)) = some (some (.agg #[.string ⟨#[]⟩, .int .u64 0, .bool false]), 3, 32) := by kernel_rfl
/-- How many bytes a string has. -/
def strSize : Value → Nat
  | .string s => s.size
  | _ => 0
theorem keyOf_head (l : List Prt) : (keyOf l).head? ≠ some 255 := by
  cases l with
  | nil => simp [keyOf]
  | cons p l =>
    obtain ⟨c, t, h, hc⟩ := enc_cons p
    rw [keyOf_cons, h]
    simp
    rintro rfl
    exact absurd hc (by decide)
theorem three_cells (W : World) (p : Prt) : ∀ j x, (pcells [p])[j]? = some x → (W.alloc (.cells #[.string p.text, .int .u64 p.num, .bool p.isNum] 47)).cell? ((⟨W.heap.size, 0, none⟩ : Addr).add j) = some x := by
  intro j x hj
  have ea : (⟨W.heap.size, 0, none⟩ : Addr).add j = ⟨W.heap.size, j, none⟩ := by by_cases hi0 : j = 0 <;> simp [Addr.add, hi0]
  rw [ea]
  exact cell_of_block (block_alloc_at W _) (by rw [List.getElem?_toArray]; exact hj)
set_option maxRecDepth 100000 in
set_option maxHeartbeats 4000000 in
theorem split_any (ps : List Prt) (K : ByteArray) (w : World) (hK : K.data.toList = keyOf ps) (h8 : ps.length ≤ 8) (hok : ∀ p ∈ ps, p.ok) (hz : K.size ≤ 1073741824) :
    Calls Tryd.prog 10 #[.string K] w fun r w' => ∃ a cap, r = .returned (.tuple #[.slice a ps.length cap, .int .i64 0]) ∧ PartsAt w' a ps ∧ Below w.heap.size w w' := by
  obtain ⟨i0, hi, hz0, hz1, hz2⟩ := info_parts info47
  have HOK : Hid _ := hok
  obtain ⟨n, hn⟩ : ∃ n, ps.length = n := ⟨_, rfl⟩
  have HN : Hid _ := hn
  rw [hn] at h8
  rw [hn]
  have HK : Hid _ := hK
  clear hok hn hK
  go_enter Tryd.func10, Tryd.ntmps10
  go_wp2_with fail
  go_loopw [0, 4] (fun key v wr => ∃ k : Nat, ∃ K, k ≤ n ∧ key = .string K ∧ K.size ≤ 1073741824 ∧ Hid (K.data.toList = keyOf (ps.drop k)) ∧ wr.ownsRow w.heap.size 47 3 v k (pcells (ps.take k)) ∧ Below w.heap.size w wr) (fun key _ _ => strSize key)
  case atStart => exact ⟨0, K, by omega, rfl, hz, HK.out, World.ownsRow_nil _ _ _ _, Below.refl _ _⟩
  case round =>
    obtain ⟨k, X, hk, rfl, hXz, HX, hown, hbel⟩ := hrel
    clear hz HK
    have hsz := hbel.size
    obtain ⟨a, cap, rfl⟩ := form_of_row3 hown
    by_cases hlt : k < n
    · obtain ⟨p, hp⟩ : ∃ p, ps[k]? = some p := ⟨ps[k]'(by rw [HN.out]; exact hlt), List.getElem?_eq_getElem _⟩
      have HX2 : Hid (X.data.toList = enc p ++ keyOf (ps.drop (k + 1))) := by rw [Hid, HX.out, prt_at hp, keyOf_cons]
      have HTK : Hid (ps.take (k + 1) = ps.take k ++ [p]) := take_at hp
      have HPO := HOK.out p (mem_at hp)
      have HC : Hid (∀ W, Calls Tryd.prog 25 #[.string X] W fun r w' => r = .returned (.tuple #[.agg #[.string p.text, .int .u64 p.num, .bool p.isNum], .int .i64 ((enc p).length : Int), .int .i64 0]) ∧ Below W.heap.size W w') := fun W => cutPart_any p X _ W HPO HX2.out (keyOf_head _) hXz
      have hEl : (enc p).length ≤ X.size := by
        have h1 := congrArg List.length HX2.out
        rw [List.length_append] at h1
        have h2 := size_list X
        omega
      have HEp : Hid (0 < (enc p).length) := by
        obtain ⟨c, t, h, _⟩ := enc_cons p
        rw [Hid, h]; simp
      obtain ⟨L, hL⟩ : ∃ L, (enc p).length = L := ⟨_, rfl⟩
      rw [hL] at HC hEl HEp
      have HX3 : Hid ((X.extract L X.size).data.toList = keyOf (ps.drop (k + 1))) := by
        rw [Hid, ext_list', HX2.out, ← hL, List.drop_left, List.take_of_length_le]
        have h1 := congrArg List.length HX2.out
        rw [List.length_append] at h1
        have h2 := size_list X
        omega
      have hne : X.toList.isEmpty = false := by
        rw [ByteArray.toList_eq, HX2.out]
        obtain ⟨c, t, h, _⟩ := enc_cons p
        rw [h]; rfl
      obtain ⟨c, hc, hcc⟩ : ∃ c, X.data.toList[0]? = some c ∧ (c = 1 ∨ c = 2) := by
        rw [HX2.out]
        unfold enc
        split
        · exact ⟨1, rfl, Or.inl rfl⟩
        · exact ⟨2, rfl, Or.inr rfl⟩
      obtain ⟨hx0, hxc⟩ := byte_at hc
      have h8' : ((k : Int) == 8) = false := by simp; omega
      clear hc hp hL HX2 HX HPO
      rcases hcc with rfl | rfl
      all_goals
        go_upto_region 10 with (go_at_call 25; refine (HC.out _).mono ?_; rintro e w1 ⟨rfl, b1⟩)
        have r1 := row3_below hown b1
        have HB1 : Hid (Below w.heap.size w w1) := hbel.trans (b1.mono hbel.size)
        obtain ⟨wb, hwb⟩ : ∃ wb, w1.alloc (.cells #[.string p.text, .int .u64 p.num, .bool p.isNum] 47) = wb := ⟨_, rfl⟩
        obtain ⟨bx, hbx⟩ : ∃ bx, w1.heap.size = bx := ⟨_, rfl⟩
        have g1 : wb.heap[bx]? = some (.cells #[.string p.text, .int .u64 p.num, .bool p.isNum] 47 (0, 0)) := by rw [← hwb, ← hbx]; exact block_alloc_at _ _
        have r2 : wb.ownsRow w.heap.size 47 3 (.slice a k cap) k (pcells (ps.take k)) := by rw [← hwb]; exact r1.alloc _
        have HB2 : Hid (Below w.heap.size w wb) := by rw [← hwb]; exact HB1.out.alloc HB1.out.size _
        have z2 := HB2.out.size
        rw [hwb, hbx]
        have c0 := cell_of_block (o := 0) g1 rfl
        have c1 := cell_of_block (o := 1) g1 rfl
        have c2 := cell_of_block (o := 2) g1 rfl
        clear hwb hbx r1 hown hbel b1 g1 HB1
        go_wp2_with (at_builtin; refine wpList_append_own _ rfl (.tmp 30) (.tmp 32) 22 rfl w.heap.size 47 i0 (.agg #[.string ⟨#[]⟩, .int .u64 0, .bool false]) 3 32 Tryd.underlying22 hi hz0 hz1 hz2 rfl (by decide) _ _ _ rfl (r2.alloc _) ⟨wb.heap.size, 0, none⟩ 1 1 (pcells [p]) rfl rfl (three_cells _ _) (pcells_one _) (by unfold maxLen; omega) (by omega) (by simp; omega) ?_)
        intro v4 w4 hown4 hg4 _
        obtain ⟨a4, cap4, rfl⟩ := form_of_row3 hown4
        have HR4 : Hid (w4.ownsRow w.heap.size 47 3 (.slice a4 (k + 1) cap4) (k + 1) (pcells (ps.take (k + 1)))) := by
          rw [Hid, HTK.out, pcells_append]; exact hown4
        have HB4 : Hid (Below w.heap.size w w4) := (HB2.out.alloc z2 _).grown hg4 (by simp; omega) (fun i hi => (r2.lt i hi).1)
        clear hown4 hg4 r2
        go_wp2_with fail
        go_roundw
        case rel => exact ⟨k + 1, X.extract L X.size, by omega, rfl, by have := ext_le X L X.size; omega, HX3.out, HR4.out, HB4.out⟩
        case measure => simp only [strSize]; rw [ext_size (Nat.le_refl _)]; have := HEp.out; omega
    · obtain rfl : k = n := by omega
      have hX0 : X = ⟨#[]⟩ := bytes_ext' (by rw [HX.out, List.drop_eq_nil_of_le (by rw [HN.out]; exact Nat.le_refl _)]; rfl)
      subst hX0
      go_wp2_with fail
      go_ret2
      refine ⟨a, ⟨cap, rfl⟩, ?_, hbel⟩
      rw [List.take_of_length_le (by rw [HN.out]; exact Nat.le_refl _)] at hown
      exact parts_of_row hown
end Go.Proofs.YtkebddjndljodaaDoor
